/- Contract: suLay; append of a slice that is not nil in a drawn region. Conditions: the word is nil or not, the block is not nil; at most 2^19 numbers each. -/
import Derived.Test.YtlkhkecnghpokabSo1
import Derived.Test.YtlkhkecnghpokabGr1
namespace Go.Proofs.Ytlkhkecnghpokab
open Go.RowKit
set_option linter.unusedVariables false
set_option maxRecDepth 4000

theorem Sits.src9 {w : World} {b off n c : Nat} {xs : List Int} (h : Sits w (.slice (some ⟨b, off, none⟩) n c) xs) : ∀ (j : Nat) (u : Value), (xs.map (Value.int .i64))[j]? = some u → w.cell? ((⟨b, off, none⟩ : Addr).add j) = some u := by
  obtain ⟨b', off', c', e, hc1, hm, hb, hc⟩ := h
  simp only [Value.slice.injEq, Option.some.injEq, Addr.mk.injEq, and_true] at e
  obtain ⟨⟨rfl, rfl⟩, -, rfl⟩ := e
  exact Sits.src (n := 0) (c := 0) hc
theorem step_append_sits {P : Program} (w : World) {ops : Array Oper} {o : Oper} {a : Act} {K : Act → World → Prop} {Q : Exit → Act → World → Prop} {E : Prop} (hgd : o.guard = none) (s x : Operand) (t : TypeId)
    (ho : o.op = .call { callee := .builtin .append, args := #[s, x], argTypes := #[t, t] }) (base : Nat) (i : TypeInfo) (ht : P.underlying t = some (.slice 3)) (hi : P.info? 3 = some i) (hz : i.zero = some (.int .i64 0)) (hsize : i.size = 1) (hby : i.bytes = 8)
    (v : Value) (xs : List Int) (hs : a.eval s = v) (hown : Own w base v xs) (g off m c : Nat) (ys : List Int) (hx : a.eval x = .slice (some ⟨g, off, none⟩) m c) (hm : m = ys.length) (hu : Sits w (.slice (some ⟨g, off, none⟩) m c) ys) (hl : xs.length + ys.length ≤ 1048576) (hbase : base ≤ w.heap.size)
    (h : ∀ (v' : Value) (w' : World), Own w' base v' (xs ++ ys) → w.grownBy w' v.ownBlock → K (a.put o.dst v') w') : if Region.wanted o (yielded ops a.tmps) = true then Oper.wp P o a w K Q else E := by
  refine step_append_any w hgd s x t ho base 3 i (.int .i64 0) 1 8 ht hi hz hsize hby rfl (by decide) v xs.length (xs.map (Value.int .i64)) hs hown.row ⟨g, off, none⟩ m c (ys.map (Value.int .i64)) hx (by simp [hm]) hu.src9 (ints_one ys) (by unfold maxLen; omega) (by omega) hbase ?_
  intro v' w' h3 h4 _
  refine h v' w' ?_ h4
  unfold Own
  rw [List.length_append, List.map_append, ← hm]
  exact h3
theorem l1OwnN_any (v : Value) (xs : List Int) (w : World) (h : RdN w v xs) (hl : xs.length ≤ 1048576) :
    Calls Try.prog 89 #[v] w fun e w' => ∃ u, e = .returned u ∧ Own w' w.heap.size u xs ∧ Below w.heap.size w w' := by
  rcases h with ⟨rfl, rfl⟩ | h
  · obtain ⟨i0, hi, hz0, hz1, hz2⟩ := info_parts Try.info3
    have HM := hid (show (w.alloc (.cells #[] 3)).ownsRow w.heap.size 3 1 (.slice (some ⟨w.heap.size, 0, none⟩) 0 0) 0 [] from World.ownsRow_made w #[] 0 (Nat.le_refl _) (by unfold maxLen; omega) rfl)
    have HB := hid ((Below.refl w.heap.size w).alloc (Nat.le_refl _) (.cells #[] 3))
    go_enter Try.func89, Try.ntmps89
    go_wp2_with (first
      | (at_builtin; (refine wpList_append_none9 rfl _ _ 22 rfl w.heap.size 3 i0 1 Try.underlying22 hi _ 0 _ rfl HM.out rfl ?_))
      | fail)
    go_ret
    exact ⟨_, rfl, HM.out, HB.out⟩
  · exact (l1Own_any v xs w h hl).mono (fun e w' ⟨u, h1, h2, h3, _⟩ => ⟨u, h1, h2, h3⟩)
set_option maxHeartbeats 2000000 in
theorem suLay_any (v u : Value) (ws bs : List Int) (w : World) (hv : RdN w v ws) (hu : Sits w u bs) (hw : ws.length ≤ 500000) (hb : bs.length ≤ 500000) (h1 : 1 ≤ bs.length) :
    Calls Try.prog 90 #[v, u] w fun e w' => ∃ r, e = .returned r ∧ Own w' w.heap.size r (layL ws bs) ∧ Below w.heap.size w w' := by
  have HV := hid hv
  have HU := hid hu
  have hus := hu
  obtain ⟨b, off, c, rfl, hc1, hcm, hb0, hbc⟩ := hus
  clear hbc hu
  rcases hv with ⟨rfl, rfl⟩ | hv
  · have hmn : min (0 : Int) (bs.length : Int) = 0 := by omega
    have hww : IntKind.i64.wrap (0 : Int) = 0 := rfl
    have hbl : ¬ c = 0 := by omega
    have HT := hid (Sits_takeX 0 HU.out (Nat.zero_le _))
    have HFL := hid (show [([] : List Int), bs].flatten = layL [] bs by unfold layL; simp [layK])
    obtain ⟨N, hN⟩ : ∃ N, N = (layL [] bs).length := ⟨_, rfl⟩
    have HLN := hid hN.symm
    have hN6 : N ≤ 1048576 := by have := layL_length [] bs; rw [← hN] at this; simp at this; omega
    have HDB := HU
    clear hN
    obtain ⟨i0, hi, hz0, hz1, hz2⟩ := info_parts Try.info3
    go_enter Try.func90, Try.ntmps90
    go_wp2_with (first | (go_at_call 106; (refine (l1Least_any _ _ _).mono ?_); (rintro e w1 ⟨rfl, rfl⟩); (rw [hmn])) | fail)
    go_loopw [5] (fun i wr => i = .int .i64 0 ∧ Below w.heap.size w wr) (fun i _ => 0)
    case atStart => exact ⟨rfl, Below.refl _ _⟩
    case round =>
      obtain ⟨rfl, hbel⟩ := hrel
      have HB := hid hbel
      have HT2 := hid ((HT.out.below hbel).below ((Below.refl wr.heap.size wr).drew))
      have HN2 := hid (show RdN wr.drew (.slice none 0 0) [] from .inl ⟨rfl, rfl⟩)
      have HDE := hid (show decide (([] : List Int) = bs.take 0) = true by simp)
      clear hbel
      go_wp2_with fail
      go_region_held3 (fun w' => Below wr.heap.size wr w')
        (first | exact Below.refl _ _ | exact (Below.refl _ _).drew | exact HB3.out | go_keep | fail)
        (first
          | (go_at_call 75; (refine (l1Same_any _ _ [] (bs.take 0) _ HN2.out.reads HT2.out.reads).mono ?_); (rintro e w3 ⟨rfl, hb3⟩); (rw [HDE.out]); (have HB3 := hid (Below_chain ((Below.refl wr.heap.size wr).drew) hb3)); (clear hb3))
          | fail)
      have HB4 := hid (Below_chain HB.out HB3.out)
      have HV4 := hid ((HV.out.below HB4.out).below ((Below.refl w3.heap.size w3).drew))
      have hs4 := HB4.out.size
      have HDB4 := hid (HDB.out.below HB4.out)
      have HFL2 := hid (show [] ++ bs = layL [] bs by have := HFL.out; simpa using this)
      have HSUM := hid (show ([] : List Int).length + (bs : List Int).length ≤ 1048576 by show 0 + bs.length ≤ 1048576; omega)
      have HML := hid (show bs.length = (bs : List Int).length by rfl)
      have HWL := hid (show ([] : List Int).length ≤ 1048576 by show 0 ≤ 1048576; omega)
      go_wp2_with fail
      go_region_held3 (fun w' => Below w3.heap.size w3 w')
        (first | exact Below.refl _ _ | exact (Below.refl _ _).drew | exact HB5.out | exact HB6.out | go_keep | fail)
        (first
          | (refine step_append_sits _ rfl _ _ 22 rfl w3.heap.size i0 Try.underlying22 hi hz0 hz1 hz2 u5 [] rfl HO5.out _ _ _ _ (bs) rfl rfl (HDB4.out.below HB5.out) HSUM.out HB5.out.size ?_; intro v6 w6 ho6 hg6; have HO6 := hid (show Own w6 w3.heap.size v6 (layL [] bs) by rw [← HFL2.out]; exact ho6); have HB6 := hid (HB5.out.grown hg6 HB5.out.size (fun q hq => (World.ownsRow.lt HO5.out q hq).1)); clear ho6 hg6)
          | (go_at_call 89; (refine (l1OwnN_any _ [] _ HV4.out HWL.out).mono ?_); (rintro e w5 ⟨u5, rfl, ho5, hb5⟩); (have HO5 := hid (show Own w5 w3.heap.size u5 [] from ho5)); (have HB5 := hid (Below_chain ((Below.refl w3.heap.size w3).drew) hb5)); (clear ho5 hb5))
          | fail)
      go_wp2_with fail
      go_ret
      exact ⟨_, rfl, HO6.out.mono hs4, Below_chain HB4.out HB6.out⟩
  · have hvs := hv
    obtain ⟨b2, off2, c2, rfl, hd1, hdm, hd0, hdc⟩ := hvs
    clear hdc
    have HVS := hid hv
    clear hv
    obtain ⟨K, hK⟩ : ∃ K, K = min ws.length bs.length := ⟨_, rfl⟩
    have hmn : min (ws.length : Int) (bs.length : Int) = (K : Int) := by omega
    have hK1 : K ≤ ws.length := by omega
    have hK2 : K ≤ bs.length := by omega
    have HK := hid hK
    obtain ⟨N, hN⟩ : ∃ N, N = (layL ws bs).length := ⟨_, rfl⟩
    have HLN := hid hN.symm
    have hN6 : N ≤ 1048576 := by have := layL_length ws bs; rw [← hN] at this; omega
    clear hN hK
    obtain ⟨i0, hi, hz0, hz1, hz2⟩ := info_parts Try.info3
    go_enter Try.func90, Try.ntmps90
    go_wp2_with (first | (go_at_call 106; (refine (l1Least_any _ _ _).mono ?_); (rintro e w1 ⟨rfl, rfl⟩); (rw [hmn])) | fail)
    go_loopw [5] (fun i wr => ∃ k : Nat, i = .int .i64 (k : Int) ∧ k ≤ K ∧ layK ws bs K = layK ws bs k ∧ Below w.heap.size w wr) (fun i _ => (intOf i).toNat)
    case atStart => exact ⟨K, rfl, Nat.le_refl _, rfl, Below.refl _ _⟩
    case round =>
      obtain ⟨k, rfl, hk, hlay, hbel⟩ := hrel
      have HB := hid hbel
      have HLAY := hid hlay
      obtain ⟨j, hj⟩ : ∃ j, j = ws.length - k := ⟨_, rfl⟩
      have e1 : (ws.length : Int) - (k : Int) = (j : Int) := by omega
      have e2 : ws.length - j = k := by omega
      have p1 : (0 : Int) ≤ (j : Int) := by omega
      have p2 : (j : Int) ≤ (ws.length : Int) := by omega
      have p3 : (0 : Int) ≤ (k : Int) := by omega
      have p4 : (k : Int) ≤ (c : Int) := by omega
      have p5 : (k : Int) ≤ (bs.length : Int) := by omega
      have p6 : j ≤ c2 := by omega
      have p7 : (j : Int) ≤ (c2 : Int) := by omega
      have hww : IntKind.i64.wrap (j : Int) = (j : Int) := IntWalk.i64_in _ (by omega)
      have HT2 := hid (((Sits_takeX k HU.out (by omega)).below hbel).below ((Below.refl wr.heap.size wr).drew))
      have HJ := hid hj
      clear hbel hlay hj
      by_cases hcap : c2 = j
      · have HN2 := hid (show RdN wr.drew (.slice (some ⟨b2, off2, none⟩) k 0) (ws.drop j) from .inr (by
          rw [show k = 0 by omega]
          exact ((Sits_endX j HVS.out (by omega) 0 (by omega)).below HB.out).below ((Below.refl wr.heap.size wr).drew)))
        have he : ws.drop j = bs.take k := by rw [show k = 0 by omega, List.drop_eq_nil_of_le (by omega)]; simp
        have HDE := hid (show decide (ws.drop j = bs.take k) = true by simpa using he)
        have HEN := hid (show layK ws bs (min ws.length bs.length) = k by rw [← HK.out, HLAY.out]; exact layK_yes (by rw [← HJ.out]; exact he))
        have HFL := hid (laid_end HEN.out)
        have HDB := hid (Sits_dropX k HU.out (by omega) (bs.length - k) rfl)
        have hbc : ¬ c = k := by omega
        clear he
        subst hcap
        go_wp2_with fail
        go_region_held3 (fun w' => Below wr.heap.size wr w')
          (first | exact Below.refl _ _ | exact (Below.refl _ _).drew | exact HB3.out | go_keep | fail)
          (first
            | (go_at_call 75; (refine (l1Same_any _ _ (ws.drop c2) (bs.take k) _ HN2.out.reads HT2.out.reads).mono ?_); (rintro e w3 ⟨rfl, hb3⟩); (rw [HDE.out]); (have HB3 := hid (Below_chain ((Below.refl wr.heap.size wr).drew) hb3)); (clear hb3))
            | fail)
        have HB4 := hid (Below_chain HB.out HB3.out)
        have HV4 := hid ((HV.out.below HB4.out).below ((Below.refl w3.heap.size w3).drew))
        have hs4 := HB4.out.size
        have HDB4 := hid (HDB.out.below HB4.out)
        have HFL2 := hid (show ws ++ bs.drop k = layL ws bs by have := HFL.out; simpa using this)
        have HSUM := hid (show (ws : List Int).length + (bs.drop k : List Int).length ≤ 1048576 by rw [List.length_drop]; omega)
        have HML := hid (show (bs.length - k) = (bs.drop k : List Int).length by rw [List.length_drop])
        have HWL := hid (show (ws : List Int).length ≤ 1048576 by skip; omega)
        go_wp2_with fail
        go_region_held3 (fun w' => Below w3.heap.size w3 w')
          (first | exact Below.refl _ _ | exact (Below.refl _ _).drew | exact HB5.out | exact HB6.out | go_keep | fail)
          (first
            | (refine step_append_sits _ rfl _ _ 22 rfl w3.heap.size i0 Try.underlying22 hi hz0 hz1 hz2 u5 ws rfl HO5.out _ _ _ _ (bs.drop k) rfl HML.out (HDB4.out.below HB5.out) HSUM.out HB5.out.size ?_; intro v6 w6 ho6 hg6; have HO6 := hid (show Own w6 w3.heap.size v6 (layL ws bs) by rw [← HFL2.out]; exact ho6); have HB6 := hid (HB5.out.grown hg6 HB5.out.size (fun q hq => (World.ownsRow.lt HO5.out q hq).1)); clear ho6 hg6)
            | (go_at_call 89; (refine (l1OwnN_any _ ws _ HV4.out HWL.out).mono ?_); (rintro e w5 ⟨u5, rfl, ho5, hb5⟩); (have HO5 := hid (show Own w5 w3.heap.size u5 ws from ho5)); (have HB5 := hid (Below_chain ((Below.refl w3.heap.size w3).drew) hb5)); (clear ho5 hb5))
            | fail)
        go_wp2_with fail
        go_ret
        exact ⟨_, rfl, HO6.out.mono hs4, Below_chain HB4.out HB6.out⟩
      · have HN2 := hid (show RdN wr.drew (.slice (some ⟨b2, off2 + j, none⟩) k (c2 - j)) (ws.drop j) from .inr (((Sits_dropX j HVS.out (by omega) k (by omega)).below HB.out).below ((Below.refl wr.heap.size wr).drew)))
        by_cases he : ws.drop j = bs.take k
        · have HDE := hid (show decide (ws.drop j = bs.take k) = true by simpa using he)
          have HEN := hid (show layK ws bs (min ws.length bs.length) = k by rw [← HK.out, HLAY.out]; exact layK_yes (by rw [← HJ.out]; exact he))
          have HFL := hid (laid_end HEN.out)
          by_cases hbc : c = k
          · have hbk : bs.length = k := by omega
            have HDB := hid (Sits_endX k HU.out (by omega) 0 (by omega))
            have e3 : bs.length - k = 0 := by omega
            clear hbk
            clear he
            subst hbc
            go_wp2_with fail
            go_region_held3 (fun w' => Below wr.heap.size wr w')
              (first | exact Below.refl _ _ | exact (Below.refl _ _).drew | exact HB3.out | go_keep | fail)
              (first
                | (go_at_call 75; (refine (l1Same_any _ _ (ws.drop j) (bs.take c) _ HN2.out.reads HT2.out.reads).mono ?_); (rintro e w3 ⟨rfl, hb3⟩); (rw [HDE.out]); (have HB3 := hid (Below_chain ((Below.refl wr.heap.size wr).drew) hb3)); (clear hb3))
                | fail)
            have HB4 := hid (Below_chain HB.out HB3.out)
            have HV4 := hid ((HV.out.below HB4.out).below ((Below.refl w3.heap.size w3).drew))
            have hs4 := HB4.out.size
            have HDB4 := hid (HDB.out.below HB4.out)
            have HFL2 := hid (show ws ++ bs.drop c = layL ws bs by have := HFL.out; simpa using this)
            have HSUM := hid (show (ws : List Int).length + (bs.drop c : List Int).length ≤ 1048576 by rw [List.length_drop]; omega)
            have HML := hid (show 0 = (bs.drop c : List Int).length by rw [List.length_drop]; omega)
            have HWL := hid (show (ws : List Int).length ≤ 1048576 by skip; omega)
            go_wp2_with fail
            go_region_held3 (fun w' => Below w3.heap.size w3 w')
              (first | exact Below.refl _ _ | exact (Below.refl _ _).drew | exact HB5.out | exact HB6.out | go_keep | fail)
              (first
                | (refine step_append_sits _ rfl _ _ 22 rfl w3.heap.size i0 Try.underlying22 hi hz0 hz1 hz2 u5 ws rfl HO5.out _ _ _ _ (bs.drop c) rfl HML.out (HDB4.out.below HB5.out) HSUM.out HB5.out.size ?_; intro v6 w6 ho6 hg6; have HO6 := hid (show Own w6 w3.heap.size v6 (layL ws bs) by rw [← HFL2.out]; exact ho6); have HB6 := hid (HB5.out.grown hg6 HB5.out.size (fun q hq => (World.ownsRow.lt HO5.out q hq).1)); clear ho6 hg6)
                | (go_at_call 89; (refine (l1OwnN_any _ ws _ HV4.out HWL.out).mono ?_); (rintro e w5 ⟨u5, rfl, ho5, hb5⟩); (have HO5 := hid (show Own w5 w3.heap.size u5 ws from ho5)); (have HB5 := hid (Below_chain ((Below.refl w3.heap.size w3).drew) hb5)); (clear ho5 hb5))
                | fail)
            go_wp2_with fail
            go_ret
            exact ⟨_, rfl, HO6.out.mono hs4, Below_chain HB4.out HB6.out⟩
          · have HDB := hid (Sits_dropX k HU.out (by omega) (bs.length - k) rfl)
            clear he
            go_wp2_with fail
            go_region_held3 (fun w' => Below wr.heap.size wr w')
              (first | exact Below.refl _ _ | exact (Below.refl _ _).drew | exact HB3.out | go_keep | fail)
              (first
                | (go_at_call 75; (refine (l1Same_any _ _ (ws.drop j) (bs.take k) _ HN2.out.reads HT2.out.reads).mono ?_); (rintro e w3 ⟨rfl, hb3⟩); (rw [HDE.out]); (have HB3 := hid (Below_chain ((Below.refl wr.heap.size wr).drew) hb3)); (clear hb3))
                | fail)
            have HB4 := hid (Below_chain HB.out HB3.out)
            have HV4 := hid ((HV.out.below HB4.out).below ((Below.refl w3.heap.size w3).drew))
            have hs4 := HB4.out.size
            have HDB4 := hid (HDB.out.below HB4.out)
            have HFL2 := hid (show ws ++ bs.drop k = layL ws bs by have := HFL.out; simpa using this)
            have HSUM := hid (show (ws : List Int).length + (bs.drop k : List Int).length ≤ 1048576 by rw [List.length_drop]; omega)
            have HML := hid (show (bs.length - k) = (bs.drop k : List Int).length by rw [List.length_drop])
            have HWL := hid (show (ws : List Int).length ≤ 1048576 by skip; omega)
            go_wp2_with fail
            go_region_held3 (fun w' => Below w3.heap.size w3 w')
              (first | exact Below.refl _ _ | exact (Below.refl _ _).drew | exact HB5.out | exact HB6.out | go_keep | fail)
              (first
                | (refine step_append_sits _ rfl _ _ 22 rfl w3.heap.size i0 Try.underlying22 hi hz0 hz1 hz2 u5 ws rfl HO5.out _ _ _ _ (bs.drop k) rfl HML.out (HDB4.out.below HB5.out) HSUM.out HB5.out.size ?_; intro v6 w6 ho6 hg6; have HO6 := hid (show Own w6 w3.heap.size v6 (layL ws bs) by rw [← HFL2.out]; exact ho6); have HB6 := hid (HB5.out.grown hg6 HB5.out.size (fun q hq => (World.ownsRow.lt HO5.out q hq).1)); clear ho6 hg6)
                | (go_at_call 89; (refine (l1OwnN_any _ ws _ HV4.out HWL.out).mono ?_); (rintro e w5 ⟨u5, rfl, ho5, hb5⟩); (have HO5 := hid (show Own w5 w3.heap.size u5 ws from ho5)); (have HB5 := hid (Below_chain ((Below.refl w3.heap.size w3).drew) hb5)); (clear ho5 hb5))
                | fail)
            go_wp2_with fail
            go_ret
            exact ⟨_, rfl, HO6.out.mono hs4, Below_chain HB4.out HB6.out⟩
        · have HDE := hid (show decide (ws.drop j = bs.take k) = false by simpa using he)
          have hk1 : 1 ≤ k := by
            rcases Nat.eq_zero_or_pos k with q | q
            · exfalso
              apply he
              rw [q, List.drop_eq_nil_of_le (by have := HJ.out; omega)]; simp
            · exact q
          obtain ⟨k1, hk1'⟩ : ∃ k1, k1 = k - 1 := ⟨_, rfl⟩
          have e9 : (k : Int) - 1 = (k1 : Int) := by omega
          have HNX := hid (show layK ws bs K = layK ws bs k1 by
            rw [HLAY.out]
            have e : k = k1 + 1 := by omega
            rw [e]
            exact layK_no (by rw [← e, ← HJ.out]; exact he))
          have HK1 := hid hk1'
          clear he hk1'
          go_wp2_with fail
          go_region_held3 (fun w' => Below wr.heap.size wr w')
            (first | exact Below.refl _ _ | exact (Below.refl _ _).drew | exact HB3.out | go_keep | fail)
            (first
              | (go_at_call 75; (refine (l1Same_any _ _ (ws.drop j) (bs.take k) _ HN2.out.reads HT2.out.reads).mono ?_); (rintro e w3 ⟨rfl, hb3⟩); (rw [HDE.out]); (have HB3 := hid (Below_chain ((Below.refl wr.heap.size wr).drew) hb3)); (clear hb3))
              | fail)
          have HB4 := hid (Below_chain HB.out HB3.out)
          go_wp2_with fail
          go_roundw
          case rel => exact ⟨k1, by go_num, by have := HK1.out; omega, HNX.out, HB4.out⟩
          case measure => have := HK1.out; simp [intOf]; omega
end Go.Proofs.Ytlkhkecnghpokab
