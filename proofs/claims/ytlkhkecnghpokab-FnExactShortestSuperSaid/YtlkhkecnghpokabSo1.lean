/- Contract: laidOver. Conditions: the word is nil or not, the block is not nil; at most 2^19 numbers each. -/
import Derived.Test.YtlkhkecnghpokabSoM
import Derived.Test.YtlkhkecnghpokabJoinR
import Derived.Test.YtlkhkecnghpokabEqI
import Derived.Test.YtlkhkecnghpokabPush0
namespace Go.Proofs.Ytlkhkecnghpokab
open Go.RowKit
set_option linter.unusedVariables false
set_option maxRecDepth 4000

theorem Sits_dropX {w : World} {b off n c : Nat} {xs : List Int} (k : Nat) (h : Sits w (.slice (some ⟨b, off, none⟩) n c) xs) (hk : k ≤ xs.length) (m : Nat) (hm : m = xs.length - k) : Sits w (.slice (some ⟨b, off + k, none⟩) m (c - k)) (xs.drop k) := by
  subst hm
  obtain ⟨b', off', c', e, hc1, hm, hb, hc⟩ := h
  simp only [Value.slice.injEq, Option.some.injEq, Addr.mk.injEq, and_true] at e
  obtain ⟨⟨rfl, rfl⟩, -, rfl⟩ := e
  exact Sits_drop (w := w) (off := off) k hk hc1 hm hb hc
theorem Sits_takeX {w : World} {b off n c : Nat} {xs : List Int} (k : Nat) (h : Sits w (.slice (some ⟨b, off, none⟩) n c) xs) (hk : k ≤ xs.length) : Sits w (.slice (some ⟨b, off, none⟩) k c) (xs.take k) := by
  obtain ⟨b', off', c', e, hc1, hm, hb, hc⟩ := h
  simp only [Value.slice.injEq, Option.some.injEq, Addr.mk.injEq, and_true] at e
  obtain ⟨⟨rfl, rfl⟩, -, rfl⟩ := e
  exact Sits_take (w := w) (off := off) k hk hc1 hm hb hc
theorem Sits_endX {w : World} {b off n c : Nat} {xs : List Int} (k : Nat) (h : Sits w (.slice (some ⟨b, off, none⟩) n c) xs) (hk : xs.length ≤ k) (d : Nat) (hd : d ≤ 9223372036854775807) : Sits w (.slice (some ⟨b, off, none⟩) 0 d) (xs.drop k) := by
  obtain ⟨b', off', c', e, hc1, hm, hb, hc⟩ := h
  simp only [Value.slice.injEq, Option.some.injEq, Addr.mk.injEq, and_true] at e
  obtain ⟨⟨rfl, rfl⟩, -, rfl⟩ := e
  rw [List.drop_eq_nil_of_le hk]
  exact ⟨b, off, d, rfl, Nat.zero_le _, hd, hb, fun i hi => by simp at hi⟩
/-- the end of laidOver: what is put together -/
theorem laid_end {ws bs : List Int} {k : Nat} (h : layK ws bs (min ws.length bs.length) = k) : [ws, bs.drop k].flatten = layL ws bs := by
  unfold layL
  rw [h]; simp
set_option maxHeartbeats 1000000 in
theorem laidOver_any (v u : Value) (ws bs : List Int) (w : World) (hv : RdN w v ws) (hu : Sits w u bs) (hw : ws.length ≤ 500000) (hb : bs.length ≤ 500000) (h1 : 1 ≤ bs.length) :
    Calls Try.prog 92 #[v, u] w fun e w' => ∃ r, e = .returned r ∧ Own w' w.heap.size r (layL ws bs) ∧ Below w.heap.size w w' := by
  have HV := hid hv
  have HU := hid hu
  have hus := hu
  obtain ⟨b, off, c, rfl, hc1, hcm, hb0, hbc⟩ := hus
  clear hbc hu
  rcases hv with ⟨rfl, rfl⟩ | hv
  · have hmn : min (0 : Int) (bs.length : Int) = 0 := by omega
    have hww : IntKind.i64.wrap (0 : Int) = 0 := rfl
    have hbl : ¬ c = 0 := by omega
    have HT := hid (Sits_takeX 0 HU.out (Nat.zero_le _))
    have HFL := hid (show [([] : List Int), bs].flatten = layL [] bs by unfold layL; simp [layK])
    obtain ⟨N, hN⟩ : ∃ N, N = (layL [] bs).length := ⟨_, rfl⟩
    have HLN := hid hN.symm
    have hN6 : N ≤ 1048576 := by have := layL_length [] bs; rw [← hN] at this; simp at this; omega
    have HDB := HU
    clear hN
    go_enter Try.func92, Try.ntmps92
    go_wp2_with fail
    go_loopw [5] (fun i wr => i = .int .i64 0 ∧ Below w.heap.size w wr) (fun i _ => 0)
    case atStart => exact ⟨rfl, Below.refl _ _⟩
    case round =>
      obtain ⟨rfl, hbel⟩ := hrel
      have HB := hid hbel
      have HT2 := hid ((HT.out.below hbel).below ((Below.refl wr.heap.size wr).drew))
      have HN2 := hid (show RdN wr.drew (.slice none 0 0) [] from .inl ⟨rfl, rfl⟩)
      have HDE := hid (show decide (([] : List Int) = bs.take 0) = true by simp)
      clear hbel
      go_wp2_with fail
      go_region_held3 (fun w' => Below wr.heap.size wr w')
        (first | exact Below.refl _ _ | exact (Below.refl _ _).drew | exact HB3.out | go_keep | fail)
        (first
          | (go_at_call 109; (refine (Equal_any _ _ [] (bs.take 0) _ HN2.out.reads HT2.out.reads).mono ?_); (rintro e w3 ⟨rfl, hb3⟩); (rw [HDE.out]); (have HB3 := hid (Below_chain ((Below.refl wr.heap.size wr).drew) hb3)); (clear hb3))
          | fail)
      have HB4 := hid (Below_chain HB.out HB3.out)
      have HPS := hid (show RdL (w3.alloc (.cells #[.slice none 0 0, .slice (some ⟨b, off, none⟩) bs.length c] 22)) (.slice (some ⟨w3.heap.size, 0, none⟩) 2 2) [[], bs] from RdL_two (HV.out.below HB4.out) (.inr (HDB.out.below HB4.out)))
      have HBA := hid (show Below w3.heap.size w3 (w3.alloc (.cells #[.slice none 0 0, .slice (some ⟨b, off, none⟩) bs.length c] 22)) from (Below.refl _ _).alloc (Nat.le_refl _) _)
      have hs4 := HB4.out.size
      go_wp2_with (first
        | (go_at_call 93; (refine (joinedR_is _ _ (layL [] bs) N _ HPS.out (by show 2 ≤ 1048576; omega) HFL.out HLN.out hN6).mono ?_); (rintro e w5 ⟨rfl, ho5, hb5⟩); (have HO5 := hid (show Own w5 w.heap.size (.slice (some ⟨w3.heap.size + 1, 0, none⟩) N N) (layL [] bs) by simpa using ho5.mono (show w.heap.size ≤ _ from Nat.le_trans hs4 HBA.out.size))); (have HB5 := hid (Below_chain HBA.out hb5)); (clear ho5 hb5))
        | fail)
      go_ret
      exact ⟨_, rfl, HO5.out, Below_chain HB4.out HB5.out⟩
  · have hvs := hv
    obtain ⟨b2, off2, c2, rfl, hd1, hdm, hd0, hdc⟩ := hvs
    clear hdc
    have HVS := hid hv
    clear hv
    obtain ⟨K, hK⟩ : ∃ K, K = min ws.length bs.length := ⟨_, rfl⟩
    have hmn : min (ws.length : Int) (bs.length : Int) = (K : Int) := by omega
    have hK1 : K ≤ ws.length := by omega
    have hK2 : K ≤ bs.length := by omega
    have HK := hid hK
    obtain ⟨N, hN⟩ : ∃ N, N = (layL ws bs).length := ⟨_, rfl⟩
    have HLN := hid hN.symm
    have hN6 : N ≤ 1048576 := by have := layL_length ws bs; rw [← hN] at this; omega
    clear hN hK
    go_enter Try.func92, Try.ntmps92
    go_wp2_with fail
    go_loopw [5] (fun i wr => ∃ k : Nat, i = .int .i64 (k : Int) ∧ k ≤ K ∧ layK ws bs K = layK ws bs k ∧ Below w.heap.size w wr) (fun i _ => (intOf i).toNat)
    case atStart => exact ⟨K, rfl, Nat.le_refl _, rfl, Below.refl _ _⟩
    case round =>
      obtain ⟨k, rfl, hk, hlay, hbel⟩ := hrel
      have HB := hid hbel
      have HLAY := hid hlay
      obtain ⟨j, hj⟩ : ∃ j, j = ws.length - k := ⟨_, rfl⟩
      have e1 : (ws.length : Int) - (k : Int) = (j : Int) := by omega
      have e2 : ws.length - j = k := by omega
      have p1 : (0 : Int) ≤ (j : Int) := by omega
      have p2 : (j : Int) ≤ (ws.length : Int) := by omega
      have p3 : (0 : Int) ≤ (k : Int) := by omega
      have p4 : (k : Int) ≤ (c : Int) := by omega
      have p5 : (k : Int) ≤ (bs.length : Int) := by omega
      have p6 : j ≤ c2 := by omega
      have p7 : (j : Int) ≤ (c2 : Int) := by omega
      have hww : IntKind.i64.wrap (j : Int) = (j : Int) := IntWalk.i64_in _ (by omega)
      have HT2 := hid (((Sits_takeX k HU.out (by omega)).below hbel).below ((Below.refl wr.heap.size wr).drew))
      have HJ := hid hj
      clear hbel hlay hj
      by_cases hcap : c2 = j
      · have HN2 := hid (show RdN wr.drew (.slice (some ⟨b2, off2, none⟩) k 0) (ws.drop j) from .inr (by
          rw [show k = 0 by omega]
          exact ((Sits_endX j HVS.out (by omega) 0 (by omega)).below HB.out).below ((Below.refl wr.heap.size wr).drew)))
        have he : ws.drop j = bs.take k := by rw [show k = 0 by omega, List.drop_eq_nil_of_le (by omega)]; simp
        have HDE := hid (show decide (ws.drop j = bs.take k) = true by simpa using he)
        have HEN := hid (show layK ws bs (min ws.length bs.length) = k by rw [← HK.out, HLAY.out]; exact layK_yes (by rw [← HJ.out]; exact he))
        have HFL := hid (laid_end HEN.out)
        have HDB := hid (Sits_dropX k HU.out (by omega) (bs.length - k) rfl)
        have hbc : ¬ c = k := by omega
        clear he
        subst hcap
        go_wp2_with fail
        go_region_held3 (fun w' => Below wr.heap.size wr w')
          (first | exact Below.refl _ _ | exact (Below.refl _ _).drew | exact HB3.out | go_keep | fail)
          (first
            | (go_at_call 109; (refine (Equal_any _ _ (ws.drop c2) (bs.take k) _ HN2.out.reads HT2.out.reads).mono ?_); (rintro e w3 ⟨rfl, hb3⟩); (rw [HDE.out]); (have HB3 := hid (Below_chain ((Below.refl wr.heap.size wr).drew) hb3)); (clear hb3))
            | fail)
        have HB4 := hid (Below_chain HB.out HB3.out)
        have HPS := hid (show RdL (w3.alloc (.cells #[.slice (some ⟨b2, off2, none⟩) ws.length c2, .slice (some ⟨b, off + k, none⟩) (bs.length - k) (c - k)] 22)) (.slice (some ⟨w3.heap.size, 0, none⟩) 2 2) [ws, bs.drop k] from RdL_two (HV.out.below HB4.out) (.inr (HDB.out.below HB4.out)))
        have HBA := hid (show Below w3.heap.size w3 (w3.alloc (.cells #[.slice (some ⟨b2, off2, none⟩) ws.length c2, .slice (some ⟨b, off + k, none⟩) (bs.length - k) (c - k)] 22)) from (Below.refl _ _).alloc (Nat.le_refl _) _)
        have hs4 := HB4.out.size
        go_wp2_with (first
          | (go_at_call 93; (refine (joinedR_is _ _ (layL ws bs) N _ HPS.out (by show 2 ≤ 1048576; omega) HFL.out HLN.out hN6).mono ?_); (rintro e w5 ⟨rfl, ho5, hb5⟩); (have HO5 := hid (show Own w5 w.heap.size (.slice (some ⟨w3.heap.size + 1, 0, none⟩) N N) (layL ws bs) by simpa using ho5.mono (show w.heap.size ≤ _ from Nat.le_trans hs4 HBA.out.size))); (have HB5 := hid (Below_chain HBA.out hb5)); (clear ho5 hb5))
          | fail)
        go_ret
        exact ⟨_, rfl, HO5.out, Below_chain HB4.out HB5.out⟩
      · have HN2 := hid (show RdN wr.drew (.slice (some ⟨b2, off2 + j, none⟩) k (c2 - j)) (ws.drop j) from .inr (((Sits_dropX j HVS.out (by omega) k (by omega)).below HB.out).below ((Below.refl wr.heap.size wr).drew)))
        by_cases he : ws.drop j = bs.take k
        · have HDE := hid (show decide (ws.drop j = bs.take k) = true by simpa using he)
          have HEN := hid (show layK ws bs (min ws.length bs.length) = k by rw [← HK.out, HLAY.out]; exact layK_yes (by rw [← HJ.out]; exact he))
          have HFL := hid (laid_end HEN.out)
          by_cases hbc : c = k
          · have hbk : bs.length = k := by omega
            have HDB := hid (Sits_endX k HU.out (by omega) 0 (by omega))
            have e3 : bs.length - k = 0 := by omega
            clear hbk
            clear he
            subst hbc
            go_wp2_with fail
            go_region_held3 (fun w' => Below wr.heap.size wr w')
              (first | exact Below.refl _ _ | exact (Below.refl _ _).drew | exact HB3.out | go_keep | fail)
              (first
                | (go_at_call 109; (refine (Equal_any _ _ (ws.drop j) (bs.take c) _ HN2.out.reads HT2.out.reads).mono ?_); (rintro e w3 ⟨rfl, hb3⟩); (rw [HDE.out]); (have HB3 := hid (Below_chain ((Below.refl wr.heap.size wr).drew) hb3)); (clear hb3))
                | fail)
            have HB4 := hid (Below_chain HB.out HB3.out)
            have HPS := hid (show RdL (w3.alloc (.cells #[.slice (some ⟨b2, off2, none⟩) ws.length c2, .slice (some ⟨b, off, none⟩) 0 0] 22)) (.slice (some ⟨w3.heap.size, 0, none⟩) 2 2) [ws, bs.drop c] from RdL_two (HV.out.below HB4.out) (.inr (HDB.out.below HB4.out)))
            have HBA := hid (show Below w3.heap.size w3 (w3.alloc (.cells #[.slice (some ⟨b2, off2, none⟩) ws.length c2, .slice (some ⟨b, off, none⟩) 0 0] 22)) from (Below.refl _ _).alloc (Nat.le_refl _) _)
            have hs4 := HB4.out.size
            go_wp2_with (first
              | (go_at_call 93; (refine (joinedR_is _ _ (layL ws bs) N _ HPS.out (by show 2 ≤ 1048576; omega) HFL.out HLN.out hN6).mono ?_); (rintro e w5 ⟨rfl, ho5, hb5⟩); (have HO5 := hid (show Own w5 w.heap.size (.slice (some ⟨w3.heap.size + 1, 0, none⟩) N N) (layL ws bs) by simpa using ho5.mono (show w.heap.size ≤ _ from Nat.le_trans hs4 HBA.out.size))); (have HB5 := hid (Below_chain HBA.out hb5)); (clear ho5 hb5))
              | fail)
            go_ret
            exact ⟨_, rfl, HO5.out, Below_chain HB4.out HB5.out⟩
          · have HDB := hid (Sits_dropX k HU.out (by omega) (bs.length - k) rfl)
            clear he
            go_wp2_with fail
            go_region_held3 (fun w' => Below wr.heap.size wr w')
              (first | exact Below.refl _ _ | exact (Below.refl _ _).drew | exact HB3.out | go_keep | fail)
              (first
                | (go_at_call 109; (refine (Equal_any _ _ (ws.drop j) (bs.take k) _ HN2.out.reads HT2.out.reads).mono ?_); (rintro e w3 ⟨rfl, hb3⟩); (rw [HDE.out]); (have HB3 := hid (Below_chain ((Below.refl wr.heap.size wr).drew) hb3)); (clear hb3))
                | fail)
            have HB4 := hid (Below_chain HB.out HB3.out)
            have HPS := hid (show RdL (w3.alloc (.cells #[.slice (some ⟨b2, off2, none⟩) ws.length c2, .slice (some ⟨b, off + k, none⟩) (bs.length - k) (c - k)] 22)) (.slice (some ⟨w3.heap.size, 0, none⟩) 2 2) [ws, bs.drop k] from RdL_two (HV.out.below HB4.out) (.inr (HDB.out.below HB4.out)))
            have HBA := hid (show Below w3.heap.size w3 (w3.alloc (.cells #[.slice (some ⟨b2, off2, none⟩) ws.length c2, .slice (some ⟨b, off + k, none⟩) (bs.length - k) (c - k)] 22)) from (Below.refl _ _).alloc (Nat.le_refl _) _)
            have hs4 := HB4.out.size
            go_wp2_with (first
              | (go_at_call 93; (refine (joinedR_is _ _ (layL ws bs) N _ HPS.out (by show 2 ≤ 1048576; omega) HFL.out HLN.out hN6).mono ?_); (rintro e w5 ⟨rfl, ho5, hb5⟩); (have HO5 := hid (show Own w5 w.heap.size (.slice (some ⟨w3.heap.size + 1, 0, none⟩) N N) (layL ws bs) by simpa using ho5.mono (show w.heap.size ≤ _ from Nat.le_trans hs4 HBA.out.size))); (have HB5 := hid (Below_chain HBA.out hb5)); (clear ho5 hb5))
              | fail)
            go_ret
            exact ⟨_, rfl, HO5.out, Below_chain HB4.out HB5.out⟩
        · have HDE := hid (show decide (ws.drop j = bs.take k) = false by simpa using he)
          have hk1 : 1 ≤ k := by
            rcases Nat.eq_zero_or_pos k with q | q
            · exfalso
              apply he
              rw [q, List.drop_eq_nil_of_le (by have := HJ.out; omega)]; simp
            · exact q
          obtain ⟨k1, hk1'⟩ : ∃ k1, k1 = k - 1 := ⟨_, rfl⟩
          have e9 : (k : Int) - 1 = (k1 : Int) := by omega
          have HNX := hid (show layK ws bs K = layK ws bs k1 by
            rw [HLAY.out]
            have e : k = k1 + 1 := by omega
            rw [e]
            exact layK_no (by rw [← e, ← HJ.out]; exact he))
          have HK1 := hid hk1'
          clear he hk1'
          go_wp2_with fail
          go_region_held3 (fun w' => Below wr.heap.size wr w')
            (first | exact Below.refl _ _ | exact (Below.refl _ _).drew | exact HB3.out | go_keep | fail)
            (first
              | (go_at_call 109; (refine (Equal_any _ _ (ws.drop j) (bs.take k) _ HN2.out.reads HT2.out.reads).mono ?_); (rintro e w3 ⟨rfl, hb3⟩); (rw [HDE.out]); (have HB3 := hid (Below_chain ((Below.refl wr.heap.size wr).drew) hb3)); (clear hb3))
              | fail)
          have HB4 := hid (Below_chain HB.out HB3.out)
          go_wp2_with fail
          go_roundw
          case rel => exact ⟨k1, by go_num, by have := HK1.out; omega, HNX.out, HB4.out⟩
          case measure => have := HK1.out; simp [intOf]; omega
end Go.Proofs.Ytlkhkecnghpokab
