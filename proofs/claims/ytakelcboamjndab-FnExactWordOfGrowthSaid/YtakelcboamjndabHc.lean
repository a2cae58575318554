/- Contracts: wordOfGrowth, hasCrossing, impl.HasCrossing. Conditions: slices that read as lists of at most 2^20 numbers. -/
import Derived.Test.YtakelcboamjndabNb
import Derived.Test.YtakelcboamjndabRep
import Derived.Test.YtakelcboamjndabCntE
import Derived.Test.YtakelcboamjndabShG
namespace Go.Proofs.Ytakelcboamjndab
open Go.RowKit Go.Maps
set_option linter.unusedVariables false
set_option maxRecDepth 4000

theorem cntTo_count (a : List Int) (y : Nat) : ∀ k, k ≤ a.length → cntTo a y k = (a.take k).count (y : Int)
  | 0, _ => rfl
  | k + 1, h => by
    rw [cntTo, cntTo_count a y k (by omega), List.take_succ_eq_append_getElem (by omega), List.count_append, List.count_singleton, getD_at (by omega)]
    congr 1
    simp
/-- sizes of blocks, 0 for those that have come -/
def szL (n : Nat) (a p : List Int) : List Int := (List.range n).map (fun y : Nat => if (y : Int) ∈ p then 0 else (a.count (y : Int) : Int))
theorem szL_len (n : Nat) (a p : List Int) : (szL n a p).length = n := by simp [szL]
theorem szL_get {n y : Nat} (a p : List Int) (h : y < n) : (szL n a p).getD y 0 = if (y : Int) ∈ p then 0 else (a.count (y : Int) : Int) := by
  simp [szL, List.getD_eq_getElem?_getD, h]
theorem szL_nil (n : Nat) (a : List Int) : countsL n a = szL n a [] := by
  unfold countsL szL
  refine List.map_congr_left fun y _ => ?_
  rw [cntTo_count a y _ (Nat.le_refl _), List.take_length]; simp
theorem szL_set {n y : Nat} (a p : List Int) (h : y < n) : (szL n a p).set y 0 = szL n a (p ++ [(y : Int)]) := by
  refine List.ext_getElem (by simp [szL]) fun i h1 h2 => ?_
  rw [List.getElem_set]
  have hi : i < n := by simpa [szL] using h2
  unfold szL
  simp only [List.getElem_map, List.getElem_range]
  by_cases e : y = i
  · subst e; simp
  · rw [if_neg e]
    have e2 : ¬ ((i : Int) = (y : Int)) := by omega
    simp [e2]
theorem wo_step {p r a : List Int} {x : Int} (h : a = p ++ x :: r) : woT p (x :: r) = List.replicate (if x ∈ p then 0 else a.count x) 1 ++ (0 :: woT (p ++ [x]) r) := by
  rw [woT]
  split
  · rfl
  · rename_i hn
    rw [h, List.count_append, List.count_eq_zero.2 hn, Nat.zero_add]
theorem wpList_append_list {P : Program} (w : World) {ops : Array Oper} {rest : List Oper} {o : Oper} {a : Act} {Q : Exit → Act → World → Prop} (hgd : o.guard = none) (s x : Operand) (t : TypeId)
    (ho : o.op = .call { callee := .builtin .append, args := #[s, x], argTypes := #[t, t] }) (base : Nat) (i : TypeInfo) (ht : P.underlying t = some (.slice 3)) (hi : P.info? 3 = some i) (hz : i.zero = some (.int .i64 0)) (hsize : i.size = 1) (hby : i.bytes = 8)
    (g0 n0 c0 : Nat) (xs : List Int) (hs : a.eval s = .slice (some ⟨g0, 0, none⟩) n0 c0) (hown : Own w base (.slice (some ⟨g0, 0, none⟩) n0 c0) xs) (gu m c B : Nat) (ys : List Int) (hx : a.eval x = .slice (some ⟨gu, 0, none⟩) m c)
    (hu : Own w B (.slice (some ⟨gu, 0, none⟩) m c) ys) (hl : xs.length + ys.length ≤ 1048576) (hbase : base ≤ w.heap.size) (q : Nat) (hq : xs.length + ys.length = q)
    (h : ∀ (g cap : Nat) (w' : World), Own w' base (.slice (some ⟨g, 0, none⟩) q cap) (xs ++ ys) → w.grownBy w' (some g0) → (g = g0 ∨ g = w.heap.size) → wpList P ops Q rest (a.put o.dst (.slice (some ⟨g, 0, none⟩) q cap)) w') : wpList P ops Q (o :: rest) a w := by
  obtain ⟨rfl, _⟩ := Own_cells hu
  obtain ⟨rfl, _⟩ := Own_cells hown
  subst hq
  refine wpList_append_own_at w hgd s x t ho base 3 i (.int .i64 0) 1 8 ht hi hz hsize hby rfl (by decide) _ xs.length _ hs hown ⟨gu, 0, none⟩ ys.length c (ys.map (Value.int .i64)) hx (by simp) hu.srcs (ints_one ys) (by unfold maxLen; omega) (by omega) hbase ?_
  intro v' w' h3 h4 h5 h6
  have hO : Own w' base v' (xs ++ ys) := by unfold Own; rw [List.length_append, List.map_append]; exact h3
  rcases hO.form with ⟨e, _⟩ | ⟨g, cap, e, _⟩
  · have := (h5.1 e).1
    simp at this
  · rw [List.length_append] at e
    subst e
    refine h g cap w' hO h4 ?_
    rcases h6 with h6 | h6
    · exact .inl (Option.some.inj h6)
    · exact .inr (Option.some.inj h6)
set_option maxHeartbeats 2000000 in
theorem wordOfGrowth_any (v : Value) (a : List Int) (w : World) (h : Reads w v a) (hg : grB a = true) :
    Calls Try.prog 57 #[v] w fun e w' => ∃ u, e = .returned u ∧ Own w' w.heap.size u (woT [] a) ∧ Below w.heap.size w w' := by
  obtain ⟨hgr, hg1, hg12⟩ := grB_iff.1 hg
  have HR := hid h
  obtain ⟨T, hT⟩ : ∃ T, T = woT [] a := ⟨_, rfl⟩
  have HT := hid hT.symm
  have HTL := hid (show T.length = 2 * a.length by rw [hT, wo_len0])
  rw [← hT]
  obtain ⟨n, hn⟩ : ∃ n : Nat, (n : Int) = topL a + 1 := ⟨(topL a + 1).toNat, by have := topL_low a; omega⟩
  have hnle : n ≤ 12 := by
    have h1 : topL a < a.length := topTo_le (by unfold grB at hg; rw [Bool.and_eq_true] at hg; exact hg.1)
    omega
  have hel : ∀ i, i < a.length → ∃ y : Nat, a.getD i 0 = (y : Int) ∧ y < n := fun i hi => by
    have h1 := (hgr i hi).1
    have h2 := topL_mem (p := a) (x := a.getD i 0) (by rw [getD_at hi]; exact List.getElem_mem _)
    exact ⟨(a.getD i 0).toNat, by omega, by omega⟩
  have HEL := hid hel
  have HNB := hid (show ∀ V W, Reads W V a → Calls Try.prog 86 #[V] W fun e w' => e = .returned (.int .i64 (n : Int)) ∧ W = w' from fun V W hV => by
    rw [hn]; exact numberBehind_any V a W hV (fun x hx => by
      obtain ⟨i, hi, rfl⟩ := List.getElem_of_mem hx
      obtain ⟨y, h1, h2⟩ := hel i hi
      rw [getD_at hi] at h1; omega))
  have HCE := hid (show ∀ V W, Reads W V a → Calls Try.prog 85 #[.int .i64 (n : Int), V] W fun e w' => ∃ gs, e = .returned (.slice (some ⟨gs, 0, none⟩) n n) ∧ gs = W.heap.size ∧ Own w' W.heap.size (.slice (some ⟨gs, 0, none⟩) n n) (szL n a []) ∧ Below W.heap.size W w' from fun V W hV =>
    (countEach_any n V a W hV (by omega) (by omega) hel).mono (by
      rintro e w' ⟨u, rfl, ho, hb, rfl⟩
      exact ⟨_, rfl, rfl, by rw [← szL_nil]; exact ho, hb⟩))
  have HREP := hid (show ∀ (c : Nat) (g : Nat) (W : World), c ≤ 12 → W.cell? ⟨g, 0, none⟩ = some (.int .i64 1) → g < W.heap.size → Calls Try.prog 87 #[.slice (some ⟨g, 0, none⟩) 1 1, .int .i64 (c : Int)] W fun e w' => ∃ gr, e = .returned (.slice (some ⟨gr, 0, none⟩) c c) ∧ gr = W.heap.size ∧ Own w' W.heap.size (.slice (some ⟨gr, 0, none⟩) c c) (List.replicate c 1) ∧ Below W.heap.size W w' from fun c g W hc hcell hg =>
    (Repeat_any 1 g c (.inl hc) W hcell hg).mono (by rintro e w' ⟨rfl, ho, hb⟩; exact ⟨_, rfl, rfl, ho, hb⟩))
  obtain ⟨m, hm2⟩ : ∃ m, m = 2 * a.length := ⟨_, rfl⟩
  obtain ⟨i0, hi, hz0, hz1, hz2⟩ := info_parts Try.info3
  have HMB := hid (show i0.bytes * m ≤ 281474976710656 by rw [hz2]; omega)
  have HMM := hid (show m ≤ maxLen by unfold maxLen; omega)
  have u1 : IntKind.i64.wrap (2 * (a.length : Int)) = (m : Int) := by rw [IntWalk.i64_in _ (by omega)]; omega
  obtain ⟨ao, c, rfl, hc1, hm, h⟩ := h.view
  rcases h with h | ⟨b, off, rfl, hb, hc⟩
  · rw [h] at hg1; simp at hg1
  have HC := hid hc
  clear hc hT hm2 hn hg hgr hel
  go_enter Try.func57, Try.ntmps57
  go_wp2_with (first
    | (at_make; (refine wpList_make_own _ rfl _ _ 22 rfl w.heap.size 3 i0 (.int .i64 0) 1 Try.underlying22 hi hz0 hz1 .i64 .i64 _ m rfl rfl rfl HMB.out HMM.out (Nat.le_refl _) ?_); (intro w2 hmade hgm); (have HOM := hid (Own.of_made6 hmade)); (have HBM := hid ((Below.refl w.heap.size w).grown hgm (Nat.le_refl _) (fun q hq => by cases hq))); (clear hmade hgm))
    | (go_at_call 86; (refine (HNB.out _ _ (HR.out.below HBM.out)).mono ?_); (rintro e w' ⟨rfl, rfl⟩))
    | (go_at_call 85; (refine (HCE.out _ _ (HR.out.below HBM.out)).mono ?_); (rintro e w3 ⟨gs, rfl, hgs, ho, hb3⟩); (have HGS := hid hgs); (have HS3 := hid (ho.mono HBM.out.size)); (have HB3 := hid (Below_chain HBM.out hb3)); (have HOM3 := hid (HOM.out.below hb3)); (have HLT3 := hid ((World.ownsRow.lt HOM.out _ rfl).2)); (clear ho hb3 hgs))
    | fail)
  go_loopw [3, 17] (fun vw i wr => ∃ (k gw cw q : Nat) (W : List Int), k ≤ a.length ∧ i = .int .i64 k ∧ vw = .slice (some ⟨gw, 0, none⟩) q cw ∧ W.length = q ∧ Own wr w.heap.size (.slice (some ⟨gw, 0, none⟩) q cw) W ∧ Own wr w.heap.size (.slice (some ⟨gs, 0, none⟩) n n) (szL n a (a.take k)) ∧ gw ≠ gs ∧ W ++ woT (a.take k) (a.drop k) = T ∧ Below w.heap.size w wr) (fun _ i _ => a.length - (intOf i).toNat)
  case atStart => exact ⟨0, w.heap.size, m, 0, [], Nat.zero_le _, rfl, rfl, rfl, HOM3.out, HS3.out, by have := HGS.out; have h2 := HLT3.out; show w.heap.size ≠ gs; rw [this]; exact Nat.ne_of_lt h2, HT.out, HB3.out⟩
  case round =>
    obtain ⟨k, gw, cw, q, W, hk, rfl, rfl, hwl, how, hos, hne, hwo, hbel⟩ := hrel
    have HW := hid how
    have HS := hid hos
    have HB := hid hbel
    by_cases hlt : k < a.length
    · obtain ⟨y, hy, hyn⟩ := HEL.out k hlt
      have hcx := (hbel.cell (p := ⟨b, off + k, none⟩) (by exact hb)).trans (HC.out k hlt)
      rw [← getD_at hlt, hy] at hcx
      have hd : a.drop k = (y : Int) :: a.drop (k + 1) := by rw [List.drop_eq_getElem_cons hlt, ← getD_at hlt, hy]
      have htk : a.take (k + 1) = a.take k ++ [(y : Int)] := by rw [List.take_succ_eq_append_getElem hlt, ← getD_at hlt, hy]
      have hap : a = a.take k ++ (y : Int) :: a.drop (k + 1) := by rw [← hd, List.take_append_drop]
      rw [hd, wo_step hap, ← htk] at hwo
      have hsz := szL_get (y := y) a (a.take k) hyn
      obtain ⟨cc, hcc⟩ : ∃ cc : Nat, cc = if (y : Int) ∈ a.take k then 0 else a.count (y : Int) := ⟨_, rfl⟩
      have hsz2 : (szL n a (a.take k)).getD y 0 = (cc : Int) := by rw [hsz, hcc]; split <;> rfl
      rw [← hcc] at hwo
      have hcc12 : cc ≤ 12 := by
        rw [hcc]; split
        · omega
        · exact Nat.le_trans List.count_le_length hg12
      obtain ⟨s0, s1, s2, s3, s4, s5, s6⟩ := Own_cells hos
      have hcy : wr.cell? ⟨gs, y, none⟩ = some (.int .i64 (cc : Int)) := by
        have h1 := s5 y (by rw [szL_len]; exact hyn)
        rw [← getD_at, hsz2] at h1
        exact h1
      have htl := HTL.out
      have hq24 : q + cc ≤ 24 := by
        rw [← hwo] at htl
        simp [hwl] at htl; omega
      have HWO := hid (show ((W ++ List.replicate cc 1) ++ [0]) ++ woT (a.take (k + 1)) (a.drop (k + 1)) = T by rw [← hwo]; simp)
      have HQ := hid (show W.length + (List.replicate cc (1 : Int)).length = q + cc by simp [hwl])
      have HWC := hid (show (W ++ List.replicate cc (1 : Int)).length = q + cc by simp [hwl])
      have HWC2 := hid (show ((W ++ List.replicate cc (1 : Int)) ++ [0]).length = q + cc + 1 by simp [hwl]; omega)
      have HSET := hid (fun (X : World) (hX : Own X w.heap.size (.slice (some ⟨gs, 0, none⟩) n n) (szL n a (a.take k))) => (show Own (X.setCell ⟨gs, y, none⟩ (.int .i64 0)) w.heap.size (.slice (some ⟨gs, 0, none⟩) n n) (szL n a (a.take (k + 1))) ∧ X.grownBy (X.setCell ⟨gs, y, none⟩ (.int .i64 0)) (some gs) by
        have h1 := Own.set (g := gs) (cap := n) (xs := szL n a (a.take k)) (base := w.heap.size) (w := X) (by rw [szL_len]; exact hX) y 0
        rw [szL_len, szL_set _ _ hyn, ← htk] at h1
        exact h1))
      have HSC := hid (fun (X : World) (hX : Own X w.heap.size (.slice (some ⟨gs, 0, none⟩) n n) (szL n a (a.take k))) => (show X.cell? ⟨gs, y, none⟩ = some (.int .i64 (cc : Int)) ∧ X.frozen? ⟨gs, y, none⟩ = false by
        obtain ⟨_, _, _, _, _, t5, t6⟩ := Own_cells hX
        have h1 := t5 y (by rw [szL_len]; exact hyn)
        rw [← getD_at, hsz2] at h1
        exact ⟨h1, t6 y⟩))
      have q1 : (0 : Int) ≤ (k : Int) := by omega
      have q2 : (k : Int) < (a.length : Int) := by omega
      have q3 : (0 : Int) ≤ (y : Int) := by omega
      have q4 : (y : Int) < (n : Int) := by omega
      obtain ⟨qc, hqc⟩ : ∃ qc, qc = q + cc := ⟨_, rfl⟩
      have hqc24 : qc ≤ 24 := by omega
      rw [← hqc] at HQ HWC HWC2
      have HB1 := hid (HB.out.alloc HB.out.size (.cells #[.int .i64 1] 3))
      have HW1 := hid (HW.out.below ((Below.refl _ _).alloc (Nat.le_refl _) (.cells #[.int .i64 1] 3)))
      have HS1 := hid (HS.out.below ((Below.refl _ _).alloc (Nat.le_refl _) (.cells #[.int .i64 1] 3)))
      have HCY1 := hid (HSC.out _ HS1.out).1
      have hcy1 := HCY1.out
      have HCT := hid (show (wr.alloc (.cells #[.int .i64 1] 3)).cell? ⟨wr.heap.size, 0, none⟩ = some (.int .i64 1) by simp)
      have HWL := hid hwl
      have HNE := hid hne
      have HCC := hid hcc12
      have HTK := hid htk
      clear how hos hne hbel hy hd htk hap hwo hsz hsz2 hcc s0 s1 s2 s3 s4 s5 s6 hcy htl hq24 hqc hwl hcc12
      go_wp2_with (first
        | (at_builtin; (refine wpList_append_lies _ rfl _ _ 22 rfl w.heap.size 3 i0 (.int .i64 0) 1 8 Try.underlying22 hi hz0 hz1 hz2 rfl (by decide) _ _ _ rfl (World.ownsRow.alloc HWR5.out _) ⟨w5.heap.size, 0, none⟩ 1 1 [.int .i64 0] rfl rfl (fun j u hj => new_cell1 j hj) (one_cell _ _) Nat.zero_lt_one (by unfold maxLen; omega) (by omega) (by have := HB5.out.size; first | omega | (simp <;> omega)) ?_); (intro g6 c6 w6 hown6 hgrow6 hl6); (have HW6 := hid (show Own w6 w.heap.size (.slice (some ⟨g6, 0, none⟩) (qc + 1) c6) ((W ++ List.replicate cc (1 : Int)) ++ [0]) from by have h := hown6; rw [← HWC.out] at h; have h2 := Own.snoc h; rw [HWC.out] at h2; exact h2)); (have HS6 := hid (Own.kept (HS5.out.below ((Below.refl _ _).alloc (Nat.le_refl _) (.cells #[.int .i64 0] 3))) hgrow6 (.inr (by show some gs ≠ some g5; intro e; exact HNE5.out (Option.some.inj e).symm)))); (have HNE6 := hid (show g6 ≠ gs from by have h9 := (World.ownsRow.lt HS5.out gs rfl).2; have h10 := HNE5.out; exact hl6.elim (fun h e => h10 ((Option.some.inj h).trans e)) (fun h => by simp at h; omega))); (have HB6 := hid ((HB5.out.alloc HB5.out.size (.cells #[.int .i64 0] 3)).grown hgrow6 (Nat.le_trans HB5.out.size (by simp)) (fun k hk => (World.ownsRow.lt HWR5.out k hk).1))); (have hcs6 := (HSC.out _ HS6.out).1); (have hfs6 := (HSC.out _ HS6.out).2); (clear hown6 hgrow6 hl6))
        | (at_builtin; (refine wpList_append_list _ rfl _ _ 22 rfl w.heap.size i0 Try.underlying22 hi hz0 hz1 hz2 gw q cw W rfl HW4.out gr cc cc _ (List.replicate cc 1) rfl HR4.out (by rw [HQ.out]; omega) HB4.out.size qc HQ.out ?_); (intro g5 c5 w5 hown5 hgrow5 hl5); (have HWR5 := hid (show w5.ownsRow w.heap.size 3 1 (.slice (some ⟨g5, 0, none⟩) qc c5) qc ((W ++ List.replicate cc (1 : Int)).map (Value.int .i64)) from by have h := Own.row hown5; rw [HWC.out] at h; exact h)); (have HS5 := hid (Own.kept HS4.out hgrow5 (.inr (by show some gs ≠ some gw; intro e; exact HNE.out (Option.some.inj e).symm)))); (have HB5 := hid (HB4.out.grown hgrow5 HB4.out.size (fun k hk => (World.ownsRow.lt HW4.out.row k hk).1))); (have HNE5 := hid (show g5 ≠ gs from by have h9 := (World.ownsRow.lt HS4.out gs rfl).2; have h10 := HNE.out; rcases hl5 with h | h <;> omega)); (clear hown5 hgrow5 hl5))
        | (go_at_call 87; (refine (HREP.out cc _ _ HCC.out HCT.out (by simp)).mono ?_); (rintro e w4 ⟨gr, rfl, hgr4, ho4, hb4⟩); (have HR4 := hid ho4); (have HB4 := hid (Below_chain HB1.out hb4)); (have HW4 := hid (HW1.out.below hb4)); (have HS4 := hid (HS1.out.below hb4)); (clear hgr4 ho4 hb4))
        | fail)
      have HST6 := hid (HSET.out _ HS6.out)
      have hgs6 := (World.ownsRow.lt HS6.out gs rfl).1
      go_roundw
      case rel => exact ⟨k + 1, g6, c6, qc + 1, (W ++ List.replicate cc 1) ++ [0], by omega, by go_num, rfl, HWC2.out, Own.kept HW6.out HST6.out.2 (.inr (by show some g6 ≠ some gs; intro e; exact HNE6.out (Option.some.inj e))), HST6.out.1, HNE6.out, HWO.out, HB6.out.setCell (p := ⟨gs, y, none⟩) hgs6 _⟩
      case measure => simp [intOf]; omega
    · obtain rfl : k = a.length := by omega
      have HE := hid (show W = T by rw [← hwo, List.drop_length, woT, List.append_nil])
      clear hos hwo hne hbel
      go_wp2_with fail
      go_ret
      exact ⟨_, rfl, by rw [← HE.out]; exact HW.out, HB.out⟩
def hcP (a : List Int) : Bool := !(decide (gwL (woT [] a) [] [] = a))
theorem hasCrossing_any (v : Value) (a : List Int) (w : World) (h : Reads w v a) (hg : grB a = true) :
    Calls Try.prog 55 #[v] w fun e w' => e = .returned (.bool (hcP a)) ∧ Below w.heap.size w w' := by
  have HR := hid h
  obtain ⟨_, hg1, hg12⟩ := grB_iff.1 hg
  have HL := hid (show (woT [] a).length ≤ 24 by rw [wo_len0]; omega)
  have HG := hid hg
  clear h hg
  go_enter Try.func55, Try.ntmps55
  go_wp2_with (first
    | (go_at_call 83; (refine (Equal_any _ _ (gwL (woT [] a) [] []) a _ HU2.out.reads (HR.out.below HB2.out)).mono ?_); (rintro e w3 ⟨rfl, hb3⟩); (have HB3 := hid (Below_chain HB2.out hb3)); (clear hb3))
    | (go_at_call 58; (refine (growthOfWord_any _ (woT [] a) _ HU1.out.reads (wo_bal a) HL.out).mono ?_); (rintro e w2 ⟨u2, rfl, ho2, hb2⟩); (have HU2 := hid ho2); (have HB2 := hid (Below_chain HB1.out hb2)); (clear ho2 hb2))
    | (go_at_call 57; (refine (wordOfGrowth_any _ a _ HR.out HG.out).mono ?_); (rintro e w1 ⟨u1, rfl, ho1, hb1⟩); (have HU1 := hid ho1); (have HB1 := hid hb1); (clear ho1 hb1))
    | fail)
  go_ret
  exact ⟨rfl, HB3.out⟩
def hcRes (a : List Int) : Bool := grB a && hcP a
theorem impl_HasCrossing_any (v : Value) (xs : List Int) (w : World) (h : Sits w v xs) (hl : xs.length ≤ 1048576) (_hwf : ∀ x ∈ xs, (Lit.int .i64 x).wf = true) :
    Calls Try.prog 24 #[v] w fun e w' => e = .returned (.tuple #[.bool (hcRes xs), .bool (grB xs)]) ∧ Below w.heap.size w w' := by
  have HR := hid h.reads
  clear h
  cases hg : grB xs
  · have HF := hid (show hcRes xs = false by unfold hcRes; rw [hg]; rfl)
    go_enter Try.func24, Try.ntmps24
    go_wp2_with (first | (go_at_call 54; refine (impl_IsGrowth_any _ xs _ HR.out hl).mono ?_; rintro e w1 ⟨rfl, hb⟩; rw [hg]; have HB := hid hb; clear hb) | fail)
    go_ret2
    exact ⟨by rw [HF.out]; rfl, HB.out⟩
  · have HF := hid (show hcRes xs = hcP xs by unfold hcRes; rw [hg]; rfl)
    have HG := hid hg
    go_enter Try.func24, Try.ntmps24
    go_wp2_with (first
      | (go_at_call 55; (refine (hasCrossing_any _ xs _ (HR.out.below HB.out) HG.out).mono ?_); (rintro e w2 ⟨rfl, hb2⟩); (have HB2 := hid (Below_chain HB.out hb2)); (clear hb2))
      | (go_at_call 54; refine (impl_IsGrowth_any _ xs _ HR.out hl).mono ?_; rintro e w1 ⟨rfl, hb⟩; rw [hg]; have HB := hid hb; clear hb)
      | fail)
    go_ret2
    exact ⟨by rw [HF.out]; rfl, HB2.out⟩
end Go.Proofs.Ytakelcboamjndab
