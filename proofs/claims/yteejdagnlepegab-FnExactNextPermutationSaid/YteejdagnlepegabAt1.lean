/- Contract: raAt, the order with a rank of some numbers. Conditions: at most 12 numbers, the rank below the factorial. -/
import Derived.Test.YteejdagnlepegabApp
namespace Go.Proofs.Yteejdagnlepegab
open Go.RowKit
set_option linter.unusedVariables false

/-- the order with the rank r of m numbers -/
def atR : Nat → List Int → Nat → List Int
  | 0, _, _ => []
  | m + 1, xs, r => xs.getD (r / fact m) 0 :: atR m (xs.eraseIdx (r / fact m)) (r % fact m)
theorem atR_length (m : Nat) : ∀ (xs : List Int) (r : Nat), (atR m xs r).length = m := by
  induction m with
  | zero => intro xs r; rfl
  | succ m ih => intro xs r; rw [atR, List.length_cons, ih]
theorem at_index {m r : Nat} (h : r < fact (m + 1)) (hm : m < 12) : r / fact m < m + 1 ∧ r % fact m < fact m := by
  have hp := fact_pos m (by omega)
  exact ⟨Nat.div_lt_of_lt_mul (by rw [fact] at h; rw [Nat.mul_comm]; exact h), Nat.mod_lt _ (by omega)⟩

theorem Reads.sits {w : World} {v : Value} {xs : List Int} (h : Reads w v xs) (hx : 0 < xs.length) : Sits w v xs := by
  obtain ⟨ao, c, rfl, hc1, hm, h⟩ := h.view
  rcases h with h | ⟨b, off, rfl, hb, hc⟩
  · rw [h] at hx; simp at hx
  · exact ⟨b, off, c, rfl, hc1, hm, hb, hc⟩
theorem Own.lit1 (w : World) (x : Int) : Own (w.alloc (.cells #[.int .i64 x] 3)) w.heap.size (.slice (some ⟨w.heap.size, 0, none⟩) 1 1) [x] :=
  World.ownsRow_lit w #[.int .i64 x] 1 (Nat.le_refl _) (by unfold maxLen; omega) rfl
theorem raWithout_int (v : Value) (xs : List Int) (k : Nat) (ki : Int) (w : World) (h : Sits w v xs) (e : ki = (k : Int)) (hk : k < xs.length) (hl : xs.length ≤ 1048576) :
    Calls Try.prog 78 #[v, .int .i64 ki] w fun e w' => ∃ u, e = .returned u ∧ Own w' w.heap.size u (xs.eraseIdx k) ∧ Below w.heap.size w w' ∧ u ≠ .slice none 0 0 := by
  subst e
  exact raWithout_any v xs k w h hk hl
theorem own_low {g n c : Nat} : ∀ k, (Value.slice (some ⟨g, 0, none⟩) n c).ownBlock = some k → g ≤ k := by
  intro k hk
  simp [Value.ownBlock] at hk
  omega
theorem alloc_size_le (w : World) (o : Obj) : w.heap.size ≤ (w.alloc o).heap.size := by simp
theorem raAt_any (m : Nat) : ∀ (v : Value) (xs : List Int) (r : Nat) (ri : Int) (w : World), Reads w v xs → xs.length = m → m ≤ 12 → r < fact m → ri = (r : Int) →
    Calls Try.prog 70 #[v, .int .i64 ri] w fun e w' => ∃ u, e = .returned u ∧ Own w' w.heap.size u (atR m xs r) ∧ Below w.heap.size w w' := by
  induction m with
  | zero =>
    intro v xs r ri w h hl _ hr e
    obtain ⟨ao, c, rfl, hc1, hm, _⟩ := h.view
    rw [hl]
    go_enter Try.func70, Try.ntmps70
    go_wp2_with fail
    go_ret
    exact ⟨_, rfl, Own.nil _ _, Below.refl _ _⟩
  | succ m ih =>
    intro v xs r ri w h hl hm12 hr e
    subst e
    obtain ⟨hq, hrem⟩ := at_index hr (by omega)
    have hf1 := fact_pos m (by omega)
    have hf2 := fact_le m (by omega)
    have hf3 := fact_le (m + 1) (by omega)
    obtain ⟨i0, hi, hz0, hz1, hz2⟩ := info_parts Try.info3
    obtain ⟨b, off, c, rfl, hc1, hm, hb, hc⟩ := h.sits (by omega)
    obtain ⟨q, hqd⟩ : ∃ q, q = r / fact m := ⟨_, rfl⟩
    have hqx : q < xs.length := by rw [hqd, hl]; exact hq
    obtain ⟨x, hx⟩ : ∃ x, x = xs[q] := ⟨_, rfl⟩
    have HX : Hid (atR (m + 1) xs r = x :: atR m (xs.eraseIdx q) (r % fact m)) := by
      show atR (m + 1) xs r = x :: atR m (xs.eraseIdx q) (r % fact m)
      rw [atR, ← hqd, getD_at hqx, hx]
    obtain ⟨t, ht⟩ : ∃ t, t = r % fact m := ⟨_, rfl⟩
    rw [← ht] at hrem HX
    have hcx2 : w.cell? ⟨b, off + q, none⟩ = some (.int .i64 x) := by
      have := hc q hqx
      rw [← hx] at this
      exact this
    have HS := hid (show Sits w (.slice (some ⟨b, off, none⟩) xs.length c) xs from ⟨b, off, c, rfl, hc1, hm, hb, hc⟩)
    have hne : ((xs.length : Int) == 0) = false := beq_eq_false_iff_ne.2 (by omega)
    have hfm : ((fact m : Int) == 0) = false := beq_eq_false_iff_ne.2 (by omega)
    have hfm2 : (1 : Int) ≤ (fact m : Int) := by omega
    have hz1' : ¬ fact m = 0 := by omega
    have hz2' : ¬ (fact m : Int) = 0 := by omega
    have hz3' : (fact m == 0) = false := beq_eq_false_iff_ne.2 (by omega)
    have e1 : ((xs.length : Int) - 1) = (m : Int) := by omega
    have E1 := hid e1
    have hr63 : (r : Int) ≤ 479001600 := by omega
    have u1 : (r : Int).tdiv (fact m : Int) = (q : Int) := by
      rw [Int.tdiv_eq_ediv_of_nonneg (Int.natCast_nonneg r), ← Int.natCast_ediv, hqd]
    have u2 : (r : Int).tmod (fact m : Int) = (t : Int) := by
      rw [Int.tmod_eq_emod_of_nonneg (Int.natCast_nonneg r), ← Int.natCast_emod, ht]
    have hq12 : q ≤ 12 := by omega
    have u3 : IntKind.i64.wrap (q : Int) = (q : Int) := IntWalk.i64_in _ (by omega)
    have u4 : IntKind.i64.wrap (t : Int) = (t : Int) := IntWalk.i64_in _ (by omega)
    have u5 : (0 : Int) ≤ (q : Int) := by omega
    have u6 : (q : Int) < (xs.length : Int) := by omega
    have hlen12 : xs.length ≤ 12 := by omega
    have HEL := hid (show (xs.eraseIdx q).length = m by rw [List.length_eraseIdx_of_lt hqx]; omega)
    have HAL := hid (atR_length m (xs.eraseIdx q) t)
    have HRT := hid hrem
    have HLN := hid (show [x].length + (atR m (xs.eraseIdx q) t).length ≤ 1048576 by rw [atR_length]; simp; omega)
    have hm1 : m ≤ 12 := by omega
    have hxl : xs.length ≤ 1048576 := by omega
    have HM12 := hid hm12
    clear hc hx h hl e1 hqd ht hq hr hrem
    go_enter Try.func70, Try.ntmps70
    go_wp2_with fail
    rw [E1.out]
    refine (raFactorial_any m _ (by omega)).mono ?_
    rintro e w' ⟨rfl, rfl⟩
    go_wp2_with fail
    have HLIT := hid ((Own.lit1 w x).below (Below.refl _ _).drew)
    go_region_held3 (fun w' => w'.cell? ⟨b, off + q, none⟩ = some (.int .i64 x))
      (first | exact (HB3.out.cell (by exact hb)).trans hcx2 | exact (HB2.out.cell (by exact hb)).trans hcx2 | exact (HB1.out.cell (by exact hb)).trans hcx2 | go_keep | fail)
      (first
        | (go_at_call 78; refine (raWithout_any _ xs q _ ?_ hqx hxl).mono ?_; (first | exact HS.out.below (Below.refl _ _).drew | exact HS.out.below ((Below.refl _ _).alloc (Nat.le_refl _) _).drew); rintro e w1 ⟨u, rfl, hou, hbw, hnu⟩; have HOU := hid hou; (first | (have HB1 := hid (Below_chain (Below.refl w.heap.size w).drew hbw)) | (have HB1 := hid (Below_chain ((Below.refl w.heap.size w).alloc (Nat.le_refl _) (.cells #[.int .i64 x] 3)).drew hbw); have HL1 := hid (HLIT.out.below hbw))); clear hou)
        | (go_at_call 70; refine (ih _ (xs.eraseIdx q) t _ _ ?_ HEL.out hm1 HRT.out rfl).mono ?_; (first | exact HOU.out.reads | exact (HOU.out.below ((Below.refl _ _).alloc (Nat.le_refl _) _)).reads); rintro e w2 ⟨u2, rfl, hou2, hb2⟩; have HOU2 := hid hou2; (first | (have HL2 := hid (HL1.out.below hb2); have HB2 := hid (Below_chain HB1.out hb2)) | (have HL2 := hid ((Own.lit1 w1 x).below hb2); have HB2 := hid (Below_chain (Below_chain HB1.out ((Below.refl _ _).alloc (Nat.le_refl _) (.cells #[.int .i64 x] 3))) hb2); have HZ := hid (show w1.heap.size ≤ w2.heap.size from Nat.le_trans (by simp) hb2.size)) | (have HB2 := hid (Below_chain HB1.out hb2))); clear hou2)
        | (refine step_append_src _ rfl _ _ _ rfl w.heap.size i0 Try.underlying28 hi hz0 hz1 hz2 (.slice (some ⟨w.heap.size, 0, none⟩) 1 1) [x] rfl HL2.out u2 _ (atR m (xs.eraseIdx q) t) rfl HOU2.out HLN.out HB2.out.size ?_; intro v' w3 hown' hgrow; have HB3 := hid (HB2.out.grown hgrow HB2.out.size own_low); have HO3 := hid hown'; clear hown' hgrow)
        | (refine step_append_src _ rfl _ _ _ rfl w1.heap.size i0 Try.underlying28 hi hz0 hz1 hz2 (.slice (some ⟨w1.heap.size, 0, none⟩) 1 1) [x] rfl HL2.out u2 _ (atR m (xs.eraseIdx q) t) rfl HOU2.out HLN.out HZ.out ?_; intro v' w3 hown' hgrow; have HB3 := hid (HB2.out.grown hgrow HB2.out.size (fun k hk => Nat.le_trans HB1.out.size (own_low k hk))); have HO3 := hid (hown'.mono HB1.out.size); clear hown' hgrow)
        | (refine step_append_src _ rfl _ _ _ rfl w2.heap.size i0 Try.underlying28 hi hz0 hz1 hz2 (.slice (some ⟨w2.heap.size, 0, none⟩) 1 1) [x] rfl (Own.lit1 w2 x) u2 _ (atR m (xs.eraseIdx q) t) rfl (HOU2.out.below ((Below.refl _ _).alloc (Nat.le_refl _) _)) HLN.out (alloc_size_le w2 _) ?_; intro v' w3 hown' hgrow; have HB3 := hid ((HB2.out.alloc HB2.out.size _).grown hgrow (Nat.le_trans HB2.out.size (alloc_size_le w2 _)) (fun k hk => Nat.le_trans HB2.out.size (own_low k hk))); have HO3 := hid (hown'.mono HB2.out.size); clear hown' hgrow)
        | fail)
    all_goals
      go_wp2
      go_ret
      exact ⟨_, rfl, by rw [HX.out]; exact HO3.out, HB3.out⟩
end Go.Proofs.Yteejdagnlepegab
