/- Contract: impl.NextCombination. Conditions: the slice reads as a list of at most 2^20 numbers. -/
import Derived.Test.YtijjdidljoicfabNxt1
namespace Go.Proofs.Ytijjdidljoicfab
open Go.RowKit
set_option linter.unusedVariables false

theorem succC_prefix (n : Nat) {s s' : List Int} (h : succC n s = some s') : ∀ p : List Int, succC n (p ++ s) = some (p ++ s')
  | [] => h
  | x :: p => by rw [List.cons_append, succC, succC_prefix n h p]; rfl
theorem RF_get {n : Nat} : ∀ (xs : List Int) (f : Nat), RF n f xs → ∀ i, i < xs.length → (f : Int) ≤ xs.getD i 0 ∧ xs.getD i 0 + ((xs.length : Int) - i) ≤ n
  | x :: t, f, h, 0, _ => by
    obtain ⟨h1, h2, h3⟩ := h
    simp only [List.getD_cons_zero, List.length_cons]
    by_cases ht : 0 < t.length
    · have := RF_len t _ h3 ht; omega
    · omega
  | x :: t, f, h, i + 1, hi => by
    obtain ⟨h1, h2, h3⟩ := h
    have := RF_get t _ h3 i (by simp at hi; omega)
    simp only [List.getD_cons_succ, List.length_cons]
    omega
/-- the elements up from j stand as high as they can -/
def NxTop (n : Nat) (xs : List Int) (k : Nat) : Prop := succC n (xs.drop k) = none
theorem NxTop.start (n : Nat) (xs : List Int) : NxTop n xs xs.length := by unfold NxTop; rw [List.drop_length]; rfl
theorem NxTop.step {n : Nat} {xs : List Int} {j : Nat} (h : NxTop n xs (j + 1)) (hj : j < xs.length) (hx : xs[j] = (n : Int) - xs.length + j) : NxTop n xs j := by
  unfold NxTop at h ⊢
  rw [List.drop_eq_getElem_cons hj, succC, h]
  have : ¬ (xs[j] + 1 + ((xs.drop (j + 1)).length : Int) < n) := by rw [List.length_drop, hx]; omega
  simp only [this, if_false]
theorem NxTop.found {n : Nat} {xs : List Int} {j : Nat} (h : NxTop n xs (j + 1)) (hj : j < xs.length) (hx : xs[j] < (n : Int) - xs.length + j) : succC n xs = some (xs.take j ++ upFrom (xs[j] + 1) (xs.length - j)) := by
  unfold NxTop at h
  have e : succC n (xs.drop j) = some (upFrom (xs[j] + 1) (xs.length - j)) := by
    rw [List.drop_eq_getElem_cons hj, succC, h]
    have : xs[j] + 1 + ((xs.drop (j + 1)).length : Int) < n := by rw [List.length_drop]; omega
    simp only [this, if_true]
    rw [List.length_drop, show xs.length - (j + 1) + 1 = xs.length - j by omega]
  have := succC_prefix n e (xs.take j)
  rwa [List.take_append_drop] at this
/-- the row of the next combination, filled up to t -/
def nrow (xs : List Int) (j t i : Nat) : Int := if i < j then xs.getD i 0 else if i < t then xs.getD j 0 + 1 + ((i : Int) - j) else xs.getD i 0
theorem nrow_end {xs : List Int} {j : Nat} (hj : j < xs.length) (i : Nat) (hi : i < xs.length) : nrow xs j xs.length i = (xs.take j ++ upFrom (xs[j] + 1) (xs.length - j)).getD i 0 := by
  have hg : xs.getD j 0 = xs[j] := by simp [List.getD_eq_getElem?_getD, hj]
  unfold nrow
  by_cases h : i < j
  · rw [if_pos h, List.getD_eq_getElem?_getD, List.getD_eq_getElem?_getD, List.getElem?_append_left (by simp; omega), List.getElem?_take_of_lt h]
  · rw [if_neg h, if_pos hi, hg, List.getD_eq_getElem?_getD, List.getElem?_append_right (by simp; omega), ← List.getD_eq_getElem?_getD, upFrom_getD _ _ _ (by simp; omega)]
    simp only [List.length_take]
    omega
theorem nrow_set {w : World} {g n : Nat} {xs : List Int} {j t : Nat} {y : Int} (hjt : j ≤ t) (hy : y = xs.getD j 0 + 1 + ((t : Int) - j)) (h : w.rowIs g 3 n (fun i => .int .i64 (nrow xs j t i))) :
    (w.setCell ⟨g, t, none⟩ (.int .i64 y)).rowIs g 3 n (fun i => .int .i64 (nrow xs j (t + 1) i)) := by
  refine (h.set t (.int .i64 y)).congr (fun i hi => ?_)
  unfold nrow
  by_cases e : i = t
  · subst e
    rw [if_pos rfl, if_neg (by omega), if_pos (by omega), hy]
  · rw [if_neg e]
    by_cases h1 : i < j
    · rw [if_pos h1, if_pos h1]
    · rw [if_neg h1, if_neg h1]
      by_cases h2 : i < t
      · rw [if_pos h2, if_pos (by omega)]
      · rw [if_neg h2, if_neg (by omega)]
set_option maxHeartbeats 800000 in
theorem impl_NextCombination_any (n : Int) (v : Value) (xs : List Int) (w : World) (_wn : (Lit.int .i64 n).wf = true) (h : Sits w v xs) (hl : xs.length ≤ 1048576) (_hwf : ∀ x ∈ xs, (Lit.int .i64 x).wf = true) :
    Calls Try.prog 78 #[.int .i64 n, v] w fun e w' => ∃ u, e = .returned (.tuple #[u, .bool (nxB n xs)]) ∧ Own w' w.heap.size u (nxRes n xs) ∧ Below w.heap.size w w' := by
  have HR := hid h.reads
  have HS := hid h
  obtain ⟨b, off, c, rfl, hc1, hm, hb, hc⟩ := h
  clear hc
  by_cases hp : combB n xs = true
  · obtain ⟨c1, c2, c3, c4⟩ := RF_comb hp
    obtain ⟨N, rfl⟩ := Int.eq_ofNat_of_zero_le c3
    have HP2 := hid hp
    have hN : N ≤ 12 := by omega
    have HX := hid (RF_get xs 0 (by simpa using c1))
    clear c1
    go_enter Try.func78, Try.ntmps78
    go_wp2_with fail
    refine (impl_IsCombination_any _ _ xs _ HR.out).mono ?_
    rintro e W1 ⟨rfl, hq⟩
    have hb1 := Drew.below hq w.heap.size
    have hs1 := HS.out.below hb1
    have HS1 := hid hs1
    have HB1 := hid hb1
    obtain ⟨b', off', c', e1, _, _, _, hcW⟩ := hs1
    simp only [Value.slice.injEq, Option.some.injEq, Addr.mk.injEq, and_true, true_and] at e1
    obtain ⟨⟨rfl, rfl⟩, rfl⟩ := e1
    have HC := hid hcW
    clear hcW hq hb1
    go_wp2_with fail
    go_loop [6] (fun iv => ∃ k : Nat, k ≤ xs.length ∧ iv = .int .i64 ((k : Int) - 1) ∧ NxTop N xs k) (fun iv => (intOf iv + 1).toNat)
    case atStart => exact ⟨xs.length, Nat.le_refl _, rfl, NxTop.start _ _⟩
    case round =>
      obtain ⟨k, hk, rfl, htop⟩ := hrel
      have HT := hid htop
      clear htop
      cases k with
      | zero =>
        rw [show (((0 : Nat) : Int) - 1) = -1 from rfl]
        have HF : Hid (nxB (N : Int) xs = false) := by
          show nxB (N : Int) xs = false
          have := HT.out
          unfold NxTop at this
          rw [List.drop_zero] at this
          rw [nxB, Int.toNat_natCast, this]; simp
        have HXX := hid (nxRes_no HF.out)
        go_wp2_with fail
        go_ret2
        exact ⟨_, ret_sb6 HF.out.symm, by rw [HXX.out]; exact Own.nil _ _, HB1.out⟩
      | succ j =>
        rw [show (((j + 1 : Nat) : Int) - 1) = (j : Int) from by omega]
        have hlt : j < xs.length := by omega
        have hcx := HC.out j hlt
        have hxr := HX.out j hlt
        have HG := hid (show xs.getD j 0 = xs[j] by simp [List.getD_eq_getElem?_getD, hlt])
        rw [HG.out] at hxr
        obtain ⟨x, hx⟩ : ∃ x, x = xs[j] := ⟨_, rfl⟩
        rw [← hx] at hcx hxr HG
        have HXJ := hid hx
        clear hx
        by_cases heq : x = (N : Int) - (xs.length : Int) + (j : Int)
        · have HNT := hid (HT.out.step hlt (by rw [← HXJ.out]; exact heq))
          have hbq : (x == (N : Int) - (xs.length : Int) + (j : Int)) = true := by simp [heq]
          have HEQ := hid heq
          clear heq
          go_wp2_with fail
          go_round
          case rel => exact ⟨j, by omega, by go_num, HNT.out⟩
          case measure => simp [intOf]; try omega
        · have HFD := hid (HT.out.found hlt (by rw [← HXJ.out]; omega))
          have hbq : (x == (N : Int) - (xs.length : Int) + (j : Int)) = false := by simp [heq]
          have hx0 : 0 ≤ x ∧ x < 12 := by omega
          have HF : Hid (nxB (N : Int) xs = true) := by
            show nxB (N : Int) xs = true
            rw [nxB, Int.toNat_natCast, HFD.out, HP2.out]; rfl
          have HXX := hid (nxRes_yes HF.out)
          clear heq hxr
          go_wp2_with fail
          refine (copyOf_any _ xs _ HS1.out hl).mono ?_
          rintro e W2 ⟨rfl, hrow, hb2⟩
          have hcj : W2.cell? ⟨W1.heap.size, j, none⟩ = some (.int .i64 x) := by rw [hrow.cell hlt, HG.out]
          have hfj := hrow.frozen j
          have HRW := hid (nrow_set (y := x + 1) (j := j) (Nat.le_refl j) (by rw [HG.out]; omega) (hrow.congr (g := fun i => .int .i64 (nrow xs j j i)) (fun i hi => by
            unfold nrow
            by_cases h1 : i < j
            · rw [if_pos h1]
            · rw [if_neg h1, if_neg h1])))
          have HSZ1 := hid HB1.out.size
          have HB2 := hid ((Below_chain HB1.out hb2).setCell (p := ⟨W1.heap.size, j, none⟩) HSZ1.out (.int .i64 (x + 1)))
          clear hrow hb2
          go_wp2_with fail
          go_loopw [8] (fun jv wr => ∃ s : Nat, j ≤ s ∧ s < xs.length ∧ jv = .int .i64 ((s : Int) + 1) ∧ wr.rowIs W1.heap.size 3 xs.length (fun i => .int .i64 (nrow xs j (s + 1) i)) ∧ Below w.heap.size w wr) (fun jv _ => (xs.length + 1) - (intOf jv).toNat)
          case atStart => exact ⟨j, Nat.le_refl _, hlt, rfl, HRW.out, HB2.out⟩
          case round =>
            obtain ⟨s, hjs, hsl, rfl, hrow, hbel⟩ := hrel
            by_cases hs2 : s + 1 < xs.length
            · have hcs : wr.cell? ⟨W1.heap.size, s, none⟩ = some (.int .i64 (x + 1 + ((s : Int) - j))) := by
                rw [hrow.cell hsl, nrow, if_neg (by omega), if_pos (by omega), HG.out]
              have hfs := hrow.frozen (s + 1)
              obtain ⟨z, hz⟩ : ∃ z, wr.cell? ⟨W1.heap.size, s + 1, none⟩ = some z := ⟨_, hrow.cell hs2⟩
              have HRN := hid (nrow_set (y := x + 1 + ((s : Int) - j) + 1) (j := j) (t := s + 1) (by omega) (by rw [HG.out]; omega) hrow)
              have HBN := hid (hbel.setCell (p := ⟨W1.heap.size, s + 1, none⟩) HSZ1.out (.int .i64 (x + 1 + ((s : Int) - j) + 1)))
              clear hrow hbel
              go_wp2_with fail
              go_roundw
              case rel => exact ⟨s + 1, by omega, hs2, by go_num, HRN.out, HBN.out⟩
              case measure => simp [intOf]; try omega
            · have hse : s + 1 = xs.length := by omega
              have HRE := hid (hrow.congr (g := fun i => .int .i64 ((xs.take j ++ upFrom (xs[j] + 1) (xs.length - j)).getD i 0)) (fun i hi => by rw [hse, nrow_end hlt i hi]))
              have HBE := hid hbel
              clear hrow hbel
              go_wp2_with fail
              go_ret2
              exact ⟨_, ret_sb6 HF.out.symm, by rw [HXX.out, Int.toNat_natCast, HFD.out, Option.getD_some]; exact (Own.of_rowIs HRE.out (by rw [List.length_append, upFrom_length, List.length_take]; omega) (by unfold maxLen; omega)).mono HSZ1.out, HBE.out⟩
  · have hp : combB n xs = false := by simpa using hp
    have HP := hid (nxB_no hp)
    have HX := hid (nxRes_no HP.out)
    have HP2 := hid hp
    go_enter Try.func78, Try.ntmps78
    go_wp2_with (first | (go_at_call 89; refine (impl_IsCombination_any _ _ xs _ HR.out).mono ?_; rintro e W1 ⟨rfl, hq⟩; have HQ := hid (Drew.below hq w.heap.size); clear hq) | fail)
    go_ret2
    exact ⟨_, ret_sb6 HP.out.symm, by rw [HX.out]; exact Own.nil _ _, HQ.out⟩
end Go.Proofs.Ytijjdidljoicfab
