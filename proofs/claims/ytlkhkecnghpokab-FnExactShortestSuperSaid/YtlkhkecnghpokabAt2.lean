/- Contracts: both PermutationAt functions. Conditions: none on the numbers. -/
import Derived.Test.YtlkhkecnghpokabBs2
namespace Go.Proofs.Ytlkhkecnghpokab
open Go.RowKit
set_option linter.unusedVariables false
set_option maxRecDepth 4000

theorem ret_sb3 {u : Value} {b b' : Bool} (h : b = b') : Ending.returned (.tuple #[u, .bool b]) = .returned (.tuple #[u, .bool b']) := by rw [h]
theorem inB_nat2 {n : Int} (h : inB n 0 12 = true) : ∃ k : Nat, n = k ∧ k < 13 := by
  have := inB_iff.1 h
  exact ⟨n.toNat, by omega, by omega⟩
/-- is there a permutation of n with the rank r, and which -/
def patB (n r : Int) : Bool := inB n 0 12 && inB r 0 ((fact n.toNat : Int) - 1)
def patRes (n r : Int) : List Int := if patB n r = true then atR n.toNat (upTo n.toNat) r.toNat else []
theorem patRes_yes {n r : Int} (h : patB n r = true) : patRes n r = atR n.toNat (upTo n.toNat) r.toNat := by unfold patRes; rw [if_pos h]
theorem patRes_no {n r : Int} (h : patB n r = false) : patRes n r = [] := by unfold patRes; rw [if_neg (by rw [h]; simp)]
theorem bound_PermutationAt (n r : Int) : (patRes n r).length ≤ 1048576 := by
  by_cases h : patB n r = true
  · rw [patRes_yes h, atR_length]
    simp only [patB, Bool.and_eq_true, inB_iff] at h
    omega
  · rw [patRes_no (by simpa using h)]; simp


theorem grownBy_setCell (w : World) (p : Addr) (u : Value) : w.grownBy (w.setCell p u) (some p.block) :=
  ⟨rfl, rfl, rfl, by simp, fun k _ hne => Below.heap_setCell w p u k (fun e => hne (by rw [e]))⟩
/-- how far the loop of PermutationAt has come -/
def AtInv (n : Nat) (all : List Int) (k : Nat) (left : List Int) (r : Nat) (done : List Int) : Prop :=
  done.length = k ∧ left.length = n - k ∧ r < fact (n - k) ∧ done ++ atR (n - k) left r = all
theorem AtInv.step {n k r : Nat} {all left done : List Int} (h : AtInv n all k left r done) (hk : k < n) (hn : n ≤ 12) :
    r / fact (n - 1 - k) < left.length ∧ AtInv n all (k + 1) (left.eraseIdx (r / fact (n - 1 - k))) (r % fact (n - 1 - k)) (done ++ [left.getD (r / fact (n - 1 - k)) 0]) := by
  obtain ⟨h1, h2, h3, h4⟩ := h
  have e : n - k = (n - 1 - k) + 1 := by omega
  rw [e] at h3 h4
  obtain ⟨i1, i2⟩ := at_index h3 (by omega)
  rw [atR] at h4
  have e2 : n - (k + 1) = n - 1 - k := by omega
  refine ⟨by omega, by simp [h1], ?_, by rw [e2]; exact i2, by rw [e2, List.append_assoc]; exact h4⟩
  rw [List.length_eraseIdx_of_lt (by omega)]
  omega
def doneRow (done : List Int) (j : Nat) : Int := if j < done.length then done.getD j 0 else 0
theorem doneRow_set {w : World} {g n : Nat} {done : List Int} {x : Int} (h : w.rowIs g 3 n (fun j => .int .i64 (doneRow done j))) :
    (w.setCell ⟨g, done.length, none⟩ (.int .i64 x)).rowIs g 3 n (fun j => .int .i64 (doneRow (done ++ [x]) j)) := by
  refine (h.set done.length (.int .i64 x)).congr (fun i hi => ?_)
  unfold doneRow
  by_cases e : i = done.length
  · subst e
    simp
  · rw [if_neg e]
    by_cases h1 : i < done.length
    · rw [if_pos h1, if_pos (by simp; omega)]
      simp [List.getD_eq_getElem?_getD, List.getElem?_append_left h1]
    · rw [if_neg h1, if_neg (by simp; omega)]
theorem rowIs_grown {w w' : World} {g n : Nat} {f : Nat → Value} {row : Option Nat} (h : w.rowIs g 3 n f) (hg : w.grownBy w' row) (hne : some g ≠ row) : w'.rowIs g 3 n f :=
  h.of_block (hg.block g h.lt hne)

theorem impl_PermutationAt_any (n r : Int) (w : World) (_wn : (Lit.int .i64 n).wf = true) (_wr : (Lit.int .i64 r).wf = true) :
    Calls Try.prog 91 #[.int .i64 n, .int .i64 r] w fun e w' => ∃ u, e = .returned (.tuple #[u, .bool (patB n r)]) ∧ Own w' w.heap.size u (patRes n r) ∧ Below w.heap.size w w' := by
  by_cases h1 : inB n 0 12 = true
  · obtain ⟨m, rfl, hm⟩ := inB_nat2 h1
    have hf := fact_pos m hm
    have hf2 := fact_le m hm
    by_cases h2 : 0 ≤ r
    · obtain ⟨r, rfl⟩ := Int.eq_ofNat_of_zero_le h2
      by_cases h3 : r < fact m
      · have HF : Hid (patB (m : Int) (r : Int) = true) := by
          show patB (m : Int) (r : Int) = true
          rw [patB, h1, Int.toNat_natCast]; simp [inB]; omega
        have HX := hid (patRes_yes HF.out)
        have HI0 : Hid (AtInv m (atR m (upTo m) r) 0 (upTo m) r []) := hid ⟨rfl, by rw [upTo_length]; rfl, h3, by simp⟩
        have hmk := run_make_ints m (by omega) w
        have HM := hid (World.rowIs_made w (.int .i64 0) m 3)
        have HB0 := hid ((Below.refl w.heap.size w).alloc (Nat.le_refl _) (.cells (madeCells #[.int .i64 0] m) 3))
        go_enter Try.func91, Try.ntmps91
        go_wp2_with (first | (go_at_call 102; refine (isItemCount_any _ _).mono ?_; rintro e w' ⟨rfl, rfl⟩) | (go_at_call 48; refine (factorial_any m _ hm).mono ?_; rintro e w' ⟨rfl, rfl⟩) | (go_at_call 107; refine (firstNumbers_any m _ (by omega)).mono ?_; rintro e w1 ⟨rfl, hou, hb1⟩; have HOU := hid hou; have HB1 := hid hb1; clear hou hb1) | fail)
        clear hmk
        go_loopw [1, 7, 8, 9, 29] (fun rv lv _ _ i wr => ∃ (k : Nat) (left : List Int) (rr : Nat) (done : List Int), k ≤ m ∧ i = .int .i64 k ∧ rv = .int .i64 rr ∧ lv = .slice (some ⟨w.heap.size + 1, 0, none⟩) left.length m ∧ AtInv m (atR m (upTo m) r) k left rr done ∧ wr.rowIs w.heap.size 3 m (fun j => .int .i64 (doneRow done j)) ∧ Own wr (w.heap.size + 1) (.slice (some ⟨w.heap.size + 1, 0, none⟩) left.length m) left ∧ Below w.heap.size w wr) (fun _ _ _ _ i _ => m - (intOf i).toNat)
        case atStart =>
          have hsz : (w.alloc (.cells (madeCells #[.int .i64 0] m) 3)).heap.size = w.heap.size + 1 := by simp
          have hou := HOU.out
          have hb1 := HB1.out
          rw [hsz] at hou hb1
          exact ⟨0, upTo m, r, [], Nat.zero_le _, rfl, rfl, by rw [upTo_length], HI0.out, (HM.out.congr (fun i hi => by simp [doneRow])).of_block (hb1.block _ (by omega)), by rw [upTo_length]; exact hou, HB0.out.trans (hb1.mono (by omega))⟩
        case round =>
          obtain ⟨k, left, rr, done, hk, rfl, rfl, rfl, hinv, hrow, hown, hbel⟩ := hrel
          by_cases hlt : k < m
          · obtain ⟨g1, g2⟩ := hinv.step hlt (by omega)
            obtain ⟨F, hF⟩ : ∃ F, F = fact (m - 1 - k) := ⟨_, rfl⟩
            have hF1 := fact_pos (m - 1 - k) (by omega)
            have hF2 := fact_le (m - 1 - k) (by omega)
            have hdl := hinv.1
            have HIV := hid g2
            rw [← hF] at hF1 hF2 g1 g2
            obtain ⟨Q, hQ⟩ : ∃ Q, Q = rr / F := ⟨_, rfl⟩
            obtain ⟨T, hT⟩ : ∃ T, T = rr % F := ⟨_, rfl⟩
            rw [← hQ] at g1 g2
            rw [← hT] at g2
            have u1 : (rr : Int).tdiv (F : Int) = (Q : Int) := by
              rw [Int.tdiv_eq_ediv_of_nonneg (Int.natCast_nonneg rr), ← Int.natCast_ediv, hQ]
            have u2 : (rr : Int) % (F : Int) = (T : Int) := by rw [← Int.natCast_emod, hT]
            have u2' : (rr : Int).tmod (F : Int) = (T : Int) := by
              rw [Int.tmod_eq_emod_of_nonneg (Int.natCast_nonneg rr)]; exact u2
            have hll : left.length ≤ 12 := by have := hinv.2.1; omega
            have hrr : rr ≤ 479001600 := by
              have := hinv.2.2.1
              have := fact_le (m - k) (by omega)
              omega
            have hT1 : T ≤ 479001600 := by rw [hT]; exact Nat.le_trans (Nat.mod_le _ _) hrr
            have u3 : IntKind.i64.wrap (Q : Int) = (Q : Int) := IntWalk.i64_in _ (by omega)
            have u4 : IntKind.i64.wrap (T : Int) = (T : Int) := IntWalk.i64_in _ (by omega)
            have u5 : (rr : Int) / (F : Int) = (Q : Int) := by rw [← Int.natCast_ediv, hQ]
            have hfm : ((F : Int) == 0) = false := beq_eq_false_iff_ne.2 (by omega)
            have hfm2 : (1 : Int) ≤ (F : Int) := by omega
            have hz1' : ¬ F = 0 := by omega
            have hz2' : ¬ (F : Int) = 0 := by omega
            have hz3' : (F == 0) = false := beq_eq_false_iff_ne.2 (by omega)
            have hk0 : (0 : Int) ≤ (k : Int) := by omega
            have hk1 : (k : Int) < (m : Int) := by omega
            rw [getD_at g1] at g2
            obtain ⟨x, hx⟩ : ∃ x, x = left[Q] := ⟨_, rfl⟩
            rw [← hx] at g2
            have HIV := hid g2
            have HTK := hid (takeOut_any (w.heap.size + 1) (w.heap.size + 1) m Q left wr hown g1 (by omega))
            rw [← hx] at HTK
            have HRW := hid hrow
            have HBL := hid hbel
            have HDL := hid hdl
            have HEL := hid (show (left.eraseIdx Q).length = left.length - 1 by rw [List.length_eraseIdx_of_lt g1])
            have HFF := hid hF
            have hblk := hrow.lt
            clear hQ hT hF hx hrow hbel hown hinv g2 hdl
            go_wp2_with fail
            rw [show ((m : Int) - 1 - (k : Int)) = ((m - 1 - k : Nat) : Int) from by omega]
            refine (factorial_any (m - 1 - k) _ (by omega)).mono ?_
            rintro e w' ⟨rfl, rfl⟩
            rw [← HFF.out]
            go_wp2_with fail
            refine HTK.out.mono ?_
            rintro e wt ⟨rfl, hot, hgt⟩
            have hrow2 := rowIs_grown HRW.out hgt (by simp)
            have hcell := hrow2.cell hlt
            have hfro := hrow2.frozen k
            obtain ⟨z, hz⟩ : ∃ z, wt.cell? ⟨w.heap.size, k, none⟩ = some z := ⟨_, hcell⟩
            have hset := doneRow_set (x := x) hrow2
            rw [HDL.out] at hset
            have HSET := hid hset
            have HOW := hid (Own.kept hot (grownBy_setCell wt ⟨w.heap.size, k, none⟩ (.int .i64 x)) (.inr (by simp [Value.ownBlock])))
            have HBE := hid ((HBL.out.grown hgt HBL.out.size (fun q hq => by cases hq; omega)).setCell (p := ⟨w.heap.size, k, none⟩) (Nat.le_refl _) (.int .i64 x))
            clear hcell hrow2 hset hot hgt
            go_wp2_with fail
            go_roundw
            case rel => exact ⟨k + 1, left.eraseIdx Q, T, done ++ [x], by omega, by go_num, rfl, by rw [HEL.out], HIV.out, HSET.out, by rw [HEL.out]; exact HOW.out, HBE.out⟩
            case measure => simp [intOf]; omega
          · obtain rfl : k = m := by omega
            have HIN := hid hinv
            have HRW := hid hrow
            clear hinv hrow hown
            go_wp2_with fail
            go_ret2
            have hl := HIN.out
            unfold AtInv at hl
            rw [Nat.sub_self, atR, List.append_nil] at hl
            exact ⟨_, ret_sb3 HF.out.symm, by
              rw [HX.out, Int.toNat_natCast, Int.toNat_natCast, ← hl.2.2.2]
              exact Own.of_rowIs (HRW.out.congr (fun i hi => by rw [doneRow, if_pos (by omega)])) hl.1 (by unfold maxLen; omega), hbel⟩
      · have HF : Hid (patB (m : Int) (r : Int) = false) := by
          show patB (m : Int) (r : Int) = false
          rw [patB, h1, Int.toNat_natCast]; simp [inB]; omega
        have HX := hid (patRes_no HF.out)
        have hge : (fact m : Int) ≤ (r : Int) := by omega
        go_enter Try.func91, Try.ntmps91
        go_wp2_with (first | (go_at_call 102; refine (isItemCount_any _ _).mono ?_; rintro e w' ⟨rfl, rfl⟩) | (go_at_call 48; refine (factorial_any m _ hm).mono ?_; rintro e w' ⟨rfl, rfl⟩) | fail)
        go_ret2
        exact ⟨_, ret_sb3 HF.out.symm, by rw [HX.out]; exact Own.nil _ _, Below.refl _ _⟩
    · have HF : Hid (patB (m : Int) r = false) := by
        show patB (m : Int) r = false
        rw [patB, h1, Int.toNat_natCast]; simp [inB]; omega
      have HX := hid (patRes_no HF.out)
      go_enter Try.func91, Try.ntmps91
      go_wp2_with (first | (go_at_call 102; refine (isItemCount_any _ _).mono ?_; rintro e w' ⟨rfl, rfl⟩) | (go_at_call 48; refine (factorial_any m _ hm).mono ?_; rintro e w' ⟨rfl, rfl⟩) | fail)
      go_ret2
      exact ⟨_, ret_sb3 HF.out.symm, by rw [HX.out]; exact Own.nil _ _, Below.refl _ _⟩
  · have h1 : inB n 0 12 = false := by simpa using h1
    have HF : Hid (patB n r = false) := by
      show patB n r = false
      rw [patB, h1]; rfl
    have HX := hid (patRes_no HF.out)
    go_enter Try.func91, Try.ntmps91
    go_wp2_with (first | (go_at_call 102; refine (isItemCount_any _ _).mono ?_; rintro e w' ⟨rfl, rfl⟩) | fail)
    go_ret2
    exact ⟨_, ret_sb3 HF.out.symm, by rw [HX.out]; exact Own.nil _ _, Below.refl _ _⟩
end Go.Proofs.Ytlkhkecnghpokab
