/- Contracts: both AllCombinations functions. Conditions: none. -/
import Derived.Test.YtijjdidljoicfabAllC2
import Derived.Deep.RegionHeld3
namespace Go.Proofs.Ytijjdidljoicfab
open Go.RowKit
set_option linter.unusedVariables false

def allB (n k : Int) : Bool := inB n 0 12 && inB k 0 12
def allRes (n k : Int) : List (List Int) := if allB n k = true then allL n.toNat k.toNat 0 else []
theorem allRes_yes {N K : Nat} (h : allB (N : Int) (K : Int) = true) : allRes (N : Int) (K : Int) = allL N K 0 := by unfold allRes; rw [if_pos h]; rfl
theorem allRes_no {n k : Int} (h : allB n k = false) : allRes n k = [] := by unfold allRes; rw [if_neg (by rw [h]; simp)]
theorem allL_none {N K : Nat} (hN : N ≤ 12) (hK : K ≤ 12) (h : N < K) : allL N K 0 = [] := by
  apply List.eq_nil_of_length_eq_zero
  rw [allL_len N hN K 0 hK, Nat.sub_zero, binom_zero N (by omega) K (by omega) h]
theorem Lists.nilA (w : World) (base : Nat) : ListsA w base (.slice none 0 0) [] := ⟨[], rfl, World.ownsRow_nil _ _ _ _, fun i h => absurd h (by simp), fun i j h => absurd h (by simp)⟩
theorem ret_pb {v : Value} {b c : Bool} (h : b = c) : Ending.returned (.tuple #[v, .bool b]) = .returned (.tuple #[v, .bool c]) := by rw [h]
theorem impl_AllCombinations_any (n k : Int) (w : World) (_wn : (Lit.int .i64 n).wf = true) (_wk : (Lit.int .i64 k).wf = true) :
    Calls Try.prog 46 #[.int .i64 n, .int .i64 k] w fun e w' => ∃ u, e = .returned (.tuple #[u, .bool (allB n k)]) ∧ ListsA w' w.heap.size u (allRes n k) ∧ Below w.heap.size w w' := by
  have HB0 := hid ((Below.refl w.heap.size w).alloc (Nat.le_refl _) (.cells #[.int .i64 n] 3))
  by_cases h1 : inB n 0 12 = true
  · by_cases h2 : inB k 0 12 = true
    · have HF : Hid (allB n k = true) := by show allB n k = true; rw [allB, h1, h2]; rfl
      obtain ⟨N, rfl⟩ : ∃ N : Nat, n = N := ⟨n.toNat, by have := inB_iff.1 h1; omega⟩
      obtain ⟨K, rfl⟩ : ∃ K : Nat, k = K := ⟨k.toNat, by have := inB_iff.1 h2; omega⟩
      have hN : N ≤ 12 := by have := inB_iff.1 h1; omega
      have hK : K ≤ 12 := by have := inB_iff.1 h2; omega
      have HX := hid (allRes_yes HF.out)
      by_cases hlt : (N : Int) < (K : Int)
      · have HE := hid (allL_none hN hK (by omega))
        go_enter Try.func46, Try.ntmps46
        go_wp2_with (first | (go_at_call 72; refine (isItemCount_any _ _).mono ?_; rintro e w' ⟨rfl, rfl⟩) | fail)
        go_ret2
        exact ⟨_, ret_pb HF.out.symm, by rw [HX.out, HE.out]; exact Lists.nilA _ _, HB0.out⟩
      · go_enter Try.func46, Try.ntmps46
        go_wp2_with (first | (go_at_call 72; refine (isItemCount_any _ _).mono ?_; rintro e w' ⟨rfl, rfl⟩) | fail)
        have hcell : (w.alloc (.cells #[.int .i64 (N : Int)] 3)).cell? ⟨w.heap.size, 0, none⟩ = some (.int .i64 (N : Int)) := by simp
        have HC0 := hid hcell
        have HCH := hid (chooseZ_nat N K (by omega) (by omega))
        have HSZ := hid (show (w.alloc (.cells #[.int .i64 (N : Int)] 3)).drew.heap.size = w.heap.size + 1 by simp)
        have hKN : K ≤ N := by omega
        clear hcell
        go_region_held3 (fun w' => w'.cell? ⟨w.heap.size, 0, none⟩ = some (.int .i64 (N : Int)))
          (first | exact HC0.out | exact HC1.out | exact HC2.out | go_keep | fail)
          (first
            | (go_at_call 58; refine (firstNumbers_any K _ (by omega)).mono ?_; rintro e w1 ⟨rfl, hou, hb1⟩; have HOU := hid hou; have HB1 := hid (Below_chain HB0.out.drew hb1); have HSZ1 := hid hb1.size; have HC1 := hid ((hb1.cell (p := ⟨w.heap.size, 0, none⟩) (by rw [HSZ.out]; exact Nat.lt_succ_self _)).trans HC0.out); clear hou hb1)
            | (go_at_call 37; refine (choose_any _ _ _ (by omega) (by omega)).mono ?_; rintro e w' ⟨rfl, rfl⟩; rw [HCH.out])
            | (go_at_call 36; refine (listFrom_any N K hN hKN _ _ _ ⟨w.heap.size, 0, none⟩ (w.heap.size + 1) _ HC1.out (Nat.lt_succ_self _) (by have := HSZ.out; have := HSZ1.out; omega) (by rw [← HSZ.out]; exact HOU.out)).mono ?_; rintro e w2 ⟨u, rfl, ho, hb⟩; have HO := hid ho; have HB2 := hid hb; have HC2 := hid ((hb.cell (p := ⟨w.heap.size, 0, none⟩) (Nat.lt_succ_self _)).trans HC1.out); clear ho hb)
            | fail)
        all_goals
          go_wp2_with fail
          go_ret2
          exact ⟨_, ret_pb HF.out.symm, by rw [HX.out]; exact HO.out.mono (Nat.le_succ _), HB1.out.trans (HB2.out.mono (Nat.le_succ _))⟩
    · have h2 : inB k 0 12 = false := by simpa using h2
      have HF : Hid (allB n k = false) := by show allB n k = false; rw [allB, h1, h2]; rfl
      have HX := hid (allRes_no HF.out)
      go_enter Try.func46, Try.ntmps46
      go_wp2_with (first | (go_at_call 72; refine (isItemCount_any _ _).mono ?_; rintro e w' ⟨rfl, rfl⟩) | fail)
      go_ret2
      exact ⟨_, ret_pb HF.out.symm, by rw [HX.out]; exact Lists.nilA _ _, HB0.out⟩
  · have h1 : inB n 0 12 = false := by simpa using h1
    have HF : Hid (allB n k = false) := by show allB n k = false; rw [allB, h1]; rfl
    have HX := hid (allRes_no HF.out)
    go_enter Try.func46, Try.ntmps46
    go_wp2_with (first | (go_at_call 72; refine (isItemCount_any _ _).mono ?_; rintro e w' ⟨rfl, rfl⟩) | fail)
    go_ret2
    exact ⟨_, ret_pb HF.out.symm, by rw [HX.out]; exact Lists.nilA _ _, HB0.out⟩
end Go.Proofs.Ytijjdidljoicfab
