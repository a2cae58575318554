/- Contracts: ranges of superpermutations; their lengths and bounds; suFirsts, both RanksIn functions. Conditions: slices that are not nil and read as lists. -/
import Derived.Test.YteimfdpkodcfbaaOrM
import Derived.Test.YteimfdpkodcfbaaBs3
import Derived.Test.YteimfdpkodcfbaaCont
import Derived.Test.YteimfdpkodcfbaaPrk
import Derived.Test.YteimfdpkodcfbaaBs2
namespace Go.Proofs.Yteimfdpkodcfbaa
open Go.RowKit
set_option linter.unusedVariables false
set_option maxRecDepth 4000

theorem suWB_far {xs : List Int} (h : ¬ xs.length ≤ 200) : suWB xs = false := by unfold suWB; simp [h]
theorem suWB_near {xs : List Int} (h : xs.length ≤ 200) : suWB xs = belowB xs 12 := by unfold suWB; simp [h]
theorem suWB_len {xs : List Int} (h : suWB xs = true) : xs.length ≤ 200 := by
  rcases Nat.lt_or_ge 200 xs.length with q | q
  · rw [suWB_far (by omega)] at h; simp at h
  · exact q
theorem suWord_any (v : Value) (xs : List Int) (w : World) (h : Sits w v xs) :
    Calls Try.prog 86 #[v] w fun e w' => e = .returned (.bool (suWB xs)) ∧ w = w' := by
  have HS := hid h
  obtain ⟨b, off, c, rfl, hc1, hm, hb, hc⟩ := h
  clear hc
  by_cases hl : xs.length ≤ 200
  · have HF := hid (suWB_near hl)
    have q : (xs.length : Int) ≤ 200 := by omega
    go_enter Try.func86, Try.ntmps86
    go_wp2_with (first | (go_at_call 110; (refine (l1All_any _ xs _ _ _ HS.out).mono ?_); (rintro e w' ⟨rfl, rfl⟩)) | fail)
    go_ret
    exact ⟨ret_bool (by rw [HF.out]; rfl), rfl⟩
  · have HF := hid (suWB_far hl)
    have q : ¬ (xs.length : Int) ≤ 200 := by omega
    go_enter Try.func86, Try.ntmps86
    go_wp2_with fail
    go_ret
    exact ⟨ret_bool HF.out.symm, rfl⟩
theorem isSuperWord_any (v : Value) (xs : List Int) (w : World) (h : Sits w v xs) :
    Calls Try.prog 89 #[v] w fun e w' => e = .returned (.bool (suWB xs)) ∧ w = w' := by
  have HS := hid h
  obtain ⟨b, off, c, rfl, hc1, hm, hb, hc⟩ := h
  clear hc
  by_cases hl : xs.length ≤ 200
  · have HF := hid (suWB_near hl)
    have q : (xs.length : Int) ≤ 200 := by omega
    go_enter Try.func89, Try.ntmps89
    go_wp2_with (first | (go_at_call 126; (refine (areBelow_any _ xs _ _ HS.out.reads).mono ?_); (rintro e w' ⟨rfl, rfl⟩)) | fail)
    go_ret
    exact ⟨ret_bool (by rw [HF.out]), rfl⟩
  · have HF := hid (suWB_far hl)
    have q : ¬ (xs.length : Int) ≤ 200 := by omega
    go_enter Try.func89, Try.ntmps89
    go_wp2_with fail
    go_ret
    exact ⟨ret_bool HF.out.symm, rfl⟩
theorem suNB_iff {n : Int} : suNB n = true ↔ 1 ≤ n ∧ n ≤ 5 := inB_iff
theorem suNB_nat {n : Int} (h : suNB n = true) : ∃ m : Nat, n = (m : Int) ∧ 1 ≤ m ∧ m ≤ 5 := by
  have := suNB_iff.1 h
  exact ⟨n.toNat, by omega, by omega, by omega⟩
/-- the sum of the first factorials -/
def sumF : Nat → Nat
  | 0 => 0
  | k + 1 => sumF k + fact (k + 1)
theorem sumF_le : ∀ k, k < 6 → sumF k ≤ 153 ∧ fact k ≤ 120 := by decide
def slenR (n : Int) : Int := if suNB n = true then (sumF n.toNat : Nat) else 0
theorem slenR_yes {m : Nat} (h : suNB (m : Int) = true) : slenR (m : Int) = (sumF m : Nat) := by unfold slenR; rw [if_pos h, Int.toNat_natCast]
theorem slenR_no {n : Int} (h : suNB n = false) : slenR n = 0 := by unfold slenR; rw [if_neg (by rw [h]; simp)]
/-- the bound that no superpermutation is below -/
def sbdR (n : Int) : Int := if suNB n = true then ([0, 1, 3, 9, 33, 152].getD n.toNat 0) else 0
theorem sbdR_no {n : Int} (h : suNB n = false) : sbdR n = 0 := by unfold sbdR; rw [if_neg (by rw [h]; simp)]
theorem sbd_sum (m : Nat) (h1 : 2 ≤ m) (h5 : m ≤ 5) : sbdR (m : Int) = (fact m : Int) + (fact (m - 1) : Int) + (fact (m - 2) : Int) + (m : Int) - 3 := by
  obtain h | h | h | h : m = 2 ∨ m = 3 ∨ m = 4 ∨ m = 5 := by omega
  all_goals
    subst h
    rfl
end Go.Proofs.Yteimfdpkodcfbaa
