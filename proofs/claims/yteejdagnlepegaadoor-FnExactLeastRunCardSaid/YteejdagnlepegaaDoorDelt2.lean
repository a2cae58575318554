/- Contracts: both DeltasOf functions. Conditions: the slice reads as a list of at most 2^20 numbers; the table of math/bits holds what the program's text lays. -/
import Derived.Test.YteejdagnlepegaaDoorDelt
namespace Go.Proofs.YteejdagnlepegaaDoor
open Go.RowKit
set_option linter.unusedVariables false

def doB (n : Int) (xs : List Int) : Bool := wordsB n xs && deltasB xs
def doRes (n : Int) (xs : List Int) : List Int := if wordsB n xs = true then deltasR xs else []
theorem doRes_yes {n : Int} {xs : List Int} (h : wordsB n xs = true) : doRes n xs = deltasR xs := by unfold doRes; rw [if_pos h]
theorem doRes_no {n : Int} {xs : List Int} (h : wordsB n xs = false) : doRes n xs = [] := by unfold doRes; rw [if_neg (by rw [h]; simp)]
theorem bound_DeltasOf (n : Int) (xs : List Int) : (doRes n xs).length ≤ 1048576 := by
  cases h : wordsB n xs with
  | false => rw [doRes_no h]; simp
  | true =>
    rw [doRes_yes h]
    have := (wordsB_iff.1 h).2.1
    cases h2 : deltasB xs with
    | false => rw [deltasR_no h2]; simp
    | true => rw [deltasR_yes h2, deltasL_length]; omega
theorem spec_DeltasOf_any (n : Int) (v : Value) (xs : List Int) (w : World) (_wn : (Lit.int .i64 n).wf = true) (h : Sits w v xs) (hl : xs.length ≤ 1048576) (_hwf : ∀ x ∈ xs, (Lit.int .i64 x).wf = true) (_ht : TZ w) :
    Calls Tryd.prog 10 #[.int .i64 n, v] w fun e w' => ∃ u, e = .returned (.tuple #[u, .bool (doB n xs)]) ∧ Own w' w.heap.size u (doRes n xs) ∧ Below w.heap.size w w' := by
  have HS := hid h
  clear h
  by_cases h1 : wordsB n xs = true
  · have HF : Hid (doB n xs = deltasB xs) := by show _ = _; rw [doB, h1]; rfl
    have HX := hid (doRes_yes h1)
    have HSM := hid (wordsB_small h1)
    go_enter Tryd.func10, Tryd.ntmps10
    go_wp2_with (first | (go_at_call 28; refine (gcWords_any _ _ xs _ HS.out).mono ?_; rintro e w' ⟨rfl, rfl⟩; rw [h1]) | (go_at_call 29; refine (gcDeltas_any _ xs _ HS.out HSM.out hl).mono ?_; rintro e w' ⟨u, rfl, ho, hb⟩) | fail)
    go_ret2
    exact ⟨_, ret_sb8 HF.out.symm, by rw [HX.out]; assumption, by assumption⟩
  · have h1 : wordsB n xs = false := by simpa using h1
    have HF : Hid (doB n xs = false) := by show _ = _; rw [doB, h1]; rfl
    have HX := hid (doRes_no h1)
    go_enter Tryd.func10, Tryd.ntmps10
    go_wp2_with (first | (go_at_call 28; refine (gcWords_any _ _ xs _ HS.out).mono ?_; rintro e w' ⟨rfl, rfl⟩; rw [h1]) | fail)
    go_ret2
    exact ⟨_, ret_sb8 HF.out.symm, by rw [HX.out]; exact Own.nil _ _, Below.refl _ _⟩
theorem impl_DeltasOf_any (n : Int) (v : Value) (xs : List Int) (w : World) (_wn : (Lit.int .i64 n).wf = true) (h : Sits w v xs) (hl : xs.length ≤ 1048576) (_hwf : ∀ x ∈ xs, (Lit.int .i64 x).wf = true) (ht : TZ w) :
    Calls Tryd.prog 12 #[.int .i64 n, v] w fun e w' => ∃ u, e = .returned (.tuple #[u, .bool (doB n xs)]) ∧ Own w' w.heap.size u (doRes n xs) ∧ Below w.heap.size w w' := by
  have HS := hid h
  have HT := hid ht
  clear h ht
  by_cases h1 : wordsB n xs = true
  · have HF : Hid (doB n xs = deltasB xs) := by show _ = _; rw [doB, h1]; rfl
    have HX := hid (doRes_yes h1)
    have HSM := hid (wordsB_small h1)
    go_enter Tryd.func12, Tryd.ntmps12
    go_wp2_with (first | (go_at_call 30; refine (areBitWords_any _ _ xs _ HS.out).mono ?_; rintro e w' ⟨rfl, rfl⟩; rw [h1]) | (go_at_call 31; refine (changesAlong_any _ xs _ HS.out HSM.out hl HT.out).mono ?_; rintro e w' ⟨u, rfl, ho, hb⟩) | fail)
    go_ret2
    exact ⟨_, ret_sb8 HF.out.symm, by rw [HX.out]; assumption, by assumption⟩
  · have h1 : wordsB n xs = false := by simpa using h1
    have HF : Hid (doB n xs = false) := by show _ = _; rw [doB, h1]; rfl
    have HX := hid (doRes_no h1)
    go_enter Tryd.func12, Tryd.ntmps12
    go_wp2_with (first | (go_at_call 30; refine (areBitWords_any _ _ xs _ HS.out).mono ?_; rintro e w' ⟨rfl, rfl⟩; rw [h1]) | fail)
    go_ret2
    exact ⟨_, ret_sb8 HF.out.symm, by rw [HX.out]; exact Own.nil _ _, Below.refl _ _⟩
end Go.Proofs.YteejdagnlepegaaDoor
