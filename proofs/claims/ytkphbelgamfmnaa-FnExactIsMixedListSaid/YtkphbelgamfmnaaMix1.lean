/- Contracts: gcMixed, gcMixedRank and both MixedAt and MixedRank functions. Conditions: the slices read as lists of at most 2^20 numbers. -/
import Derived.Test.YtkphbelgamfmnaaAt1
import Derived.Test.YtkphbelgamfmnaaDig4
import Derived.Test.YtkphbelgamfmnaaMixM
namespace Go.Proofs.Ytkphbelgamfmnaa
open Go.RowKit
set_option linter.unusedVariables false

theorem tail_bases {x : Int} {bs : List Int} (h : allBases (x :: bs) = true) : allBases bs = true ∧ 2 ≤ x ∧ x ≤ 12 := by
  have h0 := (allTo_iff _ _).1 h
  refine ⟨(allTo_iff _ _).2 (fun i hi => ?_), ?_⟩
  · have := h0 (i + 1) (by simpa using hi)
    simpa [baseAt] using this
  · have := h0 0 (by simp)
    simpa [baseAt, inB] using this
/-- The facts on the first digit of a rank. -/
theorem mix_facts {x : Int} {bs : List Int} {r : Int} (h : allBases (x :: bs) = true) (hP : prodL (x :: bs) ≤ 1000000) (h0 : 0 ≤ r) (h1 : r < prodL (x :: bs)) :
    1 ≤ prodL bs ∧ prodL bs ≤ 1000000 ∧ 0 ≤ r / prodL bs ∧ r / prodL bs ≤ 1000000 ∧ 0 ≤ r % prodL bs ∧ r % prodL bs < prodL bs := by
  have ho := ones_of_bases h
  have h2 := prodL_pos (ones_tail ho).2
  have h3 := prodL_tail ho
  refine ⟨h2, by omega, Int.ediv_nonneg h0 (by omega), Int.le_trans (Int.ediv_le_self _ h0) (by omega), Int.emod_nonneg _ (by omega), Int.emod_lt_of_pos _ (by omega)⟩
theorem raProduct_is (v : Value) (xs : List Int) (w : World) (h : Sits w v xs) (hall : allBases xs = true) (hle : prodL xs ≤ 1000000) :
    Calls Try.prog 29 #[v] w fun e w' => e = .returned (.int .i64 (prodL xs)) ∧ w = w' := by
  refine (raProduct_any v xs w h hall).mono ?_
  rintro e w' ⟨p, rfl, hp, rfl⟩
  have e1 := prodTo_prodL xs
  rcases hp with ⟨_, rfl⟩ | ⟨h1, _⟩
  · exact ⟨ret_int e1, rfl⟩
  · omega
theorem sits_tail {w : World} {b off c : Nat} {x : Int} {bs : List Int} (hb : b < w.heap.size) (hc1 : (x :: bs).length ≤ c) (hm : c ≤ 9223372036854775807) (hc : ∀ i (hi : i < (x :: bs).length), w.cell? ⟨b, off + i, none⟩ = some (.int .i64 (x :: bs)[i])) :
    Sits w (.slice (some ⟨b, off + 1, none⟩) bs.length (c - 1)) bs := by
  have := Sits_drop (w := w) (off := off) 1 (by simp) hc1 hm hb hc
  simpa using this
theorem sits_none {w : World} {b off : Nat} (hb : b < w.heap.size) : Sits w (.slice (some ⟨b, off, none⟩) 0 0) [] :=
  ⟨b, off, 0, rfl, Nat.le_refl _, by omega, hb, fun i hi => absurd hi (by simp)⟩
end Go.Proofs.Ytkphbelgamfmnaa
