/- Ranks by a shape, as a plain function. Conditions: the counts' equations. -/
import Derived.Test.YtakelcboamjndaaShK
import Derived.Test.YtakelcboamjndaaIx
namespace Go.Proofs.Ytakelcboamjndaa
open Go.RowKit Go.Maps
set_option linter.unusedVariables false

def rkS (ch : Nat → Nat → List Int) (nl nb : Nat → Nat → Int → Nat) (K : Nat → Nat → Nat) : List Int → Nat → Nat → Nat
  | [], _, _ => 0
  | x :: t, l, b => sumL (fun y => K (nl l b y) (nb l b y)) ((ch l b).take (ixL x (ch l b))) + rkS ch nl nb K t (nl l b x) (nb l b x)
theorem rkS_lt {D : Nat → Nat → Prop} {ch : Nat → Nat → List Int} {nl nb : Nat → Nat → Int → Nat} {K : Nat → Nat → Nat} (C : CntC D ch nl nb K) (hdom : ∀ l b x, D l b → l ≠ 0 → x ∈ ch l b → D (nl l b x) (nb l b x)) :
    ∀ (xs : List Int) (l b : Nat), D l b → hasS ch nl nb xs l b = true → rkS ch nl nb K xs l b + 1 ≤ K l b
  | [], l, b, hd, h => by
    rw [hasS] at h
    obtain rfl : l = 0 := by simpa using h
    rw [C.zero b hd, rkS]; omega
  | x :: t, l, b, hd, h => by
    rw [hasS, Bool.and_eq_true, Bool.and_eq_true] at h
    obtain ⟨⟨h1, h2⟩, h3⟩ := h
    have h0 : l ≠ 0 := by simpa using h1
    have hm := hasB_iff.1 h2
    have ih := rkS_lt C hdom t (nl l b x) (nb l b x) (hdom l b x hd h0 hm) h3
    have hlt := ixL_lt hm
    have hg := ixL_get hm
    rw [getD_at hlt] at hg
    have e := sumL_take (fun y => K (nl l b y) (nb l b y)) hlt
    rw [hg] at e
    have hle := sumL_mono (fun y => K (nl l b y) (nb l b y)) (ch l b) (ixL x (ch l b) + 1)
    rw [rkS, C.step l b hd h0]
    omega
theorem grown_setCell6 {w w' : World} {r : Option Nat} {g i : Nat} {v : Value} (h : w.grownBy w' r) (hg : w.heap.size ≤ g) : w.grownBy (w'.setCell ⟨g, i, none⟩ v) r :=
  have hs := grownBy_set6 w' g i v
  ⟨hs.os.trans h.os, hs.tape.trans h.tape, hs.output.trans h.output, Nat.le_trans h.size hs.size, fun k hk hn => (hs.block k (Nat.lt_of_lt_of_le hk h.size) (by simp; omega)).trans (h.block k hk hn)⟩
theorem own_some {w : World} {base : Nat} {v : Value} {xs : List Int} (h : Own w base v xs) (hx : xs ≠ []) : ∃ g c, v = .slice (some ⟨g, 0, none⟩) xs.length c ∧ xs.length ≤ c ∧ c ≤ 9223372036854775807 ∧ base ≤ g ∧ g < w.heap.size ∧
    ∀ i (hi : i < xs.length), w.cell? ⟨g, i, none⟩ = some (.int .i64 xs[i]) := by
  rcases h.form with ⟨rfl, rfl⟩ | ⟨g, cap, rfl, hb, hlt, h1, h2, hc, _⟩
  · exact absurd rfl hx
  · refine ⟨g, cap, rfl, h1, by unfold maxLen at h2; omega, hb, hlt, fun i hi => ?_⟩
    have := hc i hi
    rwa [Nat.zero_add, getD_at hi] at this
theorem map_no_cell {H : Type} {P : Program} {k : TypeId} {R : Value → Option (DataW H × List MemPlace)} {w : World} {b n g i : Nat} {D : DataW H} {v : Value} (h : w.ownsMap P k R b n D) (hc : w.cell? ⟨g, i, none⟩ = some v) : g ≠ b := by
  rintro rfl
  obtain ⟨es, clock, hm, _⟩ := h
  unfold World.cell? at hc
  simp [hm] at hc
end Go.Proofs.Ytakelcboamjndaa
