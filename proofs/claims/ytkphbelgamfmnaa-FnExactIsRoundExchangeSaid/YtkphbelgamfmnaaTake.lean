/- Contracts: firstNumbers, l1Own, raUpTo, slices.Delete at one element, takeOut, raWithout. Conditions: the slices read as lists of at most 2^20 numbers; indexes lie within. -/
import Derived.Test.YtkphbelgamfmnaaSits
import Derived.Laws.AppendOwnNone
import Derived.Deep.RegionWith
namespace Go.Proofs.Ytkphbelgamfmnaa
open Go.RowKit
set_option linter.unusedVariables false

/-- the numbers 0, .., n - 1 -/
def upTo (n : Nat) : List Int := (List.range n).map (fun i : Nat => (i : Int))
theorem upTo_length (n : Nat) : (upTo n).length = n := by simp [upTo]
theorem upTo_getD (n i : Nat) (h : i < n) : (upTo n).getD i 0 = i := by simp [upTo, h]
theorem upTo_succ (n : Nat) : upTo (n + 1) = upTo n ++ [(n : Int)] := by simp [upTo, List.range_succ]

theorem Own.cut {w : World} {lo g n c : Nat} {xs : List Int} (h : Own w lo (.slice (some ⟨g, 0, none⟩) n c) xs) (m : Nat) (hm : m ≤ xs.length) : Own w lo (.slice (some ⟨g, 0, none⟩) m c) (xs.take m) := by
  have hl : (xs.take m).length = m := by simp; omega
  refine ⟨by simp, ?_⟩
  rcases h.2 with ⟨h1, h2⟩ | ⟨g', cap, cur, e, hg, hgg, h1, h2, h3, h4⟩
  · simp at h1
  · simp only [Value.slice.injEq, Option.some.injEq, Addr.mk.injEq, and_true] at e
    obtain ⟨rfl, rfl, rfl⟩ := e
    refine .inr ⟨g, c, cur, by rw [hl], hg, hgg, by omega, h2, h3, ?_⟩
    rw [hl, List.map_take, ← h4, List.take_take]
    congr 1
    omega
theorem Own.len {w : World} {lo g n c : Nat} {xs : List Int} (h : Own w lo (.slice (some ⟨g, 0, none⟩) n c) xs) : n = xs.length := by
  rcases h.2 with ⟨h1, h2⟩ | ⟨g', cap, cur, e, hg, hgg, h1, h2, h3, h4⟩
  · simp at h1
  · simp only [Value.slice.injEq] at e
    exact e.2.1

def setFrom (xs : List Int) (j : Nat) : List Int → List Int
  | [] => xs
  | v :: r => setFrom (xs.set j v) (j + 1) r
theorem setFrom_append (p s vs : List Int) (h : vs.length = s.length) : setFrom (p ++ s) p.length vs = p ++ vs := by
  induction vs generalizing p s with
  | nil =>
    have : s = [] := List.eq_nil_of_length_eq_zero h.symm
    subst this
    rfl
  | cons v r ih =>
    match s, h with
    | x :: s', h =>
      rw [setFrom, List.set_append_right _ _ (Nat.le_refl _), Nat.sub_self, List.set_cons_zero]
      have := ih (p ++ [v]) s' (by simpa using h)
      simpa [List.append_assoc] using this
theorem Own_setCells {lo g c : Nat} (vs : List Int) : ∀ (w : World) (xs : List Int) (j : Nat), Own w lo (.slice (some ⟨g, 0, none⟩) xs.length c) xs →
    Own (w.setCells g j (vs.map (Value.int .i64))) lo (.slice (some ⟨g, 0, none⟩) xs.length c) (setFrom xs j vs) ∧ w.grownBy (w.setCells g j (vs.map (Value.int .i64))) (some g) := by
  induction vs with
  | nil => exact fun w xs j h => ⟨h, World.grownBy.refl _ _⟩
  | cons v r ih =>
    intro w xs j h
    obtain ⟨h1, h2⟩ := h.set j v
    have hl : (xs.set j v).length = xs.length := List.length_set
    have h3 := ih (w.setCell ⟨g, j, none⟩ (.int .i64 v)) (xs.set j v) (j + 1) (by rw [hl]; exact h1)
    rw [hl] at h3
    exact ⟨h3.1, grownBy_trans h2 h3.2⟩

theorem ints_one (xs : List Int) : ∀ u ∈ xs.map (Value.int .i64), u.oneCell' = true := by
  intro u hu
  obtain ⟨x, _, rfl⟩ := List.mem_map.1 hu
  rfl
theorem Sits.src {w : World} {b off n c : Nat} {xs : List Int} (h : ∀ i (hi : i < xs.length), w.cell? ⟨b, off + i, none⟩ = some (.int .i64 xs[i])) : ∀ (j : Nat) (u : Value), (xs.map (Value.int .i64))[j]? = some u → w.cell? ((⟨b, off, none⟩ : Addr).add j) = some u := by
  intro j u hu
  rw [List.getElem?_map] at hu
  by_cases hj : j < xs.length
  · rw [List.getElem?_eq_getElem hj] at hu
    simp at hu
    subst hu
    have e : (⟨b, off, none⟩ : Addr).add j = ⟨b, off + j, none⟩ := by
      by_cases h : j = 0 <;> simp [Addr.add, h]
    rw [e]
    exact h j hj
  · rw [List.getElem?_eq_none (by omega)] at hu
    simp at hu
end Go.Proofs.Ytkphbelgamfmnaa
