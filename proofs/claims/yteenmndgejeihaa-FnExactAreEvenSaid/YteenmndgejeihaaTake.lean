/- Contracts: firstNumbers, l1Own, raUpTo, slices.Delete at one element, takeOut, raWithout. Conditions: the slices read as lists of at most 2^20 numbers; indexes lie within. -/
import Derived.Test.YteenmndgejeihaaSits
import Derived.Laws.AppendOwnNone
import Derived.Deep.RegionWith
namespace Go.Proofs.Yteenmndgejeihaa
open Go.RowKit
set_option linter.unusedVariables false

/-- the numbers 0, .., n - 1 -/
def upTo (n : Nat) : List Int := (List.range n).map (fun i : Nat => (i : Int))
theorem upTo_length (n : Nat) : (upTo n).length = n := by simp [upTo]
theorem upTo_getD (n i : Nat) (h : i < n) : (upTo n).getD i 0 = i := by simp [upTo, h]
theorem upTo_succ (n : Nat) : upTo (n + 1) = upTo n ++ [(n : Int)] := by simp [upTo, List.range_succ]

theorem Own.cut {w : World} {lo g n c : Nat} {xs : List Int} (h : Own w lo (.slice (some ⟨g, 0, none⟩) n c) xs) (m : Nat) (hm : m ≤ xs.length) : Own w lo (.slice (some ⟨g, 0, none⟩) m c) (xs.take m) := by
  have hl : (xs.take m).length = m := by simp; omega
  refine ⟨by simp, ?_⟩
  rcases h.2 with ⟨h1, h2⟩ | ⟨g', cap, cur, e, hg, hgg, h1, h2, h3, h4⟩
  · simp at h1
  · simp only [Value.slice.injEq, Option.some.injEq, Addr.mk.injEq, and_true] at e
    obtain ⟨rfl, rfl, rfl⟩ := e
    refine .inr ⟨g, c, cur, by rw [hl], hg, hgg, by omega, h2, h3, ?_⟩
    rw [hl, List.map_take, ← h4, List.take_take]
    congr 1
    omega
theorem Own.len {w : World} {lo g n c : Nat} {xs : List Int} (h : Own w lo (.slice (some ⟨g, 0, none⟩) n c) xs) : n = xs.length := by
  rcases h.2 with ⟨h1, h2⟩ | ⟨g', cap, cur, e, hg, hgg, h1, h2, h3, h4⟩
  · simp at h1
  · simp only [Value.slice.injEq] at e
    exact e.2.1

def setFrom (xs : List Int) (j : Nat) : List Int → List Int
  | [] => xs
  | v :: r => setFrom (xs.set j v) (j + 1) r
theorem setFrom_append (p s vs : List Int) (h : vs.length = s.length) : setFrom (p ++ s) p.length vs = p ++ vs := by
  induction vs generalizing p s with
  | nil =>
    have : s = [] := List.eq_nil_of_length_eq_zero h.symm
    subst this
    rfl
  | cons v r ih =>
    match s, h with
    | x :: s', h =>
      rw [setFrom, List.set_append_right _ _ (Nat.le_refl _), Nat.sub_self, List.set_cons_zero]
      have := ih (p ++ [v]) s' (by simpa using h)
      simpa [List.append_assoc] using this
theorem Own_setCells {lo g c : Nat} (vs : List Int) : ∀ (w : World) (xs : List Int) (j : Nat), Own w lo (.slice (some ⟨g, 0, none⟩) xs.length c) xs →
    Own (w.setCells g j (vs.map (Value.int .i64))) lo (.slice (some ⟨g, 0, none⟩) xs.length c) (setFrom xs j vs) ∧ w.grownBy (w.setCells g j (vs.map (Value.int .i64))) (some g) := by
  induction vs with
  | nil => exact fun w xs j h => ⟨h, World.grownBy.refl _ _⟩
  | cons v r ih =>
    intro w xs j h
    obtain ⟨h1, h2⟩ := h.set j v
    have hl : (xs.set j v).length = xs.length := List.length_set
    have h3 := ih (w.setCell ⟨g, j, none⟩ (.int .i64 v)) (xs.set j v) (j + 1) (by rw [hl]; exact h1)
    rw [hl] at h3
    exact ⟨h3.1, grownBy_trans h2 h3.2⟩

theorem firstNumbers_any (n : Nat) (w : World) (hn : n ≤ 1048576) :
    Calls Try.prog 82 #[.int .i64 (n : Int)] w fun e w' => e = .returned (.slice (some ⟨w.heap.size, 0, none⟩) n n) ∧ Own w' w.heap.size (.slice (some ⟨w.heap.size, 0, none⟩) n n) (upTo n) ∧ Below w.heap.size w w' := by
  have hmk := run_make_ints n hn w
  have HM := hid (World.rowIs_made w (.int .i64 0) n 3)
  have HB0 := hid ((Below.refl w.heap.size w).alloc (Nat.le_refl _) (.cells (madeCells #[.int .i64 0] n) 3))
  go_enter Try.func82, Try.ntmps82
  go_wp2
  clear hmk
  go_loopw [4, 9] (fun _ i wr => ∃ k : Nat, k ≤ n ∧ i = .int .i64 k ∧ wr.rowIs w.heap.size 3 n (fun j => .int .i64 (if j < k then (j : Int) else 0)) ∧ Below w.heap.size w wr) (fun _ i _ => n - (intOf i).toNat)
  case atStart => exact ⟨0, Nat.zero_le _, rfl, World.rowIs.congr HM.out (fun i hi => by simp), HB0.out⟩
  case round =>
    obtain ⟨k, hk, rfl, hrow, hbel⟩ := hrel
    by_cases hlt : k < n
    · have hf := hrow.frozen k
      obtain ⟨z, hz⟩ : ∃ z, wr.cell? ⟨w.heap.size, k, none⟩ = some z := ⟨_, hrow.cell hlt⟩
      have HS := hid (hrow.set k (.int .i64 (k : Int)))
      have HB := hid (hbel.setCell (p := ⟨w.heap.size, k, none⟩) (Nat.le_refl _) (.int .i64 (k : Int)))
      clear hrow hbel
      go_wp2
      go_roundw
      case rel => exact ⟨k + 1, by omega, by go_num, HS.out.congr (fun i hi => by
        by_cases h1 : i = k
        · subst h1; simp
        · rw [if_neg h1]
          by_cases h2 : i < k
          · rw [if_pos h2, if_pos (by omega)]
          · rw [if_neg h2, if_neg (by omega)]), HB.out⟩
      case measure => simp [intOf]; omega
    · have HR := hid hrow
      clear hrow
      go_wp2
      go_ret
      exact ⟨rfl, Own.of_rowIs (HR.out.congr (fun i hi => by rw [if_pos (by omega), upTo_getD _ _ hi])) (upTo_length _) (by unfold maxLen; omega), hbel⟩
theorem ints_one (xs : List Int) : ∀ u ∈ xs.map (Value.int .i64), u.oneCell' = true := by
  intro u hu
  obtain ⟨x, _, rfl⟩ := List.mem_map.1 hu
  rfl
theorem Sits.src {w : World} {b off n c : Nat} {xs : List Int} (h : ∀ i (hi : i < xs.length), w.cell? ⟨b, off + i, none⟩ = some (.int .i64 xs[i])) : ∀ (j : Nat) (u : Value), (xs.map (Value.int .i64))[j]? = some u → w.cell? ((⟨b, off, none⟩ : Addr).add j) = some u := by
  intro j u hu
  rw [List.getElem?_map] at hu
  by_cases hj : j < xs.length
  · rw [List.getElem?_eq_getElem hj] at hu
    simp at hu
    subst hu
    have e : (⟨b, off, none⟩ : Addr).add j = ⟨b, off + j, none⟩ := by
      by_cases h : j = 0 <;> simp [Addr.add, h]
    rw [e]
    exact h j hj
  · rw [List.getElem?_eq_none (by omega)] at hu
    simp at hu
theorem l1Own_any (v : Value) (xs : List Int) (w : World) (h : Sits w v xs) (hl : xs.length ≤ 1048576) :
    Calls Try.prog 111 #[v] w fun e w' => ∃ u, e = .returned u ∧ Own w' w.heap.size u xs ∧ Below w.heap.size w w' ∧ u ≠ .slice none 0 0 := by
  obtain ⟨b, off, c, rfl, hc1, hm, hb, hc⟩ := h
  obtain ⟨i0, hi, hz0, hz1, hz2⟩ := info_parts Try.info3
  have hmade : (w.alloc (.cells #[] 3)).ownsRow w.heap.size 3 1 (.slice (some ⟨w.heap.size, 0, none⟩) 0 0) 0 [] := World.ownsRow_made w #[] 0 (Nat.le_refl _) (by unfold maxLen; omega) rfl
  have hsrc : ∀ (j : Nat) (u : Value), (xs.map (Value.int .i64))[j]? = some u → (w.alloc (.cells #[] 3)).cell? ((⟨b, off, none⟩ : Addr).add j) = some u :=
    Sits.src (n := 0) (c := 0) (fun i hi => by rw [World.cell?_alloc_past _ _ _ hb]; exact hc i hi)
  have HM := hid hmade
  have HSR := hid hsrc
  clear hc hmade hsrc
  go_enter Try.func111, Try.ntmps111
  go_wp2_with (at_builtin; refine wpList_append_own _ rfl _ _ 22 rfl w.heap.size 3 i0 (.int .i64 0) 1 8 Try.underlying22 hi hz0 hz1 hz2 rfl (by decide) _ _ _ rfl HM.out ⟨b, off, none⟩ xs.length c (xs.map (Value.int .i64)) rfl (by simp) HSR.out (ints_one xs) ?c3 ?c4 ?c5 ?_)
  case c3 => unfold maxLen; omega
  case c4 => omega
  case c5 => (try simp); try omega
  intro v' w1 hown' hgrow hnil
  have hown2 : Own w1 w.heap.size v' xs := by
    unfold Own
    simpa using hown'
  have hbel2 : Below w.heap.size w w1 := ((Below.refl _ _).alloc (Nat.le_refl _) _).grown hgrow (by simp) (fun q hq => (World.ownsRow.lt HM.out q hq).1)
  have hn2 : v' ≠ .slice none 0 0 := hnil
  have HN2 := hid hn2
  clear hown' hgrow hnil hn2
  go_wp2
  go_ret
  exact ⟨_, rfl, hown2, hbel2, HN2.out⟩
end Go.Proofs.Yteenmndgejeihaa
