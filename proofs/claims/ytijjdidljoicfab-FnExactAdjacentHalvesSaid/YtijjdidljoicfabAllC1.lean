/- Contracts: the closure of AllCombinations, listFrom with it. Conditions: at most 12 items. -/
import Derived.Test.YtijjdidljoicfabNxt2
import Derived.Test.YtijjdidljoicfabSS2
import Derived.Test.YtijjdidljoicfabSS3
namespace Go.Proofs.Ytijjdidljoicfab
open Go.RowKit
set_option linter.unusedVariables false

theorem RF_rise (n : Nat) : ∀ (xs : List Int) (f : Nat), RF n f xs → ∀ i, i < xs.length → (f : Int) ≤ xs.getD i 0 ∧ xs.getD i 0 < n ∧ (i = 0 ∨ xs.getD (i - 1) 0 < xs.getD i 0)
  | x :: t, f, h, 0, _ => by
    obtain ⟨h1, h2, _⟩ := h
    exact ⟨by simpa using h1, by simpa using h2, .inl rfl⟩
  | x :: t, f, h, i + 1, hi => by
    obtain ⟨h1, h2, h3⟩ := h
    have hi' : i < t.length := by simpa using hi
    obtain ⟨a, b, c⟩ := RF_rise n t _ h3 i hi'
    refine ⟨by rw [List.getD_cons_succ]; omega, by simpa using b, .inr ?_⟩
    rcases c with rfl | c
    · simp at a ⊢; omega
    · have hi0 : i ≠ 0 := by intro e; subst e; simp at c
      obtain ⟨j, rfl⟩ : ∃ j, i = j + 1 := ⟨i - 1, by omega⟩
      simpa using c
theorem comb_of_RF {n : Nat} {xs : List Int} (hn : n ≤ 12) (hl : xs.length ≤ n) (h : RF n 0 xs) : combB (n : Int) xs = true := by
  have h1 : inB (n : Int) 0 12 = true := inB_iff.2 ⟨by omega, by omega⟩
  rw [combB, h1, Bool.true_and, decide_eq_true (by omega), Bool.true_and]
  refine (allTo_iff _ _).2 (fun i hi => ?_)
  obtain ⟨a, b, c⟩ := RF_rise n xs 0 h i hi
  rw [riseAt, inB_iff.2 ⟨by omega, by omega⟩, Bool.true_and, Bool.or_eq_true]
  rcases c with rfl | c
  · exact .inl rfl
  · exact .inr (decide_eq_true c)
theorem upTo_upFrom (k : Nat) : upTo k = upFrom ((0 : Nat) : Int) k := by
  apply List.ext_getElem
  · rw [upTo_length, upFrom_length]
  · intro i h1 h2
    have e1 := upTo_getD k i (by rw [upTo_length] at h1; exact h1)
    have e2 := upFrom_getD k ((0 : Nat) : Int) i (by rw [upFrom_length] at h2; exact h2)
    rw [getD_at h1] at e1
    rw [getD_at h2] at e2
    rw [e1, e2]; simp
/-- what is known of the list at j in the list of all -/
theorem seq_step {N k j : Nat} {xs : List Int} (hN : N ≤ 12) (hk : k ≤ N) (hl : xs.length = k) (h : RF N 0 xs) (hr : rankC N 0 xs = j) :
    (allL N k 0).getD j [] = xs ∧ j < (allL N k 0).length ∧ nxB (N : Int) xs = decide (j + 1 < (allL N k 0).length) ∧
    (nxB (N : Int) xs = true → RF N 0 (nxRes (N : Int) xs) ∧ (nxRes (N : Int) xs).length = k ∧ rankC N 0 (nxRes (N : Int) xs) = j + 1) := by
  have hp := place_rank N hN xs 0 (by omega) h
  rw [hl, hr] at hp
  have hg := placeIn_get xs (allL N k 0) j hp
  have hlt := placeIn_lt xs (allL N k 0)
  rw [hp] at hlt
  have hc := comb_of_RF hN (by omega) h
  have hnx := (nx_of N hN xs (by omega) h hc).1
  rw [hl, hp] at hnx
  refine ⟨hg, by omega, ?_, fun hb => ?_⟩
  · rw [← hnx, ofB, Bool.eq_iff_iff, inB_iff, decide_eq_true_eq]; omega
  · have hs : (succC N xs).isSome = true := by
      simp only [nxB, Bool.and_eq_true] at hb
      simpa using hb.2
    obtain ⟨ys, hys⟩ := Option.isSome_iff_exists.1 hs
    obtain ⟨a, b, c⟩ := (succC_rank N hN xs 0 (by omega) h).1 ys hys
    have e : nxRes (N : Int) xs = ys := by rw [nxRes_yes hb, Int.toNat_natCast, hys]; rfl
    rw [e]
    exact ⟨a, by omega, by omega⟩
/-- One slice more at the end, apart from all before. -/
theorem ListsA_push {w w' : World} {base H : Nat} {v v' u : Value} {L : List (List Int)} {l : List Int} {vs : List Value} (hl : vs.length = L.length) (h2 : w.ownsRow base 28 1 v L.length vs)
    (h3 : ∀ i (h1 : i < L.length) (h2 : i < vs.length), Own w base vs[i] L[i]) (h4 : ∀ i j (h1 : i < vs.length) (h2 : j < vs.length) (g : Nat), i ≠ j → vs[i].ownBlock = some g → vs[j].ownBlock ≠ some g)
    (h5 : ∀ i (h1 : i < vs.length) g, vs[i].ownBlock = some g → g < H) (hu : Own w base u l) (hH : ∀ g, u.ownBlock = some g → H ≤ g)
    (hrow : w'.ownsRow base 28 1 v' (L.length + 1) (vs ++ [u])) (hg : w.grownBy w' v.ownBlock) : ListsA w' base v' (L ++ [l]) := by
  have hk : ∀ x : Value, ∀ xs : List Int, Own w base x xs → Own w' base x xs := fun x xs hx => Own.kept_type hx (T := 28) (by decide) h2 hg
  refine ⟨vs ++ [u], by simp [hl], by rw [List.length_append]; exact hrow, fun i a b => ?_, fun i j a b g hij hi hj => ?_⟩
  · by_cases hi : i < L.length
    · rw [List.getElem_append_left (by omega), List.getElem_append_left hi]
      exact hk _ _ (h3 i hi (by omega))
    · have e1 : i = vs.length := by simp at b; simp at a; omega
      rw [List.getElem_append_right (by omega), List.getElem_append_right (by omega)]
      simp only [e1, Nat.sub_self, hl]
      simpa using hk _ _ hu
  · simp only [List.length_append, List.length_singleton] at a b
    by_cases h6 : i < vs.length
    · rw [List.getElem_append_left h6] at hi
      by_cases h7 : j < vs.length
      · rw [List.getElem_append_left h7] at hj
        exact h4 i j h6 h7 g hij hi hj
      · rw [List.getElem_append_right (by omega)] at hj
        simp only [show j - vs.length = 0 by omega, List.getElem_cons_zero] at hj
        have := h5 i h6 g hi
        have := hH g hj
        omega
    · rw [List.getElem_append_right (by omega)] at hi
      simp only [show i - vs.length = 0 by omega, List.getElem_cons_zero] at hi
      by_cases h7 : j < vs.length
      · rw [List.getElem_append_left h7] at hj
        have := h5 j h7 g hj
        have := hH g hi
        omega
      · omega
/-- the rows of a list of lists lie below a block -/
def RowsUnder (w : World) (base H : Nat) (v : Value) (L : List (List Int)) : Prop :=
  ∃ vs : List Value, vs.length = L.length ∧ w.ownsRow base 28 1 v L.length vs ∧ (∀ i (h1 : i < L.length) (h2 : i < vs.length), Own w base vs[i] L[i]) ∧
    (∀ i j (h1 : i < vs.length) (h2 : j < vs.length) (g : Nat), i ≠ j → vs[i].ownBlock = some g → vs[j].ownBlock ≠ some g) ∧ ∀ i (h1 : i < vs.length) g, vs[i].ownBlock = some g → g < H
theorem RowsUnder.listsA {w : World} {base H : Nat} {v : Value} {L : List (List Int)} (h : RowsUnder w base H v L) : ListsA w base v L := by
  obtain ⟨vs, a, b, c, d, _⟩ := h
  exact ⟨vs, a, b, c, d⟩
theorem RowsUnder.below {w w' : World} {base H : Nat} {v : Value} {L : List (List Int)} (h : RowsUnder w base H v L) (hb : Below w.heap.size w w') : RowsUnder w' base w'.heap.size v L := by
  obtain ⟨vs, a, b, c, d, e⟩ := h
  refine ⟨vs, a, ownsRow_below b hb, fun i x y => (c i x y).below hb, d, fun i x g hg => ?_⟩
  exact Nat.lt_of_lt_of_le (World.ownsRow.lt (c i (by omega) x) g hg).2 hb.size
theorem RowsUnder.push {w w' : World} {base H : Nat} {v v' u : Value} {L : List (List Int)} {l : List Int} {vs : List Value} (hl : vs.length = L.length) (h2 : w.ownsRow base 28 1 v L.length vs)
    (h3 : ∀ i (h1 : i < L.length) (h2 : i < vs.length), Own w base vs[i] L[i]) (h4 : ∀ i j (h1 : i < vs.length) (h2 : j < vs.length) (g : Nat), i ≠ j → vs[i].ownBlock = some g → vs[j].ownBlock ≠ some g)
    (h5 : ∀ i (h1 : i < vs.length) g, vs[i].ownBlock = some g → g < H) (hu : Own w base u l) (hH : ∀ g, u.ownBlock = some g → H ≤ g)
    (hrow : w'.ownsRow base 28 1 v' (L.length + 1) (vs ++ [u])) (hg : w.grownBy w' v.ownBlock) : RowsUnder w' base w'.heap.size v' (L ++ [l]) := by
  obtain ⟨us, a, b, c, d⟩ := ListsA_push hl h2 h3 h4 h5 hu hH hrow hg
  exact ⟨us, a, b, c, d, fun i x g hgb => (World.ownsRow.lt (c i (by omega) x) g hgb).2⟩
theorem closure_any (N : Nat) (hN : N ≤ 12) (v : Value) (xs : List Int) (a : Addr) (w : World) (ha : w.cell? a = some (.int .i64 (N : Int))) (h : Sits w v xs) (hl : xs.length ≤ 12) (hwf : ∀ x ∈ xs, (Lit.int .i64 x).wf = true) :
    Calls Try.prog 77 #[v, .pointer (some a)] w fun e w' => ∃ u, e = .returned (.tuple #[u, .bool (nxB (N : Int) xs)]) ∧ Own w' w.heap.size u (nxRes (N : Int) xs) ∧ Below w.heap.size w w' := by
  have H := hid h
  have HWF := hid hwf
  have HWN := hid (show (Lit.int .i64 (N : Int)).wf = true from WalkArith.wf_i64 (by omega))
  have hl20 : xs.length ≤ 1048576 := by omega
  clear h hwf
  go_enter Try.func77, Try.ntmps77
  go_wp2_with (first | (go_at_call 78; refine (impl_NextCombination_any _ _ xs _ HWN.out H.out hl20 HWF.out).mono ?_; rintro e w' ⟨u, rfl, ho, hb⟩; have HO := hid ho; have HB := hid hb; clear ho hb) | fail)
  go_ret2
  exact ⟨_, rfl, HO.out, HB.out⟩
end Go.Proofs.Ytijjdidljoicfab
