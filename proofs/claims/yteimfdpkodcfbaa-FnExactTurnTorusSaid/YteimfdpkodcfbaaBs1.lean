/- Facts and contracts (Mem, Math, Nums, ListMath, IntS, Comb1, Lives, Sits, Take, PermMath, Comb2, Perm1, Take2, Take3), merged. Conditions: as told at each. -/
import Derived.WalkKit
import Derived.Deep.OwnRows
import Derived.Test.YteimfdpkodcfbaaRows
import Derived.WalkSpells
import Derived.WalkLawsBesides
import Derived.Deep.QuietTactic
import Derived.BigQuiet
import Derived.Laws.AppendOwnNone
import Derived.Deep.RegionWith
import Derived.Deep.RegionHeld3
import Derived.Deep.RegionLaw

/- Small facts on worlds and owned rows of integers, for the walks of this seat. No conditions. -/
namespace Go.Proofs.Yteimfdpkodcfbaa
set_option linter.unusedVariables false
open Go.RowKit

theorem hid {p : Prop} (h : p) : Hid p := h

/-- A slice of integers that came in: nil, or it leads to a row of cap cells, the numbers zs, of which the first len are its elements. -/
def IsRow (k : IntKind) (w : World) (a : Option Addr) (len cap : Nat) (zs : List Int) : Prop :=
  (a = none ∧ len = 0 ∧ cap = 0 ∧ zs = []) ∨
  ∃ x, a = some x ∧ len ≤ cap ∧ cap ≤ maxLen ∧ zs.length = cap ∧ (∀ i, i < zs.length → w.cell? (x.add i) = some (.int k (zs.getD i 0))) ∧ ∀ n ∈ zs, (Lit.int k n).wf = true

/-- v is a slice of ints that reads as xs: nil and empty, or the head of a whole unfrozen row from block base on. -/
def Own (w : World) (base : Nat) (v : Value) (xs : List Int) : Prop :=
  w.ownsRow base 3 1 v xs.length (xs.map (Value.int .i64))

theorem Own.of_below {w w' : World} {B base : Nat} {v : Value} {xs : List Int} (h : Own w base v xs) (hb : Below B w w') (hB : ∀ k, v.ownBlock = some k → k < B) : Own w' base v xs := by
  refine ⟨h.1, ?_⟩
  rcases h.2 with hn | ⟨g, cap, cur, rfl, hg, hgg, rest⟩
  · exact .inl hn
  · refine .inr ⟨g, cap, cur, rfl, hg, ?_, rest⟩
    rw [hb.block g (hB g rfl)]; exact hgg

theorem Own.below {w w' : World} {base : Nat} {v : Value} {xs : List Int} (h : Own w base v xs) (hb : Below w.heap.size w w') : Own w' base v xs :=
  h.of_below hb fun k hk => (World.ownsRow.lt h k hk).2

theorem Own.mono {w : World} {base base' : Nat} {v : Value} {xs : List Int} (h : Own w base v xs) (hb : base' ≤ base) : Own w base' v xs := by
  refine ⟨h.1, ?_⟩
  rcases h.2 with hn | ⟨g, cap, cur, rfl, hg, rest⟩
  · exact .inl hn
  · exact .inr ⟨g, cap, cur, rfl, Nat.le_trans hb hg, rest⟩

theorem Own.form {w : World} {base : Nat} {v : Value} {xs : List Int} (h : Own w base v xs) :
    (v = .slice none 0 0 ∧ xs = []) ∨ ∃ g cap, v = .slice (some ⟨g, 0, none⟩) xs.length cap ∧ base ≤ g ∧ g < w.heap.size ∧ xs.length ≤ cap ∧ cap ≤ maxLen ∧
      (∀ i, i < xs.length → w.cell? ⟨g, 0 + i, none⟩ = some (.int .i64 (xs.getD i 0))) ∧ (∀ i, w.frozen? ⟨g, i, none⟩ = false) := by
  have h' := h
  rcases h.2 with ⟨rfl, hn⟩ | ⟨g, cap, cur, rfl, hg, hgg, h1, h2, h3, h4⟩
  · exact .inl ⟨rfl, List.eq_nil_of_length_eq_zero hn⟩
  · refine .inr ⟨g, cap, rfl, hg, (Array.getElem?_eq_some_iff.1 hgg).1, h1, h2, fun i hi => ?_, fun i => World.ownsRow.frozenAt h' i⟩
    have := World.ownsRow.cellAt h' i (by simpa using hi)
    rw [Nat.zero_add, this]
    simp [List.getElem?_map, List.getElem?_eq_getElem hi, List.getD_eq_getElem?_getD]

/-- v is a slice of ints that reads as xs. -/
def Reads (w : World) (v : Value) (xs : List Int) : Prop :=
  ∃ ao c, v = .slice ao xs.length c ∧ xs.length ≤ c ∧ c ≤ maxLen ∧
    (xs = [] ∨ ∃ b off, ao = some ⟨b, off, none⟩ ∧ b < w.heap.size ∧ ∀ i, i < xs.length → w.cell? ⟨b, off + i, none⟩ = some (.int .i64 (xs.getD i 0)))

theorem Reads.below {w w' : World} {v : Value} {xs : List Int} (h : Reads w v xs) (hb : Below w.heap.size w w') : Reads w' v xs := by
  obtain ⟨ao, c, rfl, h1, h2, h3⟩ := h
  refine ⟨ao, c, rfl, h1, h2, ?_⟩
  rcases h3 with h3 | ⟨b, off, rfl, hlt, hc⟩
  · exact .inl h3
  · exact .inr ⟨b, off, rfl, Nat.lt_of_lt_of_le hlt hb.size, fun i hi => (hb.cell (by exact hlt)).trans (hc i hi)⟩

theorem Own.reads {w : World} {base : Nat} {v : Value} {xs : List Int} (h : Own w base v xs) : Reads w v xs := by
  rcases h.form with ⟨rfl, rfl⟩ | ⟨g, cap, rfl, _, hlt, h1, h2, hc, _⟩
  · exact ⟨none, 0, rfl, Nat.le_refl _, by unfold maxLen; omega, .inl rfl⟩
  · exact ⟨_, cap, rfl, h1, h2, .inr ⟨g, 0, rfl, hlt, hc⟩⟩

theorem IsRow.reads {w : World} {a : Option Addr} {len cap : Nat} {zs : List Int} (h : IsRow .i64 w a len cap zs) : Reads w (.slice a len cap) (zs.take len) ∧ (zs.take len).length = len := by
  rcases h with ⟨rfl, rfl, rfl, rfl⟩ | ⟨x, rfl, hl, hm, hz, hcell, hwz⟩
  · exact ⟨⟨none, 0, rfl, Nat.le_refl _, by unfold maxLen; omega, .inl rfl⟩, rfl⟩
  · have hlen : (zs.take len).length = len := by simp; omega
    refine ⟨⟨some x, cap, by rw [hlen], by omega, hm, ?_⟩, hlen⟩
    by_cases h0 : len = 0
    · exact .inl (by simp [h0])
    · have hc := hcell 0 (by omega)
      obtain ⟨b, off, spot⟩ := x
      have hspot : spot = none := by simpa [Addr.add] using World.cell?_spot hc
      subst hspot
      have hlt : b < w.heap.size := World.block_lt_of_cell? w _ hc
      refine .inr ⟨b, off, rfl, hlt, fun i hi => ?_⟩
      have := hcell i (by omega)
      have e : (⟨b, off, none⟩ : Addr).add i = ⟨b, off + i, none⟩ := by
        by_cases h : i = 0 <;> simp [Addr.add, h]
      rw [← e, this]
      have hi' : i < len := by omega
      simp [List.getD_eq_getElem?_getD, hi']

theorem IsRow.below {k : IntKind} {w w' : World} {a : Option Addr} {len cap : Nat} {zs : List Int} (h : IsRow k w a len cap zs) (hb : Below w.heap.size w w') : IsRow k w' a len cap zs := by
  rcases h with h | ⟨x, rfl, hl, hm, hz, hcell, hwz⟩
  · exact .inl h
  · refine .inr ⟨x, rfl, hl, hm, hz, fun i hi => ?_, hwz⟩
    have := hcell i hi
    exact (hb.cell (World.block_lt_of_cell? w _ this)).trans this

theorem IsRow.wf {k : IntKind} {w : World} {a : Option Addr} {len cap : Nat} {zs : List Int} (h : IsRow k w a len cap zs) : ∀ n ∈ zs.take len, (Lit.int k n).wf = true := by
  rcases h with ⟨rfl, rfl, rfl, rfl⟩ | ⟨x, rfl, hl, hm, hz, hcell, hwz⟩
  · simp
  · exact fun n hn => hwz n (List.mem_of_mem_take hn)

theorem Own.of_rowIs {w : World} {g n : Nat} {xs : List Int} (h : w.rowIs g 3 n (fun i => .int .i64 (xs.getD i 0))) (hx : xs.length = n) (hm : n ≤ maxLen) : Own w g (.slice (some ⟨g, 0, none⟩) n n) xs := by
  obtain ⟨c, hc, hs, hf⟩ := h
  refine ⟨by simp [hx], .inr ⟨g, n, c, by rw [hx], Nat.le_refl _, hc, by omega, hm, by omega, ?_⟩⟩
  apply List.ext_getElem?
  intro i
  by_cases hi : i < n
  · have := hf i hi
    simp [hx, hi, List.getD_eq_getElem?_getD] at this ⊢
    exact this
  · rw [List.getElem?_eq_none (by simp; omega), List.getElem?_eq_none (by simp; omega)]

theorem Below_chain {w w1 w2 : World} (h : Below w.heap.size w w1) (h' : Below w1.heap.size w1 w2) : Below w.heap.size w w2 := h.trans (h'.mono h.size)

theorem grownBy_trans {w w1 w2 : World} {r : Option Nat} (h : w.grownBy w1 r) (h' : w1.grownBy w2 r) : w.grownBy w2 r :=
  ⟨h'.os.trans h.os, h'.tape.trans h.tape, h'.output.trans h.output, Nat.le_trans h.size h'.size,
    fun k hk hn => (h'.block k (Nat.lt_of_lt_of_le hk h.size) hn).trans (h.block k hk hn)⟩

/-- A store into an owned row. -/
theorem Own.set {w : World} {base g cap : Nat} {xs : List Int} (h : Own w base (.slice (some ⟨g, 0, none⟩) xs.length cap) xs) (j : Nat) (u : Int) :
    Own (w.setCell ⟨g, j, none⟩ (.int .i64 u)) base (.slice (some ⟨g, 0, none⟩) xs.length cap) (xs.set j u) ∧ w.grownBy (w.setCell ⟨g, j, none⟩ (.int .i64 u)) (some g) := by
  obtain ⟨h1, h2⟩ := World.ownsRow.stored h j (.int .i64 u)
  refine ⟨?_, h2⟩
  unfold Own
  rw [List.length_set, List.map_set]
  exact h1

/-- What is owned elsewhere stays owned. -/
theorem Own.kept {w w' : World} {base : Nat} {v : Value} {xs : List Int} {row : Option Nat} (h : Own w base v xs) (hg : w.grownBy w' row) (hne : v.ownBlock = none ∨ v.ownBlock ≠ row) : Own w' base v xs :=
  World.ownsRow.kept h hg hne
end Go.Proofs.Yteimfdpkodcfbaa

/- Plain facts on factorials and binomial numbers up to 12. No conditions beyond those bounds. -/
namespace Go.Proofs.Yteimfdpkodcfbaa
set_option linter.unusedVariables false

def fact : Nat → Nat
  | 0 => 1
  | n + 1 => (n + 1) * fact n

def binom : Nat → Nat → Nat
  | _, 0 => 1
  | 0, _ + 1 => 0
  | n + 1, k + 1 => binom n (k + 1) + binom n k

theorem cast_mul_le {a b c : Nat} (h : a * b ≤ c) : (a : Int) * (b : Int) ≤ (c : Int) := by
  have h2 := Int.ofNat_le.2 h
  rwa [Int.natCast_mul] at h2
theorem fact_le : ∀ n, n < 13 → fact n ≤ 479001600 := by decide
theorem fact_pos : ∀ n, n < 13 → 1 ≤ fact n := by decide
theorem binom_le : ∀ n, n < 13 → ∀ k, k < 13 → binom n k ≤ 924 := by decide
theorem binom_step : ∀ n, n < 13 → ∀ i, i < n → binom n i * (n - i) / (i + 1) = binom n (i + 1) := by decide
theorem binom_mul : ∀ n, n < 13 → ∀ i, i < n → binom n i * (n - i) ≤ 12 * 924 := by decide
theorem binom_zero : ∀ n, n < 13 → ∀ k, k < 13 → n < k → binom n k = 0 := by decide
end Go.Proofs.Yteimfdpkodcfbaa

/- Contracts of the small functions on numbers: l1In, raItems, isItemCount, raFactorial, factorial, raBinomial, choose. Conditions: the stated ranges of the arguments. -/
namespace Go.Proofs.Yteimfdpkodcfbaa
set_option linter.unusedVariables false
open Go.RowKit

theorem ret_int {k : IntKind} {a b : Int} (h : a = b) : Ending.returned (.int k a) = .returned (.int k b) := by rw [h]

theorem ret_bool {a b : Bool} (h : a = b) : Ending.returned (.bool a) = .returned (.bool b) := by rw [h]

/-- lo ≤ n and n ≤ hi -/
def inB (n lo hi : Int) : Bool := decide (lo ≤ n) && decide (n ≤ hi)

theorem l1In_any (n lo hi : Int) (w : World) : Calls Try.prog 96 #[.int .i64 n, .int .i64 lo, .int .i64 hi] w fun e w' => e = .returned (.bool (inB n lo hi)) ∧ w = w' := by
  by_cases h1 : lo ≤ n
  · by_cases h2 : n ≤ hi
    all_goals
      go_enter Try.func96, Try.ntmps96
      go_wp2
      go_ret
      exact ⟨by simp [inB]; omega, rfl⟩
  · go_enter Try.func96, Try.ntmps96
    go_wp2
    go_ret
    exact ⟨by simp [inB]; omega, rfl⟩
theorem isItemCount_any (n : Int) (w : World) : Calls Try.prog 165 #[.int .i64 n] w fun e w' => e = .returned (.bool (inB n 0 12)) ∧ w = w' := by
  by_cases h1 : 0 ≤ n
  · by_cases h2 : n ≤ 12
    all_goals
      go_enter Try.func165, Try.ntmps165
      go_wp2
      go_ret
      exact ⟨by simp [inB]; omega, rfl⟩
  · go_enter Try.func165, Try.ntmps165
    go_wp2
    go_ret
    exact ⟨by simp [inB]; omega, rfl⟩
theorem raFactorial_any (k : Nat) : ∀ (w : World), k < 13 → Calls Try.prog 101 #[.int .i64 (k : Int)] w fun e w' => e = .returned (.int .i64 (fact k)) ∧ w = w' := by
  induction k with
  | zero =>
    intro w _
    go_enter Try.func101, Try.ntmps101
    go_wp2_with fail
    go_ret
    exact ⟨rfl, rfl⟩
  | succ k ih =>
    intro w hk
    have hb := fact_le k (by omega)
    have hm : ((k : Int) + 1) * (fact k : Int) ≤ 479001600 := cast_mul_le (a := k + 1) (fact_le (k + 1) hk)
    have hm0 : 0 ≤ ((k : Int) + 1) * (fact k : Int) := Int.mul_nonneg (by omega) (by omega)
    have h0 : ((k : Int) + 1 == 0) = false := by simp; omega
    go_enter Try.func101, Try.ntmps101
    go_wp2_with fail
    refine (ih _ (by omega)).mono ?_
    rintro e w' ⟨rfl, rfl⟩
    go_wp2_with fail
    go_ret
    exact ⟨ret_int (by simp [fact]), rfl⟩
/-- the product of 1, .., i - 1 times i is the factorial -/
theorem factorial_any (n : Nat) (w : World) (hn : n < 13) : Calls Try.prog 119 #[.int .i64 (n : Int)] w fun e w' => e = .returned (.int .i64 (fact n)) ∧ w = w' := by
  go_enter Try.func119, Try.ntmps119
  go_wp2
  go_loop [3, 4] (fun p i => ∃ k : Nat, 1 ≤ k ∧ k ≤ max n 1 ∧ i = .int .i64 ((k : Int) + 1) ∧ p = .int .i64 (fact k)) (fun _ i => 14 - (intOf i).toNat)
  case atStart => exact ⟨1, by omega, by omega, rfl, rfl⟩
  case round =>
    obtain ⟨k, hk1, hk2, rfl, rfl⟩ := hrel
    have hb := fact_le k (by omega)
    by_cases hlt : k + 1 ≤ n
    · have hm : (fact k : Int) * ((k : Int) + 1) ≤ 479001600 := cast_mul_le (b := k + 1) (by rw [Nat.mul_comm]; exact fact_le (k + 1) (by omega))
      have hm0 : 0 ≤ (fact k : Int) * ((k : Int) + 1) := Int.mul_nonneg (by omega) (by omega)
      go_wp2
      go_round
      case rel => exact ⟨k + 1, by omega, by omega, by go_num, by simp [fact, Int.mul_comm]⟩
      case measure => simp [intOf]; omega
    · go_wp2
      go_ret
      exact ⟨ret_int (by
        by_cases h1 : n = 0
        · subst h1
          obtain rfl : k = 1 := by omega
          rfl
        · obtain rfl : k = n := by omega
          rfl), rfl⟩
/-- the number of combinations, 0 where k is negative or greater than n -/
def chooseZ (n k : Int) : Nat := if k < 0 ∨ n < k then 0 else binom n.toNat k.toNat
theorem chooseZ_nat (n k : Nat) (hn : n < 13) (hk : k < 13) : chooseZ n k = binom n k := by
  unfold chooseZ
  by_cases h : n < k
  · rw [if_pos (by omega), binom_zero n hn k hk h]
  · rw [if_neg (by omega)]; simp
theorem choose_any (n k : Int) (w : World) (hn0 : -1 ≤ n) (hn : n < 13) : Calls Try.prog 137 #[.int .i64 n, .int .i64 k] w fun e w' => e = .returned (.int .i64 (chooseZ n k)) ∧ w = w' := by
  by_cases h : k < 0 ∨ n < k
  · by_cases h1 : k < 0
    · go_enter Try.func137, Try.ntmps137
      go_wp2
      go_ret
      exact ⟨ret_int (by unfold chooseZ; rw [if_pos (by omega)]; rfl), rfl⟩
    · have h2 : n < k := h.resolve_left h1
      go_enter Try.func137, Try.ntmps137
      go_wp2
      go_ret
      exact ⟨ret_int (by unfold chooseZ; rw [if_pos (by omega)]; rfl), rfl⟩
  · obtain ⟨k, rfl⟩ := Int.eq_ofNat_of_zero_le (show 0 ≤ k by omega)
    obtain ⟨n, rfl⟩ := Int.eq_ofNat_of_zero_le (show 0 ≤ n by omega)
    have h1 : ¬ ((n : Int) < k) := by omega
    go_enter Try.func137, Try.ntmps137
    go_wp2
    go_loop [5, 6, 15] (fun c _ i => ∃ j : Nat, j ≤ k ∧ i = .int .i64 (j : Int) ∧ c = .int .i64 (binom n j)) (fun _ _ i => 14 - (intOf i).toNat)
    case atStart => exact ⟨0, by omega, rfl, by simp [binom]⟩
    case round =>
      obtain ⟨j, hj, rfl, rfl⟩ := hrel
      by_cases hlt : j < k
      · have b1 := binom_le n (by omega) j (by omega)
        have b3 := binom_step n (by omega) j (by omega)
        have b2 := binom_mul n (by omega) j (by omega)
        have hm : (binom n j : Int) * ((n : Int) - (j : Int)) ≤ 12 * 924 := by
          have e : ((n : Int) - (j : Int)) = ((n - j : Nat) : Int) := by omega
          rw [e]
          exact cast_mul_le b2
        have hm0 : 0 ≤ (binom n j : Int) * ((n : Int) - (j : Int)) := Int.mul_nonneg (by omega) (by omega)
        have H3 : Hid (binom n j * (n - j) / (j + 1) = binom n (j + 1)) := b3
        clear b3 b2
        go_wp2
        go_round
        case rel => exact ⟨j + 1, by omega, by go_num, by
          have e : ((n : Int) - (j : Int)) = ((n - j : Nat) : Int) := by omega
          rw [← H3.out, e]; simp⟩
        case measure => simp [intOf]; omega
      · obtain rfl : j = k := by omega
        go_wp2
        go_ret
        exact ⟨ret_int (by unfold chooseZ; rw [if_neg (by omega)]; simp), rfl⟩
end Go.Proofs.Yteimfdpkodcfbaa

/- Plain facts on lists of numbers: checks of all indices, last indices, combinations, permutations. No conditions beyond the stated ones. -/
namespace Go.Proofs.Yteimfdpkodcfbaa
set_option linter.unusedVariables false

/-- f holds at all indices below n -/
def allTo (n : Nat) (f : Nat → Bool) : Bool := (List.range n).all f
theorem allTo_zero (f : Nat → Bool) : allTo 0 f = true := rfl
theorem allTo_succ (n : Nat) (f : Nat → Bool) : allTo (n + 1) f = (allTo n f && f n) := by simp [allTo, List.range_succ]
theorem allTo_iff (n : Nat) (f : Nat → Bool) : allTo n f = true ↔ ∀ i, i < n → f i = true := by simp [allTo]
theorem allTo_no {n k : Nat} {f : Nat → Bool} (h : k < n) (hf : f k = false) : allTo n f = false := by
  cases e : allTo n f with
  | false => rfl
  | true => rw [(allTo_iff n f).1 e k h] at hf; cases hf
theorem allTo_next {k : Nat} {f : Nat → Bool} (h : allTo k f = true) (hf : f k = true) : allTo (k + 1) f = true := by rw [allTo_succ, h, hf]; rfl

/-- the last index below n at which f holds, or -1 -/
def lastIx (f : Nat → Bool) : Nat → Int
  | 0 => -1
  | n + 1 => if f n then (n : Int) else lastIx f n
theorem lastIx_yes {f : Nat → Bool} {n : Nat} (h : f n = true) : lastIx f (n + 1) = n := by rw [lastIx, if_pos h]
theorem lastIx_no {f : Nat → Bool} {n : Nat} (h : f n = false) : lastIx f (n + 1) = lastIx f n := by rw [lastIx, if_neg (by rw [h]; simp)]
theorem lastIx_ge (f : Nat → Bool) (n : Nat) : -1 ≤ lastIx f n := by
  induction n with
  | zero => exact Int.le_refl _
  | succ n ih => rw [lastIx]; split <;> omega
theorem lastIx_lt (f : Nat → Bool) (n : Nat) : lastIx f n < n := by
  induction n with
  | zero => rw [lastIx]; omega
  | succ n ih => rw [lastIx]; split <;> omega
theorem lastIx_neg (f : Nat → Bool) (n : Nat) : lastIx f n < 0 ↔ ∀ i, i < n → f i = false := by
  induction n with
  | zero => simp [lastIx]
  | succ n ih =>
    rw [lastIx]
    cases e : f n with
    | true =>
      simp only [if_true]
      exact ⟨fun h => by omega, fun h => by rw [h n (by omega)] at e; cases e⟩
    | false =>
      simp only [Bool.false_eq_true, if_false]
      rw [ih]
      exact ⟨fun h i hi => by
        by_cases hn : i = n
        · rw [hn]; exact e
        · exact h i (by omega), fun h i hi => h i (by omega)⟩

/-- one step of the spec's check that a list rises within bounds -/
def riseAt (xs : List Int) (lo hi : Int) (i : Nat) : Bool := inB (xs.getD i 0) lo hi && (i == 0 || decide (xs.getD (i - 1) 0 < xs.getD i 0))
def risingB (xs : List Int) (lo hi : Int) : Bool := allTo xs.length (riseAt xs lo hi)
def belowB (xs : List Int) (n : Int) : Bool := allTo xs.length (fun i => inB (xs.getD i 0) 0 (n - 1))
/-- xs is a combination of n -/
def combB (n : Int) (xs : List Int) : Bool := inB n 0 12 && decide ((xs.length : Int) ≤ n) && risingB xs 0 (n - 1)
def atLeastAt (xs : List Int) (i : Nat) : Bool := decide (xs.getD (i + 1) 0 ≤ xs.getD i 0)
def lessAt (xs : List Int) (i : Nat) : Bool := decide (xs.getD i 0 < xs.getD (i + 1) 0)
def combB' (n : Int) (xs : List Int) : Bool := inB n 0 12 && belowB xs n && decide (lastIx (atLeastAt xs) (xs.length - 1) < 0)

theorem inB_iff {n lo hi : Int} : inB n lo hi = true ↔ lo ≤ n ∧ n ≤ hi := by simp [inB]

theorem rise_low {xs : List Int} {lo hi : Int} (h : risingB xs lo hi = true) : ∀ i, i < xs.length → lo + i ≤ xs.getD i 0 := by
  unfold risingB at h
  rw [allTo_iff] at h
  intro i
  induction i with
  | zero =>
    intro hi
    have := h 0 hi
    simp only [riseAt, Bool.and_eq_true, inB_iff] at this
    omega
  | succ i ih =>
    intro hi
    have h1 := ih (by omega)
    have := h (i + 1) hi
    simp only [riseAt, Bool.and_eq_true, inB_iff, Bool.or_eq_true, beq_iff_eq, decide_eq_true_eq, Nat.add_sub_cancel] at this
    omega

theorem combB_eq (n : Int) (xs : List Int) : combB' n xs = combB n xs := by
  rw [Bool.eq_iff_iff]
  simp only [combB, combB', Bool.and_eq_true, decide_eq_true_eq, lastIx_neg]
  constructor
  · rintro ⟨⟨h1, h2⟩, h3⟩
    have hr : risingB xs 0 (n - 1) = true := by
      unfold risingB
      rw [allTo_iff]
      intro i hi
      unfold belowB at h2
      have h2' := (allTo_iff _ _).1 h2 i hi
      simp only [riseAt, Bool.and_eq_true, Bool.or_eq_true, beq_iff_eq, decide_eq_true_eq]
      refine ⟨h2', ?_⟩
      by_cases h0 : i = 0
      · exact .inl h0
      · right
        have := h3 (i - 1) (by omega)
        simp only [atLeastAt, decide_eq_false_iff_not, show i - 1 + 1 = i by omega] at this
        omega
    refine ⟨⟨h1, ?_⟩, hr⟩
    by_cases h0 : xs.length = 0
    · rw [inB_iff] at h1; omega
    · have := rise_low hr (xs.length - 1) (by omega)
      unfold risingB at hr
      have h4 := (allTo_iff _ _).1 hr (xs.length - 1) (by omega)
      simp only [riseAt, Bool.and_eq_true, inB_iff] at h4
      omega
  · rintro ⟨⟨h1, h2⟩, h3⟩
    unfold risingB at h3
    rw [allTo_iff] at h3
    refine ⟨⟨h1, ?_⟩, ?_⟩
    · unfold belowB
      rw [allTo_iff]
      intro i hi
      have := h3 i hi
      simp only [riseAt, Bool.and_eq_true] at this
      exact this.1
    · intro i hi
      have := h3 (i + 1) (by omega)
      simp only [riseAt, Bool.and_eq_true, Bool.or_eq_true, beq_iff_eq, decide_eq_true_eq, Nat.add_sub_cancel] at this
      simp only [atLeastAt, decide_eq_false_iff_not]
      omega
end Go.Proofs.Yteimfdpkodcfbaa

/- Contracts of the laws' helpers on slices of ints: toIntS copies, eqIntS compares, markIntS writes k, k + 1, .., heldIntS reads them again. Conditions: the slices read as lists; lengths at most 2^20 where the text adds to a mark. -/

namespace Go.Proofs.Yteimfdpkodcfbaa
set_option linter.unusedVariables false
open Go.RowKit

theorem Try.info3 : (Try.prog.info? 3).map (fun i => (i.zero, i.size, i.bytes)) = some (some (.int .i64 0), 1, 8) := by kernel_rfl

theorem run_make_ints (n : Nat) (hn : n ≤ 1048576) (w : World) : Sem.run Try.prog (Instr.makeSlice 22 (.int .i64 n) (.int .i64 n)) w = .ok (.slice (some ⟨w.heap.size, 0, none⟩) n n) (w.alloc (.cells (madeCells #[.int .i64 0] n) 3)) :=
  run_make_row' 22 3 (.int .i64 0) 8 Try.underlying22 Try.info3 rfl .i64 .i64 n (by omega) (by omega) w

theorem toIntS_any (v : Value) (xs : List Int) (w : World) (h : Reads w v xs) (hl : xs.length ≤ 1048576) :
    Calls Try.prog 32 #[v] w fun e w' => e = .returned (.slice (some ⟨w.heap.size, 0, none⟩) xs.length xs.length) ∧ Own w' w.heap.size (.slice (some ⟨w.heap.size, 0, none⟩) xs.length xs.length) xs ∧ Below w.heap.size w w' := by
  obtain ⟨ao, c, rfl, hc1, hm, h⟩ := h
  unfold maxLen at hm
  have hmk := run_make_ints xs.length hl w
  have hr0 := World.rowIs_made w (.int .i64 0) xs.length 3
  have hB0 : Below w.heap.size w (w.alloc (.cells (madeCells #[.int .i64 0] xs.length) 3)) := (Below.refl _ _).alloc (Nat.le_refl _) _
  rcases h with h | ⟨b, off, rfl, hb, hc⟩
  · have H := hid h
    clear h
    go_enter Try.func32, Try.ntmps32
    go_wp2
    go_loopw [4] (fun i wr => ∃ k : Nat, k ≤ xs.length ∧ i = .int .i64 k ∧ wr.rowIs w.heap.size 3 xs.length (fun j => .int .i64 (if j < k then xs.getD j 0 else 0)) ∧ Below w.heap.size w wr) (fun i _ => xs.length - (intOf i).toNat)
    case atStart => exact ⟨0, Nat.zero_le _, rfl, World.rowIs.congr hr0 (fun i hi => by simp), hB0⟩
    case round =>
      obtain ⟨k, hk, rfl, hrow, hbel⟩ := hrel
      by_cases hlt : k < xs.length
      · exact absurd hlt (by rw [H.out]; simp)
      · have HR := hid hrow
        clear hrow hr0
        go_wp2
        go_ret
        exact ⟨rfl, Own.of_rowIs (HR.out.congr (fun i hi => by rw [if_pos (by omega)])) rfl (by unfold maxLen; omega), hbel⟩
  · obtain ⟨g, hg⟩ : ∃ g, g = w.heap.size := ⟨_, rfl⟩
    have hbg : b ≠ g := by omega
    go_enter Try.func32, Try.ntmps32
    go_wp2
    go_loopw [4] (fun i wr => ∃ k : Nat, k ≤ xs.length ∧ i = .int .i64 k ∧ wr.rowIs w.heap.size 3 xs.length (fun j => .int .i64 (if j < k then xs.getD j 0 else 0)) ∧ Below w.heap.size w wr) (fun i _ => xs.length - (intOf i).toNat)
    case atStart => exact ⟨0, Nat.zero_le _, rfl, World.rowIs.congr hr0 (fun i hi => by simp), hB0⟩
    case round =>
      obtain ⟨k, hk, rfl, hrow, hbel⟩ := hrel
      by_cases hlt : k < xs.length
      · have hcx : wr.cell? ⟨b, off + k, none⟩ = some (.int .i64 (xs.getD k 0)) := (hbel.cell (by exact hb)).trans (hc k hlt)
        have hf := hrow.frozen k
        have hcc := hrow.cell hlt
        have hs := hrow.set k (.int .i64 xs[k])
        have hbl := hbel.setCell (p := ⟨w.heap.size, k, none⟩) (Nat.le_refl _) (.int .i64 xs[k])
        have HS := hid hs
        have HB := hid hbl
        clear hs hbl hrow hbel hc hr0 hB0
        go_wp2
        go_roundw
        case rel => exact ⟨k + 1, by omega, by go_num, HS.out.congr (fun i hi => by
          by_cases h1 : i = k
          · subst h1; simp [hi]
          · rw [if_neg h1]
            by_cases h2 : i < k
            · rw [if_pos h2, if_pos (by omega)]
            · rw [if_neg h2, if_neg (by omega)]), HB.out⟩
        case measure => simp [intOf]; omega
      · have HR := hid hrow
        clear hrow hr0
        go_wp2
        go_ret
        exact ⟨rfl, Own.of_rowIs (HR.out.congr (fun i hi => by rw [if_pos (by omega)])) rfl (by unfold maxLen; omega), hbel⟩

theorem take_succ_eq {xs ys : List Int} {k : Nat} (hx : k < xs.length) (hy : k < ys.length) (h : xs.take k = ys.take k) (e : xs[k] = ys[k]) : xs.take (k + 1) = ys.take (k + 1) := by
  rw [List.take_succ_eq_append_getElem hx, List.take_succ_eq_append_getElem hy, h, e]

theorem eqIntS_any (v u : Value) (xs ys : List Int) (w : World) (h : Reads w v xs) (h' : Reads w u ys) :
    Calls Try.prog 19 #[v, u] w fun e w' => e = .returned (.bool (decide (xs = ys))) ∧ Below w.heap.size w w' := by
  obtain ⟨ao, c, rfl, hc1, hm, h⟩ := h
  obtain ⟨bo, d, rfl, hd1, hn, h'⟩ := h'
  unfold maxLen at hm hn
  by_cases hl : xs.length = ys.length
  · rcases h with h | ⟨b, off, rfl, hb, hc⟩
    · obtain rfl : ys = [] := List.eq_nil_of_length_eq_zero (by rw [← hl, h]; rfl)
      subst h
      go_enter Try.func19, Try.ntmps19
      go_wp2
      refine wp_loop_rounds 1 ?_
      rw [rounds_succ]
      go_wp2
      go_ret
      exact ⟨by simp, Below.refl _ _⟩
    · rcases h' with h' | ⟨b', off', rfl, hb', hc'⟩
      · obtain rfl : xs = [] := List.eq_nil_of_length_eq_zero (by rw [hl, h']; rfl)
        subst h'
        go_enter Try.func19, Try.ntmps19
        go_wp2
        refine wp_loop_rounds 1 ?_
        rw [rounds_succ]
        go_wp2
        go_ret
        exact ⟨by simp, Below.refl _ _⟩
      · have hne : ((xs.length : Int) != (ys.length : Int)) = false := by simp [hl]
        have HL := hid hl
        have hl1 : xs.length ≤ ys.length := by omega
        have hl2 : ys.length ≤ xs.length := by omega
        clear hl
        go_enter Try.func19, Try.ntmps19
        go_wp2
        go_loopw [5] (fun i wr => ∃ k : Nat, k ≤ xs.length ∧ i = .int .i64 k ∧ xs.take k = ys.take k ∧ Below w.heap.size w wr) (fun i _ => xs.length - (intOf i).toNat)
        case atStart => exact ⟨0, Nat.zero_le _, rfl, rfl, Below.refl _ _⟩
        case round =>
          obtain ⟨k, hk, rfl, htake, hbel⟩ := hrel
          have HT := hid htake
          clear htake
          by_cases hlt : k < xs.length
          · have hlt' : k < ys.length := by omega
            have hcx : wr.cell? ⟨b, off + k, none⟩ = some (.int .i64 xs[k]) := by
              have := (hbel.cell (p := ⟨b, off + k, none⟩) (by exact hb)).trans (hc k hlt)
              simpa [List.getD_eq_getElem?_getD, hlt] using this
            have hcy : wr.cell? ⟨b', off' + k, none⟩ = some (.int .i64 ys[k]) := by
              have := (hbel.cell (p := ⟨b', off' + k, none⟩) (by exact hb')).trans (hc' k hlt')
              simpa [List.getD_eq_getElem?_getD, hlt'] using this
            have hk0 : (0 : Int) ≤ (k : Int) := by omega
            have hk1 : (k : Int) < (xs.length : Int) := by omega
            have hk2 : (k : Int) < (ys.length : Int) := by omega
            clear hc hc'
            by_cases he : xs[k] = ys[k]
            · have hbb : (xs[k] != ys[k]) = false := by simp [he]
              have HE := hid he
              clear he
              go_wp2
              go_quiet (fail)
              go_wp2
              go_roundw
              case rel => exact ⟨k + 1, by omega, by go_num, take_succ_eq hlt hlt' HT.out HE.out, below_drewN hbel _⟩
              case measure => simp [intOf]; omega
            · have hbb : (xs[k] != ys[k]) = true := by simp [he]
              have hfin : decide (xs = ys) = false := by
                apply decide_eq_false
                intro e
                subst e
                exact he rfl
              clear he
              have HF := hid hfin
              clear hfin
              go_wp2
              go_quiet (fail)
              go_wp2
              go_ret
              exact ⟨ret_bool HF.out.symm, below_drewN hbel _⟩
          · go_wp2
            go_ret
            exact ⟨by
              have e : xs = ys := by
                have := HT.out
                rwa [List.take_of_length_le (by omega), List.take_of_length_le (by omega)] at this
              simp [e], hbel⟩
  · have hne : ((xs.length : Int) != (ys.length : Int)) = true := by simp; omega
    have hfin : decide (xs = ys) = false := decide_eq_false (fun e => hl (by rw [e]))
    have HF := hid hfin
    clear h h' hl hfin
    go_enter Try.func19, Try.ntmps19
    go_wp2
    go_ret
    exact ⟨ret_bool HF.out.symm, Below.refl _ _⟩

/-- the marks k, k + 1, .. in n cells -/
def marks (k : Int) (n : Nat) : List Int := (List.range n).map (fun i : Nat => k + (i : Int))
theorem marks_length (k : Int) (n : Nat) : (marks k n).length = n := by simp [marks]
theorem marks_getD (k : Int) (n i : Nat) (h : i < n) : (marks k n).getD i 0 = k + i := by simp [marks, h]

theorem heldIntS_any (v : Value) (xs : List Int) (m : Int) (w : World) (h : Reads w v xs) (hx : xs = marks m xs.length) (h0 : 0 ≤ m) (h1 : m ≤ 1099511627776) (hl : xs.length ≤ 1099511627776) :
    Calls Try.prog 21 #[v, .int .i64 m] w fun e w' => e = .returned (.int .i64 (m + xs.length)) ∧ w = w' := by
  obtain ⟨ao, c, rfl, hc1, hm, h⟩ := h
  unfold maxLen at hm
  rcases h with h | ⟨b, off, rfl, hb, hc⟩
  · subst h
    go_enter Try.func21, Try.ntmps21
    go_wp2
    refine wp_loop_rounds 1 ?_
    rw [rounds_succ]
    go_wp2
    go_ret
    exact ⟨ret_int (by simp), rfl⟩
  · have HX := hid hx
    clear hx
    go_enter Try.func21, Try.ntmps21
    go_wp2
    go_loop [1, 5] (fun a i => ∃ k : Nat, k ≤ xs.length ∧ i = .int .i64 k ∧ a = .int .i64 (m + k)) (fun _ i => xs.length - (intOf i).toNat)
    case atStart => exact ⟨0, Nat.zero_le _, rfl, by simp⟩
    case round =>
      obtain ⟨k, hk, rfl, rfl⟩ := hrel
      by_cases hlt : k < xs.length
      · have hcx : w.cell? ⟨b, off + k, none⟩ = some (.int .i64 (m + k)) := by
          have := hc k hlt
          rw [this, HX.out, marks_getD _ _ _ hlt]
        have hbb : ((m + (k : Int)) != (m + (k : Int))) = false := by simp
        clear hc
        go_wp2
        go_round
        case rel => exact ⟨k + 1, by omega, by go_num, by go_num⟩
        case measure => simp [intOf]; omega
      · obtain rfl : k = xs.length := by omega
        go_wp2
        go_ret
        exact ⟨rfl, rfl⟩
theorem marks_set (m : Int) (xs : List Int) (k : Nat) (h : k < xs.length) : (marks m k ++ xs.drop k).set k (m + k) = marks m (k + 1) ++ xs.drop (k + 1) := by
  have hl := marks_length m k
  rw [List.set_append_right _ _ (by omega), hl, Nat.sub_self, List.drop_eq_getElem_cons h, List.set_cons_zero]
  simp [marks, List.range_succ]

theorem markIntS_any (v : Value) (xs : List Int) (base : Nat) (m : Int) (w : World) (h : Own w base v xs) (h0 : 0 ≤ m) (h1 : m ≤ 1099511627776) (hl : xs.length ≤ 1099511627776) :
    Calls Try.prog 20 #[v, .int .i64 m] w fun e w' => e = .returned (.int .i64 (m + xs.length)) ∧ Own w' base v (marks m xs.length) ∧ w.grownBy w' v.ownBlock := by
  rcases h.form with ⟨rfl, rfl⟩ | ⟨g, cap, rfl, hg, hlt, hc1, hm, hc, hf⟩
  · go_enter Try.func20, Try.ntmps20
    go_wp2
    refine wp_loop_rounds 1 ?_
    rw [rounds_succ]
    go_wp2
    go_ret
    exact ⟨ret_int (by simp), h, World.grownBy.refl _ _⟩
  · unfold maxLen at hm
    have H := hid h
    clear h hc hf
    go_enter Try.func20, Try.ntmps20
    go_wp2
    go_loopw [1, 5] (fun a i wr => ∃ k : Nat, k ≤ xs.length ∧ i = .int .i64 k ∧ a = .int .i64 (m + k) ∧ Own wr base (.slice (some ⟨g, 0, none⟩) xs.length cap) (marks m k ++ xs.drop k) ∧ w.grownBy wr (some g)) (fun _ i _ => xs.length - (intOf i).toNat)
    case atStart => exact ⟨0, Nat.zero_le _, rfl, by simp, by simpa [marks] using H.out, World.grownBy.refl _ _⟩
    case round =>
      obtain ⟨k, hk, rfl, rfl, hown, hgr⟩ := hrel
      have hlen : (marks m k ++ xs.drop k).length = xs.length := by simp [marks_length]; omega
      by_cases hlt : k < xs.length
      · have hs := Own.set (by rw [hlen]; exact hown) k (m + k)
        rw [hlen, marks_set m xs k hlt] at hs
        rcases hown.form with ⟨h1, h2⟩ | ⟨g', cap', e, hg', hlt', hc1', hm', hc', hf'⟩
        · simp at h1
        · simp only [Value.slice.injEq, Option.some.injEq, Addr.mk.injEq, and_true] at e
          obtain ⟨rfl, el, rfl⟩ := e
          clear el
          have hcx := hc' k (by omega)
          have hfx := hf' k
          rw [Nat.zero_add] at hcx
          obtain ⟨z, hz⟩ : ∃ z, wr.cell? ⟨g, k, none⟩ = some z := ⟨_, hcx⟩
          clear hcx
          have HS := hid hs
          have HG := hid hgr
          clear hs hgr hc' hf' hown hlen hm' hc1'
          go_wp2
          go_roundw
          case rel => exact ⟨k + 1, by omega, by go_num, by go_num, HS.out.1, grownBy_trans HG.out HS.out.2⟩
          case measure => simp [intOf]; omega
      · obtain rfl : k = xs.length := by omega
        rw [List.drop_length, List.append_nil] at hown
        have HO := hid hown
        have HG := hid hgr
        clear hown hgr hlen
        go_wp2
        go_ret
        exact ⟨rfl, HO.out, HG.out⟩
end Go.Proofs.Yteimfdpkodcfbaa

/- Contracts: l1Rising, raCombination, areBelow, lastRelatedPair, and both IsCombination functions. Conditions: the slice reads as a list. -/
namespace Go.Proofs.Yteimfdpkodcfbaa
set_option linter.unusedVariables false
open Go.RowKit

theorem Reads.view {w : World} {v : Value} {xs : List Int} (h : Reads w v xs) : ∃ ao c, v = .slice ao xs.length c ∧ xs.length ≤ c ∧ c ≤ 9223372036854775807 ∧
    (xs = [] ∨ ∃ b off, ao = some ⟨b, off, none⟩ ∧ b < w.heap.size ∧ ∀ i (hi : i < xs.length), w.cell? ⟨b, off + i, none⟩ = some (.int .i64 xs[i])) := by
  obtain ⟨ao, c, rfl, h1, h2, h⟩ := h
  refine ⟨ao, c, rfl, h1, by unfold maxLen at h2; omega, ?_⟩
  rcases h with h | ⟨b, off, rfl, hb, hc⟩
  · exact .inl h
  · refine .inr ⟨b, off, rfl, hb, fun i hi => ?_⟩
    have := hc i hi
    simpa [List.getD_eq_getElem?_getD, hi] using this

theorem getD_at {xs : List Int} {i : Nat} (h : i < xs.length) : xs.getD i 0 = xs[i] := by simp [List.getD_eq_getElem?_getD, h]

theorem areBelow_any (v : Value) (xs : List Int) (n : Int) (w : World) (h : Reads w v xs) :
    Calls Try.prog 126 #[v, .int .i64 n] w fun e w' => e = .returned (.bool (belowB xs n)) ∧ w = w' := by
  obtain ⟨ao, c, rfl, hc1, hm, h⟩ := h.view
  rcases h with h | ⟨b, off, rfl, hb, hc⟩
  · subst h
    go_enter Try.func126, Try.ntmps126
    go_wp2
    refine wp_loop_rounds 1 ?_
    rw [rounds_succ]
    go_wp2
    go_ret
    exact ⟨rfl, rfl⟩
  · go_enter Try.func126, Try.ntmps126
    go_wp2
    go_loop [6, 9] (fun _ i => ∃ k : Nat, k ≤ xs.length ∧ i = .int .i64 k ∧ allTo k (fun i => inB (xs.getD i 0) 0 (n - 1)) = true) (fun _ i => xs.length - (intOf i).toNat)
    case atStart => exact ⟨0, Nat.zero_le _, rfl, rfl⟩
    case round =>
      obtain ⟨k, hk, rfl, hall⟩ := hrel
      have HA := hid hall
      clear hall
      by_cases hlt : k < xs.length
      · have hcx := hc k hlt
        clear hc
        by_cases h0 : xs[k] < 0
        · have HF : Hid (inB (xs.getD k 0) 0 (n - 1) = false) := by
            show inB (xs.getD k 0) 0 (n - 1) = false
            rw [getD_at hlt]; simp [inB]; omega
          go_wp2
          go_ret
          exact ⟨ret_bool (allTo_no (f := fun i => inB (xs.getD i 0) 0 (n - 1)) hlt HF.out).symm, rfl⟩
        · by_cases h1 : n ≤ xs[k]
          · have HF : Hid (inB (xs.getD k 0) 0 (n - 1) = false) := by
              show inB (xs.getD k 0) 0 (n - 1) = false
              rw [getD_at hlt]; simp [inB]; omega
            go_wp2
            go_ret
            exact ⟨ret_bool (allTo_no (f := fun i => inB (xs.getD i 0) 0 (n - 1)) hlt HF.out).symm, rfl⟩
          · have HF : Hid (inB (xs.getD k 0) 0 (n - 1) = true) := by
              show inB (xs.getD k 0) 0 (n - 1) = true
              rw [getD_at hlt]; simp [inB]; omega
            go_wp2
            go_round
            case rel => exact ⟨k + 1, by omega, by go_num, allTo_next (f := fun i => inB (xs.getD i 0) 0 (n - 1)) HA.out HF.out⟩
            case measure => simp [intOf]; omega
      · obtain rfl : k = xs.length := by omega
        go_wp2
        go_ret
        exact ⟨ret_bool HA.out.symm, rfl⟩
theorem isAtLeast_any (a b : Int) (w : World) : Calls Try.prog 174 #[.int .i64 a, .int .i64 b] w fun e w' => e = .returned (.bool (decide (b ≤ a))) ∧ w = w' := by
  by_cases h : b ≤ a
  all_goals
    go_enter Try.func174, Try.ntmps174
    go_wp2
    go_ret
    exact ⟨by simp; omega, rfl⟩
end Go.Proofs.Yteimfdpkodcfbaa

/- Owned rows with bounds on their block numbers, for laws that write marks into results; counting lemmas. No conditions. -/
namespace Go.Proofs.Yteimfdpkodcfbaa
open Go.RowKit
set_option linter.unusedVariables false

/-- v owns a row that reads as xs, in a block from lo on and below hi. -/
def Lives (w : World) (lo hi : Nat) (v : Value) (xs : List Int) : Prop := Own w lo v xs ∧ ∀ k, v.ownBlock = some k → k < hi

theorem Own.lives {w : World} {lo : Nat} {v : Value} {xs : List Int} (h : Own w lo v xs) : Lives w lo w.heap.size v xs :=
  ⟨h, fun k hk => (World.ownsRow.lt h k hk).2⟩
theorem Lives.below {w w' : World} {lo hi : Nat} {v : Value} {xs : List Int} (h : Lives w lo hi v xs) (hb : Below w.heap.size w w') : Lives w' lo hi v xs := ⟨h.1.below hb, h.2⟩
theorem Lives.reads {w : World} {lo hi : Nat} {v : Value} {xs : List Int} (h : Lives w lo hi v xs) : Reads w v xs := h.1.reads
theorem Lives.low {w : World} {lo hi : Nat} {v : Value} {xs : List Int} (h : Lives w lo hi v xs) : ∀ k, v.ownBlock = some k → lo ≤ k :=
  fun k hk => (World.ownsRow.lt h.1 k hk).1
theorem Lives.kept {w w' : World} {lo hi lo' hi' : Nat} {v u : Value} {xs ys : List Int} (h : Lives w lo hi v xs) (h' : Lives w lo' hi' u ys) (hg : w.grownBy w' u.ownBlock) (hne : hi ≤ lo' ∨ hi' ≤ lo) : Lives w' lo hi v xs := by
  refine ⟨Own.kept h.1 hg ?_, h.2⟩
  cases hv : v.ownBlock with
  | none => exact .inl rfl
  | some k =>
    right
    intro e
    have h1 := h.2 k hv
    have h2 := h.low k hv
    have h3 := h'.2 k e.symm
    have h4 := h'.low k e.symm
    omega
theorem Lives.marked {w w' : World} {lo hi : Nat} {v : Value} {xs ys : List Int} (h : Lives w lo hi v xs) (ho : Own w' lo v ys) : Lives w' lo hi v ys := ⟨ho, h.2⟩
theorem Below.marked {w w1 w' : World} {lo hi : Nat} {v : Value} {xs : List Int} (h : Below w.heap.size w w1) (hl : Lives w1 lo hi v xs) (hg : w1.grownBy w' v.ownBlock) (hlo : w.heap.size ≤ lo) : Below w.heap.size w w' :=
  h.grown hg h.size (fun k hk => Nat.le_trans hlo (hl.low k hk))

theorem Own.nil (w : World) (lo : Nat) : Own w lo (.slice none 0 0) [] := World.ownsRow_nil _ _ _ _
/-- What the law on append leaves, for one more number. -/
theorem Own.snoc {w : World} {lo : Nat} {v : Value} {xs : List Int} {x : Int} (h : w.ownsRow lo 3 1 v (xs.length + 1) (xs.map (Value.int .i64) ++ [.int .i64 x])) : Own w lo v (xs ++ [x]) := by
  unfold Own
  simpa using h
theorem Own.row {w : World} {lo : Nat} {v : Value} {xs : List Int} (h : Own w lo v xs) : w.ownsRow lo 3 1 v xs.length (xs.map (Value.int .i64)) := h

theorem new_cell1 {u : Value} {w : World} {z : Value} {T : TypeId} (j : Nat) (hj : [z][j]? = some u) : (w.alloc (.cells #[z] T)).cell? ((⟨w.heap.size, 0, none⟩ : Addr).add j) = some u := by
  match j, hj with
  | 0, hj => simp at hj; subst hj; simp [Addr.add]

/-- how many elements are greater than x, or less -/
def countGt (l : List Int) (x : Int) : Nat := (l.filter (fun y => decide (x < y))).length
def countLt (l : List Int) (x : Int) : Nat := (l.filter (fun y => decide (y < x))).length
theorem countGt_le (l : List Int) (x : Int) : countGt l x ≤ l.length := List.length_filter_le _ _
theorem countLt_le (l : List Int) (x : Int) : countLt l x ≤ l.length := List.length_filter_le _ _
theorem countGt_yes {xs : List Int} {k : Nat} {x : Int} (h : k < xs.length) (hx : x < xs[k]) : countGt (xs.take (k + 1)) x = countGt (xs.take k) x + 1 := by
  unfold countGt
  rw [List.take_succ_eq_append_getElem h, List.filter_append, List.length_append]
  simp [hx]
theorem countGt_no {xs : List Int} {k : Nat} {x : Int} (h : k < xs.length) (hx : ¬ x < xs[k]) : countGt (xs.take (k + 1)) x = countGt (xs.take k) x := by
  unfold countGt
  rw [List.take_succ_eq_append_getElem h, List.filter_append, List.length_append]
  simp [hx]
theorem countLt_yes {xs : List Int} {k : Nat} {x : Int} (h : k < xs.length) (hx : xs[k] < x) : countLt (xs.take (k + 1)) x = countLt (xs.take k) x + 1 := by
  unfold countLt
  rw [List.take_succ_eq_append_getElem h, List.filter_append, List.length_append]
  simp [hx]
theorem countLt_no {xs : List Int} {k : Nat} {x : Int} (h : k < xs.length) (hx : ¬ xs[k] < x) : countLt (xs.take (k + 1)) x = countLt (xs.take k) x := by
  unfold countLt
  rw [List.take_succ_eq_append_getElem h, List.filter_append, List.length_append]
  simp [hx]

/-- the inversions at the first k indices -/
def invsTo (xs : List Int) (k : Nat) : List Int := (List.range k).map (fun i : Nat => (countGt (xs.take i) (xs.getD i 0) : Int))
theorem invsTo_succ (xs : List Int) (k : Nat) : invsTo xs (k + 1) = invsTo xs k ++ [(countGt (xs.take k) (xs.getD k 0) : Int)] := by simp [invsTo, List.range_succ]
theorem invsTo_length (xs : List Int) (k : Nat) : (invsTo xs k).length = k := by simp [invsTo]
theorem invsTo_getD (xs : List Int) (n i : Nat) (h : i < n) : (invsTo xs n).getD i 0 = countGt (xs.take i) (xs.getD i 0) := by simp [invsTo, h]
end Go.Proofs.Yteimfdpkodcfbaa

/- Slices that are not nil and read as a list; slices of them. No conditions. -/
namespace Go.Proofs.Yteimfdpkodcfbaa
open Go.RowKit
set_option linter.unusedVariables false

/-- v is a slice that is not nil and reads as xs. -/
def Sits (w : World) (v : Value) (xs : List Int) : Prop :=
  ∃ b off c, v = .slice (some ⟨b, off, none⟩) xs.length c ∧ xs.length ≤ c ∧ c ≤ 9223372036854775807 ∧ b < w.heap.size ∧ ∀ i (hi : i < xs.length), w.cell? ⟨b, off + i, none⟩ = some (.int .i64 xs[i])

theorem Sits.below {w w' : World} {v : Value} {xs : List Int} (h : Sits w v xs) (hb : Below w.heap.size w w') : Sits w' v xs := by
  obtain ⟨b, off, c, rfl, h1, h2, h3, h4⟩ := h
  exact ⟨b, off, c, rfl, h1, h2, Nat.lt_of_lt_of_le h3 hb.size, fun i hi => (hb.cell (by exact h3)).trans (h4 i hi)⟩
theorem Sits.reads {w : World} {v : Value} {xs : List Int} (h : Sits w v xs) : Reads w v xs := by
  obtain ⟨b, off, c, rfl, h1, h2, h3, h4⟩ := h
  exact ⟨_, c, rfl, h1, by unfold maxLen; omega, .inr ⟨b, off, rfl, h3, fun i hi => by rw [h4 i hi, getD_at hi]⟩⟩
theorem Own.sits {w : World} {lo : Nat} {a : Addr} {n c : Nat} {xs : List Int} (h : Own w lo (.slice (some a) n c) xs) : Sits w (.slice (some a) n c) xs := by
  rcases h.form with ⟨h1, h2⟩ | ⟨g, cap, e, _, hlt, h1, h2, hc, _⟩
  · simp at h1
  · rw [e]
    refine ⟨g, 0, cap, rfl, h1, by unfold maxLen at h2; omega, hlt, fun i hi => by rw [hc i hi, getD_at hi]⟩
theorem Lives.sits {w : World} {lo hi : Nat} {a : Addr} {n c : Nat} {xs : List Int} (h : Lives w lo hi (.slice (some a) n c) xs) : Sits w (.slice (some a) n c) xs := h.1.sits

/-- The beginning of a slice, and its end. -/
theorem Sits_take {w : World} {b off c : Nat} {xs : List Int} (k : Nat) (hk : k ≤ xs.length) (hc1 : xs.length ≤ c) (hm : c ≤ 9223372036854775807) (hb : b < w.heap.size)
    (hc : ∀ i (hi : i < xs.length), w.cell? ⟨b, off + i, none⟩ = some (.int .i64 xs[i])) : Sits w (.slice (some ⟨b, off, none⟩) k c) (xs.take k) := by
  have hl : (xs.take k).length = k := by simp; omega
  refine ⟨b, off, c, by rw [hl], by omega, hm, hb, fun i hi => ?_⟩
  rw [hl] at hi
  rw [hc i (by omega)]
  simp
theorem Sits_drop {w : World} {b off c : Nat} {xs : List Int} (k : Nat) (hk : k ≤ xs.length) (hc1 : xs.length ≤ c) (hm : c ≤ 9223372036854775807) (hb : b < w.heap.size)
    (hc : ∀ i (hi : i < xs.length), w.cell? ⟨b, off + i, none⟩ = some (.int .i64 xs[i])) : Sits w (.slice (some ⟨b, off + k, none⟩) (xs.length - k) (c - k)) (xs.drop k) := by
  have hl : (xs.drop k).length = xs.length - k := by simp
  refine ⟨b, off + k, c - k, by rw [hl], by omega, by omega, hb, fun i hi => ?_⟩
  rw [hl] at hi
  rw [Nat.add_assoc, hc (k + i) (by omega)]
  simp

theorem permB_wf (n : Nat) (h : n < 1048576) : (Lit.int .i64 (n : Int)).wf = true := WalkArith.wf_i64 (by omega)
end Go.Proofs.Yteimfdpkodcfbaa

/- Contracts: firstNumbers, l1Own, raUpTo, slices.Delete at one element, takeOut, raWithout. Conditions: the slices read as lists of at most 2^20 numbers; indexes lie within. -/
namespace Go.Proofs.Yteimfdpkodcfbaa
open Go.RowKit
set_option linter.unusedVariables false

/-- the numbers 0, .., n - 1 -/
def upTo (n : Nat) : List Int := (List.range n).map (fun i : Nat => (i : Int))
theorem upTo_length (n : Nat) : (upTo n).length = n := by simp [upTo]
theorem upTo_getD (n i : Nat) (h : i < n) : (upTo n).getD i 0 = i := by simp [upTo, h]
theorem upTo_succ (n : Nat) : upTo (n + 1) = upTo n ++ [(n : Int)] := by simp [upTo, List.range_succ]

theorem Own.cut {w : World} {lo g n c : Nat} {xs : List Int} (h : Own w lo (.slice (some ⟨g, 0, none⟩) n c) xs) (m : Nat) (hm : m ≤ xs.length) : Own w lo (.slice (some ⟨g, 0, none⟩) m c) (xs.take m) := by
  have hl : (xs.take m).length = m := by simp; omega
  refine ⟨by simp, ?_⟩
  rcases h.2 with ⟨h1, h2⟩ | ⟨g', cap, cur, e, hg, hgg, h1, h2, h3, h4⟩
  · simp at h1
  · simp only [Value.slice.injEq, Option.some.injEq, Addr.mk.injEq, and_true] at e
    obtain ⟨rfl, rfl, rfl⟩ := e
    refine .inr ⟨g, c, cur, by rw [hl], hg, hgg, by omega, h2, h3, ?_⟩
    rw [hl, List.map_take, ← h4, List.take_take]
    congr 1
    omega
theorem Own.len {w : World} {lo g n c : Nat} {xs : List Int} (h : Own w lo (.slice (some ⟨g, 0, none⟩) n c) xs) : n = xs.length := by
  rcases h.2 with ⟨h1, h2⟩ | ⟨g', cap, cur, e, hg, hgg, h1, h2, h3, h4⟩
  · simp at h1
  · simp only [Value.slice.injEq] at e
    exact e.2.1

def setFrom (xs : List Int) (j : Nat) : List Int → List Int
  | [] => xs
  | v :: r => setFrom (xs.set j v) (j + 1) r
theorem setFrom_append (p s vs : List Int) (h : vs.length = s.length) : setFrom (p ++ s) p.length vs = p ++ vs := by
  induction vs generalizing p s with
  | nil =>
    have : s = [] := List.eq_nil_of_length_eq_zero h.symm
    subst this
    rfl
  | cons v r ih =>
    match s, h with
    | x :: s', h =>
      rw [setFrom, List.set_append_right _ _ (Nat.le_refl _), Nat.sub_self, List.set_cons_zero]
      have := ih (p ++ [v]) s' (by simpa using h)
      simpa [List.append_assoc] using this
theorem Own_setCells {lo g c : Nat} (vs : List Int) : ∀ (w : World) (xs : List Int) (j : Nat), Own w lo (.slice (some ⟨g, 0, none⟩) xs.length c) xs →
    Own (w.setCells g j (vs.map (Value.int .i64))) lo (.slice (some ⟨g, 0, none⟩) xs.length c) (setFrom xs j vs) ∧ w.grownBy (w.setCells g j (vs.map (Value.int .i64))) (some g) := by
  induction vs with
  | nil => exact fun w xs j h => ⟨h, World.grownBy.refl _ _⟩
  | cons v r ih =>
    intro w xs j h
    obtain ⟨h1, h2⟩ := h.set j v
    have hl : (xs.set j v).length = xs.length := List.length_set
    have h3 := ih (w.setCell ⟨g, j, none⟩ (.int .i64 v)) (xs.set j v) (j + 1) (by rw [hl]; exact h1)
    rw [hl] at h3
    exact ⟨h3.1, grownBy_trans h2 h3.2⟩

theorem firstNumbers_any (n : Nat) (w : World) (hn : n ≤ 1048576) :
    Calls Try.prog 75 #[.int .i64 (n : Int)] w fun e w' => e = .returned (.slice (some ⟨w.heap.size, 0, none⟩) n n) ∧ Own w' w.heap.size (.slice (some ⟨w.heap.size, 0, none⟩) n n) (upTo n) ∧ Below w.heap.size w w' := by
  have hmk := run_make_ints n hn w
  have HM := hid (World.rowIs_made w (.int .i64 0) n 3)
  have HB0 := hid ((Below.refl w.heap.size w).alloc (Nat.le_refl _) (.cells (madeCells #[.int .i64 0] n) 3))
  go_enter Try.func75, Try.ntmps75
  go_wp2
  clear hmk
  go_loopw [4, 9] (fun _ i wr => ∃ k : Nat, k ≤ n ∧ i = .int .i64 k ∧ wr.rowIs w.heap.size 3 n (fun j => .int .i64 (if j < k then (j : Int) else 0)) ∧ Below w.heap.size w wr) (fun _ i _ => n - (intOf i).toNat)
  case atStart => exact ⟨0, Nat.zero_le _, rfl, World.rowIs.congr HM.out (fun i hi => by simp), HB0.out⟩
  case round =>
    obtain ⟨k, hk, rfl, hrow, hbel⟩ := hrel
    by_cases hlt : k < n
    · have hf := hrow.frozen k
      obtain ⟨z, hz⟩ : ∃ z, wr.cell? ⟨w.heap.size, k, none⟩ = some z := ⟨_, hrow.cell hlt⟩
      have HS := hid (hrow.set k (.int .i64 (k : Int)))
      have HB := hid (hbel.setCell (p := ⟨w.heap.size, k, none⟩) (Nat.le_refl _) (.int .i64 (k : Int)))
      clear hrow hbel
      go_wp2
      go_roundw
      case rel => exact ⟨k + 1, by omega, by go_num, HS.out.congr (fun i hi => by
        by_cases h1 : i = k
        · subst h1; simp
        · rw [if_neg h1]
          by_cases h2 : i < k
          · rw [if_pos h2, if_pos (by omega)]
          · rw [if_neg h2, if_neg (by omega)]), HB.out⟩
      case measure => simp [intOf]; omega
    · have HR := hid hrow
      clear hrow
      go_wp2
      go_ret
      exact ⟨rfl, Own.of_rowIs (HR.out.congr (fun i hi => by rw [if_pos (by omega), upTo_getD _ _ hi])) (upTo_length _) (by unfold maxLen; omega), hbel⟩
theorem ints_one (xs : List Int) : ∀ u ∈ xs.map (Value.int .i64), u.oneCell' = true := by
  intro u hu
  obtain ⟨x, _, rfl⟩ := List.mem_map.1 hu
  rfl
theorem Sits.src {w : World} {b off n c : Nat} {xs : List Int} (h : ∀ i (hi : i < xs.length), w.cell? ⟨b, off + i, none⟩ = some (.int .i64 xs[i])) : ∀ (j : Nat) (u : Value), (xs.map (Value.int .i64))[j]? = some u → w.cell? ((⟨b, off, none⟩ : Addr).add j) = some u := by
  intro j u hu
  rw [List.getElem?_map] at hu
  by_cases hj : j < xs.length
  · rw [List.getElem?_eq_getElem hj] at hu
    simp at hu
    subst hu
    have e : (⟨b, off, none⟩ : Addr).add j = ⟨b, off + j, none⟩ := by
      by_cases h : j = 0 <;> simp [Addr.add, h]
    rw [e]
    exact h j hj
  · rw [List.getElem?_eq_none (by omega)] at hu
    simp at hu
theorem l1Own_any (v : Value) (xs : List Int) (w : World) (h : Sits w v xs) (hl : xs.length ≤ 1048576) :
    Calls Try.prog 65 #[v] w fun e w' => ∃ u, e = .returned u ∧ Own w' w.heap.size u xs ∧ Below w.heap.size w w' ∧ u ≠ .slice none 0 0 := by
  obtain ⟨b, off, c, rfl, hc1, hm, hb, hc⟩ := h
  obtain ⟨i0, hi, hz0, hz1, hz2⟩ := info_parts Try.info3
  have hmade : (w.alloc (.cells #[] 3)).ownsRow w.heap.size 3 1 (.slice (some ⟨w.heap.size, 0, none⟩) 0 0) 0 [] := World.ownsRow_made w #[] 0 (Nat.le_refl _) (by unfold maxLen; omega) rfl
  have hsrc : ∀ (j : Nat) (u : Value), (xs.map (Value.int .i64))[j]? = some u → (w.alloc (.cells #[] 3)).cell? ((⟨b, off, none⟩ : Addr).add j) = some u :=
    Sits.src (n := 0) (c := 0) (fun i hi => by rw [World.cell?_alloc_past _ _ _ hb]; exact hc i hi)
  have HM := hid hmade
  have HSR := hid hsrc
  clear hc hmade hsrc
  go_enter Try.func65, Try.ntmps65
  go_wp2_with (at_builtin; refine wpList_append_own _ rfl _ _ 22 rfl w.heap.size 3 i0 (.int .i64 0) 1 8 Try.underlying22 hi hz0 hz1 hz2 rfl (by decide) _ _ _ rfl HM.out ⟨b, off, none⟩ xs.length c (xs.map (Value.int .i64)) rfl (by simp) HSR.out (ints_one xs) ?c3 ?c4 ?c5 ?_)
  case c3 => unfold maxLen; omega
  case c4 => omega
  case c5 => (try simp); try omega
  intro v' w1 hown' hgrow hnil
  have hown2 : Own w1 w.heap.size v' xs := by
    unfold Own
    simpa using hown'
  have hbel2 : Below w.heap.size w w1 := ((Below.refl _ _).alloc (Nat.le_refl _) _).grown hgrow (by simp) (fun q hq => (World.ownsRow.lt HM.out q hq).1)
  have hn2 : v' ≠ .slice none 0 0 := hnil
  have HN2 := hid hn2
  clear hown' hgrow hnil hn2
  go_wp2
  go_ret
  exact ⟨_, rfl, hown2, hbel2, HN2.out⟩
end Go.Proofs.Yteimfdpkodcfbaa

/- Plain facts on the check that a list is a permutation. No conditions. -/
namespace Go.Proofs.Yteimfdpkodcfbaa
set_option linter.unusedVariables false

/-- y is an element of xs -/
def hasB (xs : List Int) (y : Int) : Bool := xs.contains y
/-- no earlier element is the one at i -/
def freshAt (xs : List Int) (i : Nat) : Bool := !hasB (xs.take i) (xs.getD i 0)
/-- one step of the spec's check -/
def permAt (xs : List Int) (i : Nat) : Bool := decide (i < 12) && inB (xs.getD i 0) 0 ((xs.length : Int) - 1) && freshAt xs i
/-- xs is a permutation -/
def permB (xs : List Int) : Bool := allTo xs.length (permAt xs)
def permB' (xs : List Int) : Bool := inB (xs.length : Int) 0 12 && belowB xs xs.length && allTo xs.length (freshAt xs)

theorem permB_eq (xs : List Int) : permB' xs = permB xs := by
  rw [Bool.eq_iff_iff]
  simp only [permB, permB', belowB, Bool.and_eq_true, allTo_iff, permAt, decide_eq_true_eq, inB_iff]
  constructor
  · rintro ⟨⟨h1, h2⟩, h3⟩ i hi
    exact ⟨⟨by omega, h2 i hi⟩, h3 i hi⟩
  · intro h
    refine ⟨⟨⟨by omega, ?_⟩, fun i hi => (h i hi).1.2⟩, fun i hi => (h i hi).2⟩
    by_cases h0 : xs.length = 0
    · omega
    · have := (h (xs.length - 1) (by omega)).1.1
      omega

theorem permB_len {xs : List Int} (h : permB xs = true) : xs.length ≤ 12 := by
  rw [← permB_eq] at h
  simp only [permB', Bool.and_eq_true, inB_iff] at h
  omega
theorem permB_range {xs : List Int} (h : permB xs = true) {i : Nat} (hi : i < xs.length) : 0 ≤ xs.getD i 0 ∧ xs.getD i 0 < xs.length := by
  unfold permB at h
  have := (allTo_iff _ _).1 h i hi
  simp only [permAt, Bool.and_eq_true, inB_iff] at this
  omega

theorem hasB_iff {xs : List Int} {y : Int} : hasB xs y = true ↔ y ∈ xs := by unfold hasB; exact List.contains_iff_mem
theorem hasB_no {xs : List Int} {y : Int} (h : y ∉ xs) : hasB xs y = false := by
  cases e : hasB xs y with
  | false => rfl
  | true => exact absurd (hasB_iff.1 e) h
theorem hasB_take_succ (xs : List Int) (k : Nat) (h : k < xs.length) (y : Int) : hasB (xs.take (k + 1)) y = (hasB (xs.take k) y || decide (y = xs[k])) := by
  rw [Bool.eq_iff_iff, Bool.or_eq_true, hasB_iff, hasB_iff, List.take_succ_eq_append_getElem h, List.mem_append, List.mem_singleton, decide_eq_true_eq]
end Go.Proofs.Yteimfdpkodcfbaa

/- Contracts: lastRelatedPair at isAtLeast and impl.IsCombination; the walk of the law FnExactIsCombination. Conditions: the slice reads as a list. -/
namespace Go.Proofs.Yteimfdpkodcfbaa
set_option linter.unusedVariables false
open Go.RowKit

theorem Drew.below {w w' : World} (h : ∃ q, w' = w.drewN q) (B : Nat) : Below B w w' := by
  obtain ⟨q, rfl⟩ := h
  exact below_drewN (Below.refl _ _) q

theorem Drew.next {w w' : World} (h : ∃ q, w' = w.drewN q) (n : Nat) : ∃ q, w'.drewN n = w.drewN q := by
  obtain ⟨q, rfl⟩ := h
  exact ⟨q + n, World.drewN_drewN _ _ _⟩

theorem lastRelatedPair_ge (v : Value) (xs : List Int) (w : World) (h : Reads w v xs) :
    Calls Try.prog 173 #[v, .func (.func 174) #[] #[]] w fun e w' => e = .returned (.int .i64 (lastIx (atLeastAt xs) (xs.length - 1))) ∧ ∃ q, w' = w.drewN q := by
  obtain ⟨ao, c, rfl, hc1, hm, h⟩ := h.view
  by_cases hl : xs.length < 2
  · have HF : Hid (lastIx (atLeastAt xs) (xs.length - 1) = -1) := by
      show lastIx (atLeastAt xs) (xs.length - 1) = -1
      rw [show xs.length - 1 = 0 by omega]; rfl
    clear h
    have hd : decide ((0 : Int) ≤ (xs.length : Int) - 2) = false := by simp; omega
    have hd2 : decide ((2 : Int) ≤ (xs.length : Int)) = false := by simp; omega
    go_enter Try.func173, Try.ntmps173
    go_wp2
    refine wp_loop_rounds 1 ?_
    rw [rounds_succ]
    go_wp2
    go_quiet (fail)
    go_wp2
    all_goals go_ret
    all_goals exact ⟨ret_int (by have := HF.out; omega), nq, rfl⟩
  · obtain ⟨b, off, rfl, hb, hc⟩ := h.resolve_left (by intro h; rw [h] at hl; simp at hl)
    go_enter Try.func173, Try.ntmps173
    go_wp2
    go_loopw [5] (fun i wr => ∃ k : Nat, k ≤ xs.length - 1 ∧ i = .int .i64 ((k : Int) - 1) ∧ lastIx (atLeastAt xs) (xs.length - 1) = lastIx (atLeastAt xs) k ∧ ∃ q, wr = w.drewN q) (fun i _ => (intOf i + 1).toNat)
    case atStart => exact ⟨xs.length - 1, Nat.le_refl _, by congr 1; omega, rfl, 0, rfl⟩
    case round =>
      obtain ⟨k, hk, rfl, hla, hq⟩ := hrel
      have HL := hid hla
      have HQ := hid hq
      clear hla hq
      cases k with
      | zero =>
        have hd : decide ((0 : Int) ≤ (-1 : Int)) = false := by decide
        rw [show (((0 : Nat) : Int) - 1) = -1 from rfl]
        clear hc
        go_wp2
        go_quiet (fail)
        go_wp2
        go_ret
        exact ⟨ret_int HL.out.symm, Drew.next HQ.out nq⟩
      | succ j =>
        rw [show (((j + 1 : Nat) : Int) - 1) = (j : Int) from by omega]
        have hd : decide ((0 : Int) ≤ (j : Int)) = true := by simp
        have hcx : wr.cell? ⟨b, off + j, none⟩ = some (.int .i64 xs[j]) := by
          obtain ⟨q, rfl⟩ := HQ.out
          exact hc j (by omega)
        have hcy : wr.cell? ⟨b, off + (j + 1), none⟩ = some (.int .i64 xs[j + 1]) := by
          obtain ⟨q, rfl⟩ := HQ.out
          exact hc (j + 1) (by omega)
        clear hc
        have q1 : (j : Int) < (xs.length : Int) := by omega
        have q2 : (0 : Int) ≤ (j : Int) := by omega
        have q3 : (j : Int) + 1 < (xs.length : Int) := by omega
        have q4 : (0 : Int) ≤ (j : Int) + 1 := by omega
        have q5 : ((j : Int) + 1).toNat = j + 1 := by omega
        have q6 : IntKind.i64.wrap ((j : Int) + 1) = (j : Int) + 1 := IntWalk.i64_in _ (by omega)
        by_cases hge : xs[j + 1] ≤ xs[j]
        · have hb1 : decide (xs[j + 1] ≤ xs[j]) = true := by simpa using hge
          have HF : Hid (atLeastAt xs j = true) := by
            show atLeastAt xs j = true
            rw [atLeastAt, getD_at (show j < xs.length by omega), getD_at (show j + 1 < xs.length by omega)]; exact hb1
          clear hge
          go_wp2
          go_quiet ((go_at_call 174; exact Calls.quiet_of_same ((isAtLeast_any _ _ _).mono fun _ _ h => ⟨h.1, h.2.symm⟩)))
          go_wp2
          go_ret
          exact ⟨ret_int (by rw [HL.out, lastIx_yes HF.out]), Drew.next HQ.out nq⟩
        · have hb1 : decide (xs[j + 1] ≤ xs[j]) = false := by simpa using hge
          have HF : Hid (atLeastAt xs j = false) := by
            show atLeastAt xs j = false
            rw [atLeastAt, getD_at (show j < xs.length by omega), getD_at (show j + 1 < xs.length by omega)]; exact hb1
          clear hge
          go_wp2
          go_quiet ((go_at_call 174; exact Calls.quiet_of_same ((isAtLeast_any _ _ _).mono fun _ _ h => ⟨h.1, h.2.symm⟩)))
          go_wp2
          go_roundw
          case rel => exact ⟨j, by omega, rfl, by rw [HL.out, lastIx_no HF.out], Drew.next HQ.out nq⟩
          case measure => simp [intOf]; try omega
theorem impl_IsCombination_any (n : Int) (v : Value) (xs : List Int) (w : World) (h : Reads w v xs) :
    Calls Try.prog 162 #[.int .i64 n, v] w fun e w' => e = .returned (.bool (combB n xs)) ∧ ∃ q, w' = w.drewN q := by
  rw [← combB_eq]
  have H := hid h
  clear h
  by_cases h1 : inB n 0 12 = true
  · by_cases h2 : belowB xs n = true
    · have HF : Hid (combB' n xs = decide (lastIx (atLeastAt xs) (xs.length - 1) < 0)) := by show combB' n xs = _; simp [combB', h1, h2]
      go_enter Try.func162, Try.ntmps162
      go_wp2_with (first | (go_at_call 165; refine (isItemCount_any _ _).mono ?_; rintro e w' ⟨rfl, rfl⟩) | (go_at_call 126; refine (areBelow_any _ _ _ _ H.out).mono ?_; rintro e w' ⟨rfl, rfl⟩) | (go_at_call 173; refine (lastRelatedPair_ge _ _ _ H.out).mono ?_; rintro e w' ⟨rfl, hq⟩))
      go_ret
      exact ⟨ret_bool HF.out.symm, by assumption⟩
    · have h2 : belowB xs n = false := by simpa using h2
      have HF : Hid (combB' n xs = false) := by show combB' n xs = _; simp [combB', h1, h2]
      go_enter Try.func162, Try.ntmps162
      go_wp2_with (first | (go_at_call 165; refine (isItemCount_any _ _).mono ?_; rintro e w' ⟨rfl, rfl⟩) | (go_at_call 126; refine (areBelow_any _ _ _ _ H.out).mono ?_; rintro e w' ⟨rfl, rfl⟩))
      go_ret
      exact ⟨ret_bool HF.out.symm, 0, rfl⟩
  · have h1 : inB n 0 12 = false := by simpa using h1
    have HF : Hid (combB' n xs = false) := by show combB' n xs = _; simp [combB', h1]
    go_enter Try.func162, Try.ntmps162
    go_wp2_with (first | (go_at_call 165; refine (isItemCount_any _ _).mono ?_; rintro e w' ⟨rfl, rfl⟩))
    go_ret
    exact ⟨ret_bool HF.out.symm, 0, rfl⟩
end Go.Proofs.Yteimfdpkodcfbaa

/- Contracts: l1Has, raPermutation and both IsPermutation functions. Conditions: the slice reads as a list. -/
namespace Go.Proofs.Yteimfdpkodcfbaa
open Go.RowKit
set_option linter.unusedVariables false

/-- The beginning of a slice. -/
theorem Reads_take {w : World} {b off c : Nat} {xs : List Int} (k : Nat) (hk : k ≤ xs.length) (hc1 : xs.length ≤ c) (hm : c ≤ 9223372036854775807) (hb : b < w.heap.size)
    (hc : ∀ i (hi : i < xs.length), w.cell? ⟨b, off + i, none⟩ = some (.int .i64 xs[i])) : Reads w (.slice (some ⟨b, off, none⟩) k c) (xs.take k) := by
  have hl : (xs.take k).length = k := by simp; omega
  refine ⟨_, c, by rw [hl], by omega, by unfold maxLen; omega, .inr ⟨b, off, rfl, hb, fun i hi => ?_⟩⟩
  rw [hl] at hi
  rw [hc i (by omega)]
  simp [List.getD_eq_getElem?_getD, hi, show i < xs.length by omega]

theorem l1Has_any (v : Value) (xs : List Int) (y : Int) (w : World) (h : Reads w v xs) :
    Calls Try.prog 123 #[v, .int .i64 y] w fun e w' => e = .returned (.bool (hasB xs y)) ∧ w = w' := by
  obtain ⟨ao, c, rfl, hc1, hm, h⟩ := h.view
  rcases h with h | ⟨b, off, rfl, hb, hc⟩
  · subst h
    go_enter Try.func123, Try.ntmps123
    go_wp2
    refine wp_loop_rounds 1 ?_
    rw [rounds_succ]
    go_wp2
    go_ret
    exact ⟨rfl, rfl⟩
  · go_enter Try.func123, Try.ntmps123
    go_wp2
    go_loop [6, 9] (fun _ i => ∃ k : Nat, k ≤ xs.length ∧ i = .int .i64 k ∧ hasB (xs.take k) y = false) (fun _ i => xs.length - (intOf i).toNat)
    case atStart => exact ⟨0, Nat.zero_le _, rfl, rfl⟩
    case round =>
      obtain ⟨k, hk, rfl, hno⟩ := hrel
      have HN := hid hno
      clear hno
      by_cases hlt : k < xs.length
      · have hcx := hc k hlt
        clear hc
        by_cases he : xs[k] = y
        · have hb1 : (xs[k] == y) = true := by simp [he]
          have HF : Hid (hasB xs y = true) := by
            show hasB xs y = true
            rw [hasB_iff, ← he]
            exact List.getElem_mem _
          clear he
          go_wp2
          go_ret
          exact ⟨ret_bool HF.out.symm, rfl⟩
        · have hb1 : (xs[k] == y) = false := by simp [he]
          have hb2 : decide (y = xs[k]) = false := by simp; exact fun h => he h.symm
          have HF : Hid (hasB (xs.take (k + 1)) y = false) := by
            show hasB (xs.take (k + 1)) y = false
            rw [hasB_take_succ xs k hlt, HN.out, hb2]; rfl
          clear he hb2
          go_wp2
          go_round
          case rel => exact ⟨k + 1, by omega, by go_num, HF.out⟩
          case measure => simp [intOf]; omega
      · obtain rfl : k = xs.length := by omega
        have HF : Hid (hasB xs y = false) := by
          have := HN.out
          rwa [List.take_length] at this
        go_wp2
        go_ret
        exact ⟨ret_bool HF.out.symm, rfl⟩
theorem impl_IsPermutation_any (v : Value) (xs : List Int) (w : World) (h : Reads w v xs) :
    Calls Try.prog 168 #[v] w fun e w' => e = .returned (.bool (permB xs)) ∧ Below w.heap.size w w' := by
  rw [← permB_eq]
  have H := hid h
  obtain ⟨ao, c, rfl, hc1, hm, h⟩ := h.view
  by_cases h1 : inB (xs.length : Int) 0 12 = true
  · by_cases h2 : belowB xs xs.length = true
    · have h12 := (inB_iff.1 h1).2
      go_enter Try.func168, Try.ntmps168
      go_wp2_with (first | (go_at_call 165; refine (isItemCount_any _ _).mono ?_; rintro e w' ⟨rfl, rfl⟩) | (go_at_call 126; refine (areBelow_any _ _ _ _ H.out).mono ?_; rintro e w' ⟨rfl, rfl⟩))
      have hr0 : (w.alloc (.cells #[.bool false, .bool false, .bool false, .bool false, .bool false, .bool false, .bool false, .bool false, .bool false, .bool false, .bool false, .bool false] 124)).rowIs w.heap.size 124 12 (fun _ => .bool false) :=
        World.rowIs_alloc _ _ _ _ (fun i hi => by
          match i, hi with
          | 0, _ => rfl | 1, _ => rfl | 2, _ => rfl | 3, _ => rfl | 4, _ => rfl | 5, _ => rfl | 6, _ => rfl | 7, _ => rfl | 8, _ => rfl | 9, _ => rfl | 10, _ => rfl | 11, _ => rfl
          | n + 12, h => exact absurd h (by simp))
      have hB0 : Below w.heap.size w (w.alloc (.cells #[.bool false, .bool false, .bool false, .bool false, .bool false, .bool false, .bool false, .bool false, .bool false, .bool false, .bool false, .bool false] 124)) := (Below.refl _ _).alloc (Nat.le_refl _) _
      have HR0 := hid hr0
      have HB0 := hid hB0
      have HE : Hid (permB' xs = allTo xs.length (freshAt xs)) := by show permB' xs = _; simp [permB', h1, h2]
      have HBW := hid h2
      clear hr0 hB0 h2
      rcases h with h | ⟨b, off, rfl, hb, hc⟩
      · have HX := hid h
        clear h
        go_loopw [5, 19] (fun _ i wr => ∃ k : Nat, k ≤ xs.length ∧ i = .int .i64 k ∧ Below w.heap.size w wr) (fun _ i _ => xs.length - (intOf i).toNat)
        case atStart => exact ⟨0, Nat.zero_le _, rfl, HB0.out⟩
        case round =>
          obtain ⟨k, hk, rfl, hbel⟩ := hrel
          by_cases hlt : k < xs.length
          · exact absurd hlt (by rw [HX.out]; simp)
          · go_wp2
            go_ret
            exact ⟨ret_bool (by rw [HE.out, HX.out]; rfl), hbel⟩
      · go_loopw [5, 19] (fun _ i wr => ∃ k : Nat, k ≤ xs.length ∧ i = .int .i64 k ∧ allTo k (freshAt xs) = true ∧ wr.rowIs w.heap.size 124 12 (fun y => .bool (hasB (xs.take k) (y : Int))) ∧ Below w.heap.size w wr) (fun _ i _ => xs.length - (intOf i).toNat)
        case atStart => exact ⟨0, Nat.zero_le _, rfl, rfl, HR0.out, HB0.out⟩
        case round =>
          obtain ⟨k, hk, rfl, hall, hrow, hbel⟩ := hrel
          have HA := hid hall
          clear hall
          by_cases hlt : k < xs.length
          · have hcx : wr.cell? ⟨b, off + k, none⟩ = some (.int .i64 xs[k]) := (hbel.cell (by exact hb)).trans (hc k hlt)
            have hbw := HBW.out
            unfold belowB at hbw
            have hin := inB_iff.1 ((allTo_iff _ _).1 hbw k hlt)
            rw [getD_at hlt] at hin
            obtain ⟨x, hx⟩ := Int.eq_ofNat_of_zero_le hin.1
            have HXX := hid hx
            rw [hx] at hcx hin
            have hx1 : x < xs.length := by omega
            have hx2 : x < 12 := by omega
            clear hx hin hbw hc
            have hcc := hrow.cell (i := x) hx2
            have hfz := hrow.frozen x
            by_cases hf : hasB (xs.take k) (x : Int) = true
            · have HF : Hid (freshAt xs k = false) := by
                show freshAt xs k = false
                rw [freshAt, getD_at hlt, HXX.out, hf]; rfl
              rw [hf] at hcc
              have HRW := hid hrow
              clear hrow
              go_wp2
              go_ret
              exact ⟨ret_bool (by rw [HE.out, allTo_no hlt HF.out]), hbel⟩
            · have hf : hasB (xs.take k) (x : Int) = false := by simpa using hf
              have HF : Hid (freshAt xs k = true) := by
                show freshAt xs k = true
                rw [freshAt, getD_at hlt, HXX.out, hf]; rfl
              rw [hf] at hcc
              have hs := hrow.set x (.bool true)
              have hbl := hbel.setCell (p := ⟨w.heap.size, x, none⟩) (Nat.le_refl _) (.bool true)
              have HS := hid hs
              have HB := hid hbl
              clear hs hbl hrow hbel
              go_wp2
              go_roundw
              case rel => exact ⟨k + 1, by omega, by go_num, allTo_next HA.out HF.out, HS.out.congr (fun y hy => by
                rw [hasB_take_succ xs k hlt, HXX.out]
                by_cases h : y = x
                · subst h; simp
                · rw [if_neg h]
                  have : decide ((y : Int) = (x : Int)) = false := by simp; omega
                  rw [this, Bool.or_false]), HB.out⟩
              case measure => simp [intOf]; omega
          · obtain rfl : k = xs.length := by omega
            have HRW := hid hrow
            clear hrow
            go_wp2
            go_ret
            exact ⟨ret_bool (by rw [HE.out, HA.out]), hbel⟩
    · have h2 : belowB xs xs.length = false := by simpa using h2
      have HF : Hid (permB' xs = false) := by show permB' xs = _; simp [permB', h1, h2]
      clear h
      go_enter Try.func168, Try.ntmps168
      go_wp2_with (first | (go_at_call 165; refine (isItemCount_any _ _).mono ?_; rintro e w' ⟨rfl, rfl⟩) | (go_at_call 126; refine (areBelow_any _ _ _ _ H.out).mono ?_; rintro e w' ⟨rfl, rfl⟩))
      go_ret
      exact ⟨ret_bool HF.out.symm, Below.refl _ _⟩
  · have h1 : inB (xs.length : Int) 0 12 = false := by simpa using h1
    have HF : Hid (permB' xs = false) := by show permB' xs = _; simp [permB', h1]
    clear h
    go_enter Try.func168, Try.ntmps168
    go_wp2_with (first | (go_at_call 165; refine (isItemCount_any _ _).mono ?_; rintro e w' ⟨rfl, rfl⟩))
    go_ret
    exact ⟨ret_bool HF.out.symm, Below.refl _ _⟩
end Go.Proofs.Yteimfdpkodcfbaa

/- Contracts: raUpTo, slices.Delete at one element, takeOut. Conditions: the slices read as lists of at most 2^20 numbers; indexes lie within. -/
namespace Go.Proofs.Yteimfdpkodcfbaa
open Go.RowKit
set_option linter.unusedVariables false

theorem one_cell (k : IntKind) (x : Int) : ∀ u ∈ [Value.int k x], u.oneCell' = true := by
  intro u hu
  simp at hu
  subst hu
  rfl
theorem Own_cells {w : World} {lo g n c : Nat} {xs : List Int} (h : Own w lo (.slice (some ⟨g, 0, none⟩) n c) xs) :
    n = xs.length ∧ xs.length ≤ c ∧ c ≤ 9223372036854775807 ∧ g < w.heap.size ∧ lo ≤ g ∧ (∀ i (hi : i < xs.length), w.cell? ⟨g, i, none⟩ = some (.int .i64 xs[i])) ∧ ∀ i, w.frozen? ⟨g, i, none⟩ = false := by
  have hn := h.len
  rcases h.form with ⟨h1, h2⟩ | ⟨g', cap, e, hlo, hlt, h1, h2, hc, hf⟩
  · simp at h1
  · simp only [Value.slice.injEq, Option.some.injEq, Addr.mk.injEq, and_true] at e
    obtain ⟨rfl, _, rfl⟩ := e
    unfold maxLen at h2
    exact ⟨hn, h1, by omega, hlt, hlo, fun i hi => by
      have := hc i hi
      rw [Nat.zero_add, getD_at hi] at this
      exact this, hf⟩

end Go.Proofs.Yteimfdpkodcfbaa

/- Contract: raWithout. Conditions: the slice is not nil and reads as a list of at most 2^20 numbers; the index lies within. -/
namespace Go.Proofs.Yteimfdpkodcfbaa
open Go.RowKit
set_option linter.unusedVariables false

/-- The law on append to an owned slice, as a step of a region that draws its order. -/
theorem step_append_any {P : Program} (w : World) {ops : Array Oper} {o : Oper} {a : Act} {K : Act → World → Prop} {Q : Exit → Act → World → Prop} {E : Prop} (hgd : o.guard = none) (s x : Operand) (t : TypeId)
    (ho : o.op = .call { callee := .builtin .append, args := #[s, x], argTypes := #[t, t] }) (base : Nat) (e : TypeId) (i : TypeInfo) (z : Value) (size bytes : Nat) (ht : P.underlying t = some (.slice e))
    (hi : P.info? e = some i) (hz : i.zero = some z) (hsize : i.size = size) (hby : i.bytes = bytes) (hzs : z.cells.size = size) (hsz : 0 < size) (v : Value) (n : Nat) (xs : List Value) (hs : a.eval s = v)
    (hown : w.ownsRow base e size v n xs) (ad : Addr) (m c : Nat) (news : List Value) (hx : a.eval x = .slice (some ad) m c) (hl : news.length = m * size)
    (hnews : ∀ (j : Nat) (u : Value), news[j]? = some u → w.cell? (ad.add j) = some u) (h1 : ∀ (u : Value), u ∈ news → u.oneCell' = true) (h63 : n + m ≤ maxLen) (hbytes : (n + m) * bytes ≤ 140737488355328) (hbase : base ≤ w.heap.size)
    (h : ∀ (v' : Value) (w' : World), w'.ownsRow base e size v' (n + m) (xs ++ news) → w.grownBy w' v.ownBlock → (v' = .slice none 0 0 ↔ v = .slice none 0 0 ∧ m = 0) → K (a.put o.dst v') w') :
    if Region.wanted o (yielded ops a.tmps) = true then Oper.wp P o a w K Q else E := by
  rw [if_pos (by simp [Region.wanted, hgd])]
  exact wp_append_own w s x t ho base e i z size bytes ht hi hz hsize hby hzs hsz v n xs hs hown ad m c news hx hl hnews h1 h63 hbytes hbase h

theorem nil_src {w : World} {ad : Addr} : ∀ (j : Nat) (u : Value), ([] : List Value)[j]? = some u → w.cell? (ad.add j) = some u := by
  intro j u hj
  simp at hj
theorem nil_one : ∀ u ∈ ([] : List Value), u.oneCell' = true := by
  intro u hu
  simp at hu
theorem row_cut {w : World} {B k : Nat} {u : Value} {xs : List Int} (h : Own w B u (xs.take k)) (hl : (xs.take k).length = k) : w.ownsRow B 3 1 u k ((xs.take k).map (Value.int .i64)) := by
  have := h.row
  rwa [hl] at this
end Go.Proofs.Yteimfdpkodcfbaa
