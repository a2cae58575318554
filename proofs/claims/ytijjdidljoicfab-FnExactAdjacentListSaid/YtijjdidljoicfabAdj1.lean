/- Facts and contracts (Mem, Math, Nums, ListMath, IntS, Comb1, Apart, PermMath, Comb2, Perm1, Lives, Sits, Take, Ch1), merged. Conditions: as told at each. -/
import Derived.WalkKit
import Derived.Deep.OwnRows
import Derived.Test.YtijjdidljoicfabRows
import Derived.WalkSpells
import Derived.WalkLawsBesides
import Derived.Deep.QuietTactic
import Derived.BigQuiet
import Derived.Laws.AppendOwnNone
import Derived.Deep.RegionWith

/- Small facts on worlds and owned rows of integers, for the walks of this seat. No conditions. -/
namespace Go.Proofs.Ytijjdidljoicfab
set_option linter.unusedVariables false
open Go.RowKit

theorem hid {p : Prop} (h : p) : Hid p := h

/-- A slice of integers that came in: nil, or it leads to a row of cap cells, the numbers zs, of which the first len are its elements. -/
def IsRow (k : IntKind) (w : World) (a : Option Addr) (len cap : Nat) (zs : List Int) : Prop :=
  (a = none ∧ len = 0 ∧ cap = 0 ∧ zs = []) ∨
  ∃ x, a = some x ∧ len ≤ cap ∧ cap ≤ maxLen ∧ zs.length = cap ∧ (∀ i, i < zs.length → w.cell? (x.add i) = some (.int k (zs.getD i 0))) ∧ ∀ n ∈ zs, (Lit.int k n).wf = true

/-- v is a slice of ints that reads as xs: nil and empty, or the head of a whole unfrozen row from block base on. -/
def Own (w : World) (base : Nat) (v : Value) (xs : List Int) : Prop :=
  w.ownsRow base 3 1 v xs.length (xs.map (Value.int .i64))

theorem Own.of_below {w w' : World} {B base : Nat} {v : Value} {xs : List Int} (h : Own w base v xs) (hb : Below B w w') (hB : ∀ k, v.ownBlock = some k → k < B) : Own w' base v xs := by
  refine ⟨h.1, ?_⟩
  rcases h.2 with hn | ⟨g, cap, cur, rfl, hg, hgg, rest⟩
  · exact .inl hn
  · refine .inr ⟨g, cap, cur, rfl, hg, ?_, rest⟩
    rw [hb.block g (hB g rfl)]; exact hgg

theorem Own.below {w w' : World} {base : Nat} {v : Value} {xs : List Int} (h : Own w base v xs) (hb : Below w.heap.size w w') : Own w' base v xs :=
  h.of_below hb fun k hk => (World.ownsRow.lt h k hk).2

theorem Own.mono {w : World} {base base' : Nat} {v : Value} {xs : List Int} (h : Own w base v xs) (hb : base' ≤ base) : Own w base' v xs := by
  refine ⟨h.1, ?_⟩
  rcases h.2 with hn | ⟨g, cap, cur, rfl, hg, rest⟩
  · exact .inl hn
  · exact .inr ⟨g, cap, cur, rfl, Nat.le_trans hb hg, rest⟩

theorem Own.form {w : World} {base : Nat} {v : Value} {xs : List Int} (h : Own w base v xs) :
    (v = .slice none 0 0 ∧ xs = []) ∨ ∃ g cap, v = .slice (some ⟨g, 0, none⟩) xs.length cap ∧ base ≤ g ∧ g < w.heap.size ∧ xs.length ≤ cap ∧ cap ≤ maxLen ∧
      (∀ i, i < xs.length → w.cell? ⟨g, 0 + i, none⟩ = some (.int .i64 (xs.getD i 0))) ∧ (∀ i, w.frozen? ⟨g, i, none⟩ = false) := by
  have h' := h
  rcases h.2 with ⟨rfl, hn⟩ | ⟨g, cap, cur, rfl, hg, hgg, h1, h2, h3, h4⟩
  · exact .inl ⟨rfl, List.eq_nil_of_length_eq_zero hn⟩
  · refine .inr ⟨g, cap, rfl, hg, (Array.getElem?_eq_some_iff.1 hgg).1, h1, h2, fun i hi => ?_, fun i => World.ownsRow.frozenAt h' i⟩
    have := World.ownsRow.cellAt h' i (by simpa using hi)
    rw [Nat.zero_add, this]
    simp [List.getElem?_map, List.getElem?_eq_getElem hi, List.getD_eq_getElem?_getD]

/-- v is a slice of ints that reads as xs. -/
def Reads (w : World) (v : Value) (xs : List Int) : Prop :=
  ∃ ao c, v = .slice ao xs.length c ∧ xs.length ≤ c ∧ c ≤ maxLen ∧
    (xs = [] ∨ ∃ b off, ao = some ⟨b, off, none⟩ ∧ b < w.heap.size ∧ ∀ i, i < xs.length → w.cell? ⟨b, off + i, none⟩ = some (.int .i64 (xs.getD i 0)))

theorem Reads.below {w w' : World} {v : Value} {xs : List Int} (h : Reads w v xs) (hb : Below w.heap.size w w') : Reads w' v xs := by
  obtain ⟨ao, c, rfl, h1, h2, h3⟩ := h
  refine ⟨ao, c, rfl, h1, h2, ?_⟩
  rcases h3 with h3 | ⟨b, off, rfl, hlt, hc⟩
  · exact .inl h3
  · exact .inr ⟨b, off, rfl, Nat.lt_of_lt_of_le hlt hb.size, fun i hi => (hb.cell (by exact hlt)).trans (hc i hi)⟩

theorem Own.reads {w : World} {base : Nat} {v : Value} {xs : List Int} (h : Own w base v xs) : Reads w v xs := by
  rcases h.form with ⟨rfl, rfl⟩ | ⟨g, cap, rfl, _, hlt, h1, h2, hc, _⟩
  · exact ⟨none, 0, rfl, Nat.le_refl _, by unfold maxLen; omega, .inl rfl⟩
  · exact ⟨_, cap, rfl, h1, h2, .inr ⟨g, 0, rfl, hlt, hc⟩⟩

theorem IsRow.reads {w : World} {a : Option Addr} {len cap : Nat} {zs : List Int} (h : IsRow .i64 w a len cap zs) : Reads w (.slice a len cap) (zs.take len) ∧ (zs.take len).length = len := by
  rcases h with ⟨rfl, rfl, rfl, rfl⟩ | ⟨x, rfl, hl, hm, hz, hcell, hwz⟩
  · exact ⟨⟨none, 0, rfl, Nat.le_refl _, by unfold maxLen; omega, .inl rfl⟩, rfl⟩
  · have hlen : (zs.take len).length = len := by simp; omega
    refine ⟨⟨some x, cap, by rw [hlen], by omega, hm, ?_⟩, hlen⟩
    by_cases h0 : len = 0
    · exact .inl (by simp [h0])
    · have hc := hcell 0 (by omega)
      obtain ⟨b, off, spot⟩ := x
      have hspot : spot = none := by simpa [Addr.add] using World.cell?_spot hc
      subst hspot
      have hlt : b < w.heap.size := World.block_lt_of_cell? w _ hc
      refine .inr ⟨b, off, rfl, hlt, fun i hi => ?_⟩
      have := hcell i (by omega)
      have e : (⟨b, off, none⟩ : Addr).add i = ⟨b, off + i, none⟩ := by
        by_cases h : i = 0 <;> simp [Addr.add, h]
      rw [← e, this]
      have hi' : i < len := by omega
      simp [List.getD_eq_getElem?_getD, hi']

theorem IsRow.below {k : IntKind} {w w' : World} {a : Option Addr} {len cap : Nat} {zs : List Int} (h : IsRow k w a len cap zs) (hb : Below w.heap.size w w') : IsRow k w' a len cap zs := by
  rcases h with h | ⟨x, rfl, hl, hm, hz, hcell, hwz⟩
  · exact .inl h
  · refine .inr ⟨x, rfl, hl, hm, hz, fun i hi => ?_, hwz⟩
    have := hcell i hi
    exact (hb.cell (World.block_lt_of_cell? w _ this)).trans this

theorem IsRow.wf {k : IntKind} {w : World} {a : Option Addr} {len cap : Nat} {zs : List Int} (h : IsRow k w a len cap zs) : ∀ n ∈ zs.take len, (Lit.int k n).wf = true := by
  rcases h with ⟨rfl, rfl, rfl, rfl⟩ | ⟨x, rfl, hl, hm, hz, hcell, hwz⟩
  · simp
  · exact fun n hn => hwz n (List.mem_of_mem_take hn)

theorem Own.of_rowIs {w : World} {g n : Nat} {xs : List Int} (h : w.rowIs g 3 n (fun i => .int .i64 (xs.getD i 0))) (hx : xs.length = n) (hm : n ≤ maxLen) : Own w g (.slice (some ⟨g, 0, none⟩) n n) xs := by
  obtain ⟨c, hc, hs, hf⟩ := h
  refine ⟨by simp [hx], .inr ⟨g, n, c, by rw [hx], Nat.le_refl _, hc, by omega, hm, by omega, ?_⟩⟩
  apply List.ext_getElem?
  intro i
  by_cases hi : i < n
  · have := hf i hi
    simp [hx, hi, List.getD_eq_getElem?_getD] at this ⊢
    exact this
  · rw [List.getElem?_eq_none (by simp; omega), List.getElem?_eq_none (by simp; omega)]

theorem Below_chain {w w1 w2 : World} (h : Below w.heap.size w w1) (h' : Below w1.heap.size w1 w2) : Below w.heap.size w w2 := h.trans (h'.mono h.size)

theorem grownBy_trans {w w1 w2 : World} {r : Option Nat} (h : w.grownBy w1 r) (h' : w1.grownBy w2 r) : w.grownBy w2 r :=
  ⟨h'.os.trans h.os, h'.tape.trans h.tape, h'.output.trans h.output, Nat.le_trans h.size h'.size,
    fun k hk hn => (h'.block k (Nat.lt_of_lt_of_le hk h.size) hn).trans (h.block k hk hn)⟩

/-- A store into an owned row. -/
theorem Own.set {w : World} {base g cap : Nat} {xs : List Int} (h : Own w base (.slice (some ⟨g, 0, none⟩) xs.length cap) xs) (j : Nat) (u : Int) :
    Own (w.setCell ⟨g, j, none⟩ (.int .i64 u)) base (.slice (some ⟨g, 0, none⟩) xs.length cap) (xs.set j u) ∧ w.grownBy (w.setCell ⟨g, j, none⟩ (.int .i64 u)) (some g) := by
  obtain ⟨h1, h2⟩ := World.ownsRow.stored h j (.int .i64 u)
  refine ⟨?_, h2⟩
  unfold Own
  rw [List.length_set, List.map_set]
  exact h1

/-- What is owned elsewhere stays owned. -/
theorem Own.kept {w w' : World} {base : Nat} {v : Value} {xs : List Int} {row : Option Nat} (h : Own w base v xs) (hg : w.grownBy w' row) (hne : v.ownBlock = none ∨ v.ownBlock ≠ row) : Own w' base v xs :=
  World.ownsRow.kept h hg hne
end Go.Proofs.Ytijjdidljoicfab

/- Plain facts on factorials and binomial numbers up to 12. No conditions beyond those bounds. -/
namespace Go.Proofs.Ytijjdidljoicfab
set_option linter.unusedVariables false

def fact : Nat → Nat
  | 0 => 1
  | n + 1 => (n + 1) * fact n

def binom : Nat → Nat → Nat
  | _, 0 => 1
  | 0, _ + 1 => 0
  | n + 1, k + 1 => binom n (k + 1) + binom n k

theorem cast_mul_le {a b c : Nat} (h : a * b ≤ c) : (a : Int) * (b : Int) ≤ (c : Int) := by
  have h2 := Int.ofNat_le.2 h
  rwa [Int.natCast_mul] at h2
theorem fact_le : ∀ n, n < 13 → fact n ≤ 479001600 := by decide
theorem fact_pos : ∀ n, n < 13 → 1 ≤ fact n := by decide
theorem binom_le : ∀ n, n < 13 → ∀ k, k < 13 → binom n k ≤ 924 := by decide
theorem binom_step : ∀ n, n < 13 → ∀ i, i < n → binom n i * (n - i) / (i + 1) = binom n (i + 1) := by decide
theorem binom_mul : ∀ n, n < 13 → ∀ i, i < n → binom n i * (n - i) ≤ 12 * 924 := by decide
theorem binom_zero : ∀ n, n < 13 → ∀ k, k < 13 → n < k → binom n k = 0 := by decide
end Go.Proofs.Ytijjdidljoicfab

/- Contracts of the small functions on numbers: l1In, raItems, isItemCount, raFactorial, factorial, raBinomial, choose. Conditions: the stated ranges of the arguments. -/
namespace Go.Proofs.Ytijjdidljoicfab
set_option linter.unusedVariables false
open Go.RowKit

theorem ret_int {k : IntKind} {a b : Int} (h : a = b) : Ending.returned (.int k a) = .returned (.int k b) := by rw [h]

theorem ret_bool {a b : Bool} (h : a = b) : Ending.returned (.bool a) = .returned (.bool b) := by rw [h]

/-- lo ≤ n and n ≤ hi -/
def inB (n lo hi : Int) : Bool := decide (lo ≤ n) && decide (n ≤ hi)

theorem l1In_any (n lo hi : Int) (w : World) : Calls Try.prog 48 #[.int .i64 n, .int .i64 lo, .int .i64 hi] w fun e w' => e = .returned (.bool (inB n lo hi)) ∧ w = w' := by
  by_cases h1 : lo ≤ n
  · by_cases h2 : n ≤ hi
    all_goals
      go_enter Try.func48, Try.ntmps48
      go_wp2
      go_ret
      exact ⟨by simp [inB]; omega, rfl⟩
  · go_enter Try.func48, Try.ntmps48
    go_wp2
    go_ret
    exact ⟨by simp [inB]; omega, rfl⟩
theorem raItems_any (n : Int) (w : World) : Calls Try.prog 68 #[.int .i64 n] w fun e w' => e = .returned (.bool (inB n 0 12)) ∧ w = w' := by
  go_enter Try.func68, Try.ntmps68
  go_wp2_with (go_at_call 48; refine (l1In_any _ _ _ _).mono ?_; rintro e w' ⟨rfl, rfl⟩)
  go_ret
  exact ⟨rfl, rfl⟩
theorem isItemCount_any (n : Int) (w : World) : Calls Try.prog 72 #[.int .i64 n] w fun e w' => e = .returned (.bool (inB n 0 12)) ∧ w = w' := by
  by_cases h1 : 0 ≤ n
  · by_cases h2 : n ≤ 12
    all_goals
      go_enter Try.func72, Try.ntmps72
      go_wp2
      go_ret
      exact ⟨by simp [inB]; omega, rfl⟩
  · go_enter Try.func72, Try.ntmps72
    go_wp2
    go_ret
    exact ⟨by simp [inB]; omega, rfl⟩
theorem raBinomial_any (n : Nat) : ∀ (k : Nat) (w : World), n < 13 → k < 13 → Calls Try.prog 84 #[.int .i64 (n : Int), .int .i64 (k : Int)] w fun e w' => e = .returned (.int .i64 (binom n k)) ∧ w = w' := by
  induction n with
  | zero =>
    intro k w _ hk
    cases k with
    | zero =>
      go_enter Try.func84, Try.ntmps84
      go_wp2_with fail
      go_ret
      exact ⟨rfl, rfl⟩
    | succ k =>
      have h0 : ((k : Int) + 1 == 0) = false := by simp; omega
      go_enter Try.func84, Try.ntmps84
      go_wp2_with fail
      go_ret
      exact ⟨rfl, rfl⟩
  | succ n ih =>
    intro k w hn hk
    have h1 : ((n : Int) + 1 == 0) = false := by simp; omega
    cases k with
    | zero =>
      go_enter Try.func84, Try.ntmps84
      go_wp2_with fail
      go_ret
      exact ⟨by simp [binom], rfl⟩
    | succ k =>
      have h0 : ((k : Int) + 1 == 0) = false := by simp; omega
      have b1 := binom_le n (by omega) (k + 1) hk
      have b2 := binom_le n (by omega) k (by omega)
      go_enter Try.func84, Try.ntmps84
      go_wp2_with fail
      refine (ih (k + 1) _ (by omega) (by omega)).mono ?_
      rintro e w' ⟨rfl, rfl⟩
      go_wp2_with fail
      refine (ih k _ (by omega) (by omega)).mono ?_
      rintro e w' ⟨rfl, rfl⟩
      go_wp2_with fail
      go_ret
      exact ⟨ret_int (by simp [binom]), rfl⟩
/-- the number of combinations, 0 where k is negative or greater than n -/
def chooseZ (n k : Int) : Nat := if k < 0 ∨ n < k then 0 else binom n.toNat k.toNat
theorem chooseZ_nat (n k : Nat) (hn : n < 13) (hk : k < 13) : chooseZ n k = binom n k := by
  unfold chooseZ
  by_cases h : n < k
  · rw [if_pos (by omega), binom_zero n hn k hk h]
  · rw [if_neg (by omega)]; simp
theorem choose_any (n k : Int) (w : World) (hn0 : -1 ≤ n) (hn : n < 13) : Calls Try.prog 37 #[.int .i64 n, .int .i64 k] w fun e w' => e = .returned (.int .i64 (chooseZ n k)) ∧ w = w' := by
  by_cases h : k < 0 ∨ n < k
  · by_cases h1 : k < 0
    · go_enter Try.func37, Try.ntmps37
      go_wp2
      go_ret
      exact ⟨ret_int (by unfold chooseZ; rw [if_pos (by omega)]; rfl), rfl⟩
    · have h2 : n < k := h.resolve_left h1
      go_enter Try.func37, Try.ntmps37
      go_wp2
      go_ret
      exact ⟨ret_int (by unfold chooseZ; rw [if_pos (by omega)]; rfl), rfl⟩
  · obtain ⟨k, rfl⟩ := Int.eq_ofNat_of_zero_le (show 0 ≤ k by omega)
    obtain ⟨n, rfl⟩ := Int.eq_ofNat_of_zero_le (show 0 ≤ n by omega)
    have h1 : ¬ ((n : Int) < k) := by omega
    go_enter Try.func37, Try.ntmps37
    go_wp2
    go_loop [5, 6, 15] (fun c _ i => ∃ j : Nat, j ≤ k ∧ i = .int .i64 (j : Int) ∧ c = .int .i64 (binom n j)) (fun _ _ i => 14 - (intOf i).toNat)
    case atStart => exact ⟨0, by omega, rfl, by simp [binom]⟩
    case round =>
      obtain ⟨j, hj, rfl, rfl⟩ := hrel
      by_cases hlt : j < k
      · have b1 := binom_le n (by omega) j (by omega)
        have b3 := binom_step n (by omega) j (by omega)
        have b2 := binom_mul n (by omega) j (by omega)
        have hm : (binom n j : Int) * ((n : Int) - (j : Int)) ≤ 12 * 924 := by
          have e : ((n : Int) - (j : Int)) = ((n - j : Nat) : Int) := by omega
          rw [e]
          exact cast_mul_le b2
        have hm0 : 0 ≤ (binom n j : Int) * ((n : Int) - (j : Int)) := Int.mul_nonneg (by omega) (by omega)
        have H3 : Hid (binom n j * (n - j) / (j + 1) = binom n (j + 1)) := b3
        clear b3 b2
        go_wp2
        go_round
        case rel => exact ⟨j + 1, by omega, by go_num, by
          have e : ((n : Int) - (j : Int)) = ((n - j : Nat) : Int) := by omega
          rw [← H3.out, e]; simp⟩
        case measure => simp [intOf]; omega
      · obtain rfl : j = k := by omega
        go_wp2
        go_ret
        exact ⟨ret_int (by unfold chooseZ; rw [if_neg (by omega)]; simp), rfl⟩
end Go.Proofs.Ytijjdidljoicfab

/- Plain facts on lists of numbers: checks of all indices, last indices, combinations, permutations. No conditions beyond the stated ones. -/
namespace Go.Proofs.Ytijjdidljoicfab
set_option linter.unusedVariables false

/-- f holds at all indices below n -/
def allTo (n : Nat) (f : Nat → Bool) : Bool := (List.range n).all f
theorem allTo_zero (f : Nat → Bool) : allTo 0 f = true := rfl
theorem allTo_succ (n : Nat) (f : Nat → Bool) : allTo (n + 1) f = (allTo n f && f n) := by simp [allTo, List.range_succ]
theorem allTo_iff (n : Nat) (f : Nat → Bool) : allTo n f = true ↔ ∀ i, i < n → f i = true := by simp [allTo]
theorem allTo_no {n k : Nat} {f : Nat → Bool} (h : k < n) (hf : f k = false) : allTo n f = false := by
  cases e : allTo n f with
  | false => rfl
  | true => rw [(allTo_iff n f).1 e k h] at hf; cases hf
theorem allTo_next {k : Nat} {f : Nat → Bool} (h : allTo k f = true) (hf : f k = true) : allTo (k + 1) f = true := by rw [allTo_succ, h, hf]; rfl

/-- the last index below n at which f holds, or -1 -/
def lastIx (f : Nat → Bool) : Nat → Int
  | 0 => -1
  | n + 1 => if f n then (n : Int) else lastIx f n
theorem lastIx_yes {f : Nat → Bool} {n : Nat} (h : f n = true) : lastIx f (n + 1) = n := by rw [lastIx, if_pos h]
theorem lastIx_no {f : Nat → Bool} {n : Nat} (h : f n = false) : lastIx f (n + 1) = lastIx f n := by rw [lastIx, if_neg (by rw [h]; simp)]
theorem lastIx_ge (f : Nat → Bool) (n : Nat) : -1 ≤ lastIx f n := by
  induction n with
  | zero => exact Int.le_refl _
  | succ n ih => rw [lastIx]; split <;> omega
theorem lastIx_lt (f : Nat → Bool) (n : Nat) : lastIx f n < n := by
  induction n with
  | zero => rw [lastIx]; omega
  | succ n ih => rw [lastIx]; split <;> omega
theorem lastIx_neg (f : Nat → Bool) (n : Nat) : lastIx f n < 0 ↔ ∀ i, i < n → f i = false := by
  induction n with
  | zero => simp [lastIx]
  | succ n ih =>
    rw [lastIx]
    cases e : f n with
    | true =>
      simp only [if_true]
      exact ⟨fun h => by omega, fun h => by rw [h n (by omega)] at e; cases e⟩
    | false =>
      simp only [Bool.false_eq_true, if_false]
      rw [ih]
      exact ⟨fun h i hi => by
        by_cases hn : i = n
        · rw [hn]; exact e
        · exact h i (by omega), fun h i hi => h i (by omega)⟩

/-- one step of the spec's check that a list rises within bounds -/
def riseAt (xs : List Int) (lo hi : Int) (i : Nat) : Bool := inB (xs.getD i 0) lo hi && (i == 0 || decide (xs.getD (i - 1) 0 < xs.getD i 0))
def risingB (xs : List Int) (lo hi : Int) : Bool := allTo xs.length (riseAt xs lo hi)
def belowB (xs : List Int) (n : Int) : Bool := allTo xs.length (fun i => inB (xs.getD i 0) 0 (n - 1))
/-- xs is a combination of n -/
def combB (n : Int) (xs : List Int) : Bool := inB n 0 12 && decide ((xs.length : Int) ≤ n) && risingB xs 0 (n - 1)
def atLeastAt (xs : List Int) (i : Nat) : Bool := decide (xs.getD (i + 1) 0 ≤ xs.getD i 0)
def lessAt (xs : List Int) (i : Nat) : Bool := decide (xs.getD i 0 < xs.getD (i + 1) 0)
def combB' (n : Int) (xs : List Int) : Bool := inB n 0 12 && belowB xs n && decide (lastIx (atLeastAt xs) (xs.length - 1) < 0)

theorem inB_iff {n lo hi : Int} : inB n lo hi = true ↔ lo ≤ n ∧ n ≤ hi := by simp [inB]

theorem rise_low {xs : List Int} {lo hi : Int} (h : risingB xs lo hi = true) : ∀ i, i < xs.length → lo + i ≤ xs.getD i 0 := by
  unfold risingB at h
  rw [allTo_iff] at h
  intro i
  induction i with
  | zero =>
    intro hi
    have := h 0 hi
    simp only [riseAt, Bool.and_eq_true, inB_iff] at this
    omega
  | succ i ih =>
    intro hi
    have h1 := ih (by omega)
    have := h (i + 1) hi
    simp only [riseAt, Bool.and_eq_true, inB_iff, Bool.or_eq_true, beq_iff_eq, decide_eq_true_eq, Nat.add_sub_cancel] at this
    omega

theorem combB_eq (n : Int) (xs : List Int) : combB' n xs = combB n xs := by
  rw [Bool.eq_iff_iff]
  simp only [combB, combB', Bool.and_eq_true, decide_eq_true_eq, lastIx_neg]
  constructor
  · rintro ⟨⟨h1, h2⟩, h3⟩
    have hr : risingB xs 0 (n - 1) = true := by
      unfold risingB
      rw [allTo_iff]
      intro i hi
      unfold belowB at h2
      have h2' := (allTo_iff _ _).1 h2 i hi
      simp only [riseAt, Bool.and_eq_true, Bool.or_eq_true, beq_iff_eq, decide_eq_true_eq]
      refine ⟨h2', ?_⟩
      by_cases h0 : i = 0
      · exact .inl h0
      · right
        have := h3 (i - 1) (by omega)
        simp only [atLeastAt, decide_eq_false_iff_not, show i - 1 + 1 = i by omega] at this
        omega
    refine ⟨⟨h1, ?_⟩, hr⟩
    by_cases h0 : xs.length = 0
    · rw [inB_iff] at h1; omega
    · have := rise_low hr (xs.length - 1) (by omega)
      unfold risingB at hr
      have h4 := (allTo_iff _ _).1 hr (xs.length - 1) (by omega)
      simp only [riseAt, Bool.and_eq_true, inB_iff] at h4
      omega
  · rintro ⟨⟨h1, h2⟩, h3⟩
    unfold risingB at h3
    rw [allTo_iff] at h3
    refine ⟨⟨h1, ?_⟩, ?_⟩
    · unfold belowB
      rw [allTo_iff]
      intro i hi
      have := h3 i hi
      simp only [riseAt, Bool.and_eq_true] at this
      exact this.1
    · intro i hi
      have := h3 (i + 1) (by omega)
      simp only [riseAt, Bool.and_eq_true, Bool.or_eq_true, beq_iff_eq, decide_eq_true_eq, Nat.add_sub_cancel] at this
      simp only [atLeastAt, decide_eq_false_iff_not]
      omega
end Go.Proofs.Ytijjdidljoicfab

/- Contracts of the laws' helpers on slices of ints: toIntS copies, eqIntS compares, markIntS writes k, k + 1, .., heldIntS reads them again. Conditions: the slices read as lists; lengths at most 2^20 where the text adds to a mark. -/

namespace Go.Proofs.Ytijjdidljoicfab
set_option linter.unusedVariables false
open Go.RowKit

theorem Try.info3 : (Try.prog.info? 3).map (fun i => (i.zero, i.size, i.bytes)) = some (some (.int .i64 0), 1, 8) := by kernel_rfl

theorem run_make_ints (n : Nat) (hn : n ≤ 1048576) (w : World) : Sem.run Try.prog (Instr.makeSlice 28 (.int .i64 n) (.int .i64 n)) w = .ok (.slice (some ⟨w.heap.size, 0, none⟩) n n) (w.alloc (.cells (madeCells #[.int .i64 0] n) 3)) :=
  run_make_row' 28 3 (.int .i64 0) 8 Try.underlying28 Try.info3 rfl .i64 .i64 n (by omega) (by omega) w

theorem toIntS_any (v : Value) (xs : List Int) (w : World) (h : Reads w v xs) (hl : xs.length ≤ 1048576) :
    Calls Try.prog 15 #[v] w fun e w' => e = .returned (.slice (some ⟨w.heap.size, 0, none⟩) xs.length xs.length) ∧ Own w' w.heap.size (.slice (some ⟨w.heap.size, 0, none⟩) xs.length xs.length) xs ∧ Below w.heap.size w w' := by
  obtain ⟨ao, c, rfl, hc1, hm, h⟩ := h
  unfold maxLen at hm
  have hmk := run_make_ints xs.length hl w
  have hr0 := World.rowIs_made w (.int .i64 0) xs.length 3
  have hB0 : Below w.heap.size w (w.alloc (.cells (madeCells #[.int .i64 0] xs.length) 3)) := (Below.refl _ _).alloc (Nat.le_refl _) _
  rcases h with h | ⟨b, off, rfl, hb, hc⟩
  · have H := hid h
    clear h
    go_enter Try.func15, Try.ntmps15
    go_wp2
    go_loopw [4] (fun i wr => ∃ k : Nat, k ≤ xs.length ∧ i = .int .i64 k ∧ wr.rowIs w.heap.size 3 xs.length (fun j => .int .i64 (if j < k then xs.getD j 0 else 0)) ∧ Below w.heap.size w wr) (fun i _ => xs.length - (intOf i).toNat)
    case atStart => exact ⟨0, Nat.zero_le _, rfl, World.rowIs.congr hr0 (fun i hi => by simp), hB0⟩
    case round =>
      obtain ⟨k, hk, rfl, hrow, hbel⟩ := hrel
      by_cases hlt : k < xs.length
      · exact absurd hlt (by rw [H.out]; simp)
      · have HR := hid hrow
        clear hrow hr0
        go_wp2
        go_ret
        exact ⟨rfl, Own.of_rowIs (HR.out.congr (fun i hi => by rw [if_pos (by omega)])) rfl (by unfold maxLen; omega), hbel⟩
  · obtain ⟨g, hg⟩ : ∃ g, g = w.heap.size := ⟨_, rfl⟩
    have hbg : b ≠ g := by omega
    go_enter Try.func15, Try.ntmps15
    go_wp2
    go_loopw [4] (fun i wr => ∃ k : Nat, k ≤ xs.length ∧ i = .int .i64 k ∧ wr.rowIs w.heap.size 3 xs.length (fun j => .int .i64 (if j < k then xs.getD j 0 else 0)) ∧ Below w.heap.size w wr) (fun i _ => xs.length - (intOf i).toNat)
    case atStart => exact ⟨0, Nat.zero_le _, rfl, World.rowIs.congr hr0 (fun i hi => by simp), hB0⟩
    case round =>
      obtain ⟨k, hk, rfl, hrow, hbel⟩ := hrel
      by_cases hlt : k < xs.length
      · have hcx : wr.cell? ⟨b, off + k, none⟩ = some (.int .i64 (xs.getD k 0)) := (hbel.cell (by exact hb)).trans (hc k hlt)
        have hf := hrow.frozen k
        have hcc := hrow.cell hlt
        have hs := hrow.set k (.int .i64 xs[k])
        have hbl := hbel.setCell (p := ⟨w.heap.size, k, none⟩) (Nat.le_refl _) (.int .i64 xs[k])
        have HS := hid hs
        have HB := hid hbl
        clear hs hbl hrow hbel hc hr0 hB0
        go_wp2
        go_roundw
        case rel => exact ⟨k + 1, by omega, by go_num, HS.out.congr (fun i hi => by
          by_cases h1 : i = k
          · subst h1; simp [hi]
          · rw [if_neg h1]
            by_cases h2 : i < k
            · rw [if_pos h2, if_pos (by omega)]
            · rw [if_neg h2, if_neg (by omega)]), HB.out⟩
        case measure => simp [intOf]; omega
      · have HR := hid hrow
        clear hrow hr0
        go_wp2
        go_ret
        exact ⟨rfl, Own.of_rowIs (HR.out.congr (fun i hi => by rw [if_pos (by omega)])) rfl (by unfold maxLen; omega), hbel⟩

theorem take_succ_eq {xs ys : List Int} {k : Nat} (hx : k < xs.length) (hy : k < ys.length) (h : xs.take k = ys.take k) (e : xs[k] = ys[k]) : xs.take (k + 1) = ys.take (k + 1) := by
  rw [List.take_succ_eq_append_getElem hx, List.take_succ_eq_append_getElem hy, h, e]

theorem eqIntS_any (v u : Value) (xs ys : List Int) (w : World) (h : Reads w v xs) (h' : Reads w u ys) :
    Calls Try.prog 17 #[v, u] w fun e w' => e = .returned (.bool (decide (xs = ys))) ∧ Below w.heap.size w w' := by
  obtain ⟨ao, c, rfl, hc1, hm, h⟩ := h
  obtain ⟨bo, d, rfl, hd1, hn, h'⟩ := h'
  unfold maxLen at hm hn
  by_cases hl : xs.length = ys.length
  · rcases h with h | ⟨b, off, rfl, hb, hc⟩
    · obtain rfl : ys = [] := List.eq_nil_of_length_eq_zero (by rw [← hl, h]; rfl)
      subst h
      go_enter Try.func17, Try.ntmps17
      go_wp2
      refine wp_loop_rounds 1 ?_
      rw [rounds_succ]
      go_wp2
      go_ret
      exact ⟨by simp, Below.refl _ _⟩
    · rcases h' with h' | ⟨b', off', rfl, hb', hc'⟩
      · obtain rfl : xs = [] := List.eq_nil_of_length_eq_zero (by rw [hl, h']; rfl)
        subst h'
        go_enter Try.func17, Try.ntmps17
        go_wp2
        refine wp_loop_rounds 1 ?_
        rw [rounds_succ]
        go_wp2
        go_ret
        exact ⟨by simp, Below.refl _ _⟩
      · have hne : ((xs.length : Int) != (ys.length : Int)) = false := by simp [hl]
        have HL := hid hl
        have hl1 : xs.length ≤ ys.length := by omega
        have hl2 : ys.length ≤ xs.length := by omega
        clear hl
        go_enter Try.func17, Try.ntmps17
        go_wp2
        go_loopw [5] (fun i wr => ∃ k : Nat, k ≤ xs.length ∧ i = .int .i64 k ∧ xs.take k = ys.take k ∧ Below w.heap.size w wr) (fun i _ => xs.length - (intOf i).toNat)
        case atStart => exact ⟨0, Nat.zero_le _, rfl, rfl, Below.refl _ _⟩
        case round =>
          obtain ⟨k, hk, rfl, htake, hbel⟩ := hrel
          have HT := hid htake
          clear htake
          by_cases hlt : k < xs.length
          · have hlt' : k < ys.length := by omega
            have hcx : wr.cell? ⟨b, off + k, none⟩ = some (.int .i64 xs[k]) := by
              have := (hbel.cell (p := ⟨b, off + k, none⟩) (by exact hb)).trans (hc k hlt)
              simpa [List.getD_eq_getElem?_getD, hlt] using this
            have hcy : wr.cell? ⟨b', off' + k, none⟩ = some (.int .i64 ys[k]) := by
              have := (hbel.cell (p := ⟨b', off' + k, none⟩) (by exact hb')).trans (hc' k hlt')
              simpa [List.getD_eq_getElem?_getD, hlt'] using this
            have hk0 : (0 : Int) ≤ (k : Int) := by omega
            have hk1 : (k : Int) < (xs.length : Int) := by omega
            have hk2 : (k : Int) < (ys.length : Int) := by omega
            clear hc hc'
            by_cases he : xs[k] = ys[k]
            · have hbb : (xs[k] != ys[k]) = false := by simp [he]
              have HE := hid he
              clear he
              go_wp2
              go_quiet (fail)
              go_wp2
              go_roundw
              case rel => exact ⟨k + 1, by omega, by go_num, take_succ_eq hlt hlt' HT.out HE.out, below_drewN hbel _⟩
              case measure => simp [intOf]; omega
            · have hbb : (xs[k] != ys[k]) = true := by simp [he]
              have hfin : decide (xs = ys) = false := by
                apply decide_eq_false
                intro e
                subst e
                exact he rfl
              clear he
              have HF := hid hfin
              clear hfin
              go_wp2
              go_quiet (fail)
              go_wp2
              go_ret
              exact ⟨ret_bool HF.out.symm, below_drewN hbel _⟩
          · go_wp2
            go_ret
            exact ⟨by
              have e : xs = ys := by
                have := HT.out
                rwa [List.take_of_length_le (by omega), List.take_of_length_le (by omega)] at this
              simp [e], hbel⟩
  · have hne : ((xs.length : Int) != (ys.length : Int)) = true := by simp; omega
    have hfin : decide (xs = ys) = false := decide_eq_false (fun e => hl (by rw [e]))
    have HF := hid hfin
    clear h h' hl hfin
    go_enter Try.func17, Try.ntmps17
    go_wp2
    go_ret
    exact ⟨ret_bool HF.out.symm, Below.refl _ _⟩

/-- the marks k, k + 1, .. in n cells -/
def marks (k : Int) (n : Nat) : List Int := (List.range n).map (fun i : Nat => k + (i : Int))
theorem marks_length (k : Int) (n : Nat) : (marks k n).length = n := by simp [marks]
theorem marks_getD (k : Int) (n i : Nat) (h : i < n) : (marks k n).getD i 0 = k + i := by simp [marks, h]

theorem heldIntS_any (v : Value) (xs : List Int) (m : Int) (w : World) (h : Reads w v xs) (hx : xs = marks m xs.length) (h0 : 0 ≤ m) (h1 : m ≤ 1099511627776) (hl : xs.length ≤ 1099511627776) :
    Calls Try.prog 39 #[v, .int .i64 m] w fun e w' => e = .returned (.int .i64 (m + xs.length)) ∧ w = w' := by
  obtain ⟨ao, c, rfl, hc1, hm, h⟩ := h
  unfold maxLen at hm
  rcases h with h | ⟨b, off, rfl, hb, hc⟩
  · subst h
    go_enter Try.func39, Try.ntmps39
    go_wp2
    refine wp_loop_rounds 1 ?_
    rw [rounds_succ]
    go_wp2
    go_ret
    exact ⟨ret_int (by simp), rfl⟩
  · have HX := hid hx
    clear hx
    go_enter Try.func39, Try.ntmps39
    go_wp2
    go_loop [1, 5] (fun a i => ∃ k : Nat, k ≤ xs.length ∧ i = .int .i64 k ∧ a = .int .i64 (m + k)) (fun _ i => xs.length - (intOf i).toNat)
    case atStart => exact ⟨0, Nat.zero_le _, rfl, by simp⟩
    case round =>
      obtain ⟨k, hk, rfl, rfl⟩ := hrel
      by_cases hlt : k < xs.length
      · have hcx : w.cell? ⟨b, off + k, none⟩ = some (.int .i64 (m + k)) := by
          have := hc k hlt
          rw [this, HX.out, marks_getD _ _ _ hlt]
        have hbb : ((m + (k : Int)) != (m + (k : Int))) = false := by simp
        clear hc
        go_wp2
        go_round
        case rel => exact ⟨k + 1, by omega, by go_num, by go_num⟩
        case measure => simp [intOf]; omega
      · obtain rfl : k = xs.length := by omega
        go_wp2
        go_ret
        exact ⟨rfl, rfl⟩

theorem marks_set (m : Int) (xs : List Int) (k : Nat) (h : k < xs.length) : (marks m k ++ xs.drop k).set k (m + k) = marks m (k + 1) ++ xs.drop (k + 1) := by
  have hl := marks_length m k
  rw [List.set_append_right _ _ (by omega), hl, Nat.sub_self, List.drop_eq_getElem_cons h, List.set_cons_zero]
  simp [marks, List.range_succ]

theorem markIntS_any (v : Value) (xs : List Int) (base : Nat) (m : Int) (w : World) (h : Own w base v xs) (h0 : 0 ≤ m) (h1 : m ≤ 1099511627776) (hl : xs.length ≤ 1099511627776) :
    Calls Try.prog 38 #[v, .int .i64 m] w fun e w' => e = .returned (.int .i64 (m + xs.length)) ∧ Own w' base v (marks m xs.length) ∧ w.grownBy w' v.ownBlock := by
  rcases h.form with ⟨rfl, rfl⟩ | ⟨g, cap, rfl, hg, hlt, hc1, hm, hc, hf⟩
  · go_enter Try.func38, Try.ntmps38
    go_wp2
    refine wp_loop_rounds 1 ?_
    rw [rounds_succ]
    go_wp2
    go_ret
    exact ⟨ret_int (by simp), h, World.grownBy.refl _ _⟩
  · unfold maxLen at hm
    have H := hid h
    clear h hc hf
    go_enter Try.func38, Try.ntmps38
    go_wp2
    go_loopw [1, 5] (fun a i wr => ∃ k : Nat, k ≤ xs.length ∧ i = .int .i64 k ∧ a = .int .i64 (m + k) ∧ Own wr base (.slice (some ⟨g, 0, none⟩) xs.length cap) (marks m k ++ xs.drop k) ∧ w.grownBy wr (some g)) (fun _ i _ => xs.length - (intOf i).toNat)
    case atStart => exact ⟨0, Nat.zero_le _, rfl, by simp, by simpa [marks] using H.out, World.grownBy.refl _ _⟩
    case round =>
      obtain ⟨k, hk, rfl, rfl, hown, hgr⟩ := hrel
      have hlen : (marks m k ++ xs.drop k).length = xs.length := by simp [marks_length]; omega
      by_cases hlt : k < xs.length
      · have hs := Own.set (by rw [hlen]; exact hown) k (m + k)
        rw [hlen, marks_set m xs k hlt] at hs
        rcases hown.form with ⟨h1, h2⟩ | ⟨g', cap', e, hg', hlt', hc1', hm', hc', hf'⟩
        · simp at h1
        · simp only [Value.slice.injEq, Option.some.injEq, Addr.mk.injEq, and_true] at e
          obtain ⟨rfl, el, rfl⟩ := e
          clear el
          have hcx := hc' k (by omega)
          have hfx := hf' k
          rw [Nat.zero_add] at hcx
          obtain ⟨z, hz⟩ : ∃ z, wr.cell? ⟨g, k, none⟩ = some z := ⟨_, hcx⟩
          clear hcx
          have HS := hid hs
          have HG := hid hgr
          clear hs hgr hc' hf' hown hlen hm' hc1'
          go_wp2
          go_roundw
          case rel => exact ⟨k + 1, by omega, by go_num, by go_num, HS.out.1, grownBy_trans HG.out HS.out.2⟩
          case measure => simp [intOf]; omega
      · obtain rfl : k = xs.length := by omega
        rw [List.drop_length, List.append_nil] at hown
        have HO := hid hown
        have HG := hid hgr
        clear hown hgr hlen
        go_wp2
        go_ret
        exact ⟨rfl, HO.out, HG.out⟩
end Go.Proofs.Ytijjdidljoicfab

/- Contracts: l1Rising, raCombination, areBelow, lastRelatedPair, and both IsCombination functions. Conditions: the slice reads as a list. -/
namespace Go.Proofs.Ytijjdidljoicfab
set_option linter.unusedVariables false
open Go.RowKit

theorem Reads.view {w : World} {v : Value} {xs : List Int} (h : Reads w v xs) : ∃ ao c, v = .slice ao xs.length c ∧ xs.length ≤ c ∧ c ≤ 9223372036854775807 ∧
    (xs = [] ∨ ∃ b off, ao = some ⟨b, off, none⟩ ∧ b < w.heap.size ∧ ∀ i (hi : i < xs.length), w.cell? ⟨b, off + i, none⟩ = some (.int .i64 xs[i])) := by
  obtain ⟨ao, c, rfl, h1, h2, h⟩ := h
  refine ⟨ao, c, rfl, h1, by unfold maxLen at h2; omega, ?_⟩
  rcases h with h | ⟨b, off, rfl, hb, hc⟩
  · exact .inl h
  · refine .inr ⟨b, off, rfl, hb, fun i hi => ?_⟩
    have := hc i hi
    simpa [List.getD_eq_getElem?_getD, hi] using this

theorem getD_at {xs : List Int} {i : Nat} (h : i < xs.length) : xs.getD i 0 = xs[i] := by simp [List.getD_eq_getElem?_getD, h]

theorem l1Rising_any (v : Value) (xs : List Int) (lo hi : Int) (w : World) (h : Reads w v xs) :
    Calls Try.prog 96 #[v, .int .i64 lo, .int .i64 hi] w fun e w' => e = .returned (.bool (risingB xs lo hi)) ∧ w = w' := by
  obtain ⟨ao, c, rfl, hc1, hm, h⟩ := h.view
  rcases h with h | ⟨b, off, rfl, hb, hc⟩
  · subst h
    go_enter Try.func96, Try.ntmps96
    go_wp2
    refine wp_loop_rounds 1 ?_
    rw [rounds_succ]
    go_wp2
    go_ret
    exact ⟨rfl, rfl⟩
  · go_enter Try.func96, Try.ntmps96
    go_wp2
    go_loop [7, 8, 11] (fun _ _ i => ∃ k : Nat, k ≤ xs.length ∧ i = .int .i64 k ∧ allTo k (riseAt xs lo hi) = true) (fun _ _ i => xs.length - (intOf i).toNat)
    case atStart => exact ⟨0, Nat.zero_le _, rfl, rfl⟩
    case round =>
      obtain ⟨k, hk, rfl, hall⟩ := hrel
      have HA := hid hall
      clear hall
      by_cases hlt : k < xs.length
      · have hcx := hc k hlt
        by_cases hin : inB xs[k] lo hi = true
        · by_cases hk0 : k = 0
          · subst hk0
            rw [Nat.add_zero] at hcx
            clear hc
            go_wp2_with (go_at_call 48; refine (l1In_any _ _ _ _).mono ?_; rintro e w' ⟨rfl, rfl⟩)
            go_round
            case rel => exact ⟨0 + 1, by omega, by go_num, allTo_next HA.out (by rw [riseAt, getD_at hlt, hin]; rfl)⟩
            case measure => simp [intOf]; omega
          · have hcy := hc (k - 1) (by omega)
            have hkp : (0 : Int) < (k : Int) := by omega
            have e1 : ((k : Int) - 1).toNat = k - 1 := by omega
            have e2 : 1 ≤ k := by omega
            clear hc hk0
            by_cases hle : xs[k] ≤ xs[k - 1]
            · have HF : Hid (riseAt xs lo hi k = false) := by
                show riseAt xs lo hi k = false
                rw [riseAt, getD_at hlt, getD_at (show k - 1 < xs.length by omega), hin]
                simp; omega
              go_wp2_with (go_at_call 48; refine (l1In_any _ _ _ _).mono ?_; rintro e w' ⟨rfl, rfl⟩)
              go_ret
              exact ⟨ret_bool (allTo_no hlt HF.out).symm, rfl⟩
            · have HF : Hid (riseAt xs lo hi k = true) := by
                show riseAt xs lo hi k = true
                rw [riseAt, getD_at hlt, getD_at (show k - 1 < xs.length by omega), hin]
                simp; omega
              go_wp2_with (go_at_call 48; refine (l1In_any _ _ _ _).mono ?_; rintro e w' ⟨rfl, rfl⟩)
              go_round
              case rel => exact ⟨k + 1, by omega, by go_num, allTo_next HA.out HF.out⟩
              case measure => simp [intOf]; omega
        · have hin : inB xs[k] lo hi = false := by simpa using hin
          have HF : Hid (riseAt xs lo hi k = false) := by
            show riseAt xs lo hi k = false
            rw [riseAt, getD_at hlt, hin]; rfl
          clear hc
          go_wp2_with (go_at_call 48; refine (l1In_any _ _ _ _).mono ?_; rintro e w' ⟨rfl, rfl⟩)
          go_ret
          exact ⟨ret_bool (allTo_no hlt HF.out).symm, rfl⟩
      · obtain rfl : k = xs.length := by omega
        go_wp2
        go_ret
        exact ⟨ret_bool HA.out.symm, rfl⟩
theorem raCombination_any (n : Int) (v : Value) (xs : List Int) (w : World) (h : Reads w v xs) :
    Calls Try.prog 83 #[.int .i64 n, v] w fun e w' => e = .returned (.bool (combB n xs)) ∧ w = w' := by
  have h' := h
  obtain ⟨ao, c, rfl, hc1, hm, _⟩ := h'
  unfold maxLen at hm
  have H := hid h
  clear h
  by_cases h1 : inB n 0 12 = true
  · have hb := inB_iff.1 h1
    obtain ⟨hb1, hb2⟩ := hb
    by_cases h2 : (xs.length : Int) ≤ n
    · have HF : Hid (combB n xs = risingB xs 0 (n - 1)) := by show combB n xs = _; simp [combB, h1, h2]
      go_enter Try.func83, Try.ntmps83
      go_wp2_with (first | (go_at_call 68; refine (raItems_any _ _).mono ?_; rintro e w' ⟨rfl, rfl⟩) | (go_at_call 96; refine (l1Rising_any _ _ _ _ _ H.out).mono ?_; rintro e w' ⟨rfl, rfl⟩))
      go_ret
      exact ⟨ret_bool HF.out.symm, rfl⟩
    · have HF : Hid (combB n xs = false) := by show combB n xs = _; simp [combB, h1, h2]
      go_enter Try.func83, Try.ntmps83
      go_wp2_with (first | (go_at_call 68; refine (raItems_any _ _).mono ?_; rintro e w' ⟨rfl, rfl⟩))
      go_ret
      exact ⟨ret_bool HF.out.symm, rfl⟩
  · have h1 : inB n 0 12 = false := by simpa using h1
    have HF : Hid (combB n xs = false) := by show combB n xs = _; simp [combB, h1]
    go_enter Try.func83, Try.ntmps83
    go_wp2_with (first | (go_at_call 68; refine (raItems_any _ _).mono ?_; rintro e w' ⟨rfl, rfl⟩))
    go_ret
    exact ⟨ret_bool HF.out.symm, rfl⟩
theorem areBelow_any (v : Value) (xs : List Int) (n : Int) (w : World) (h : Reads w v xs) :
    Calls Try.prog 92 #[v, .int .i64 n] w fun e w' => e = .returned (.bool (belowB xs n)) ∧ w = w' := by
  obtain ⟨ao, c, rfl, hc1, hm, h⟩ := h.view
  rcases h with h | ⟨b, off, rfl, hb, hc⟩
  · subst h
    go_enter Try.func92, Try.ntmps92
    go_wp2
    refine wp_loop_rounds 1 ?_
    rw [rounds_succ]
    go_wp2
    go_ret
    exact ⟨rfl, rfl⟩
  · go_enter Try.func92, Try.ntmps92
    go_wp2
    go_loop [6, 9] (fun _ i => ∃ k : Nat, k ≤ xs.length ∧ i = .int .i64 k ∧ allTo k (fun i => inB (xs.getD i 0) 0 (n - 1)) = true) (fun _ i => xs.length - (intOf i).toNat)
    case atStart => exact ⟨0, Nat.zero_le _, rfl, rfl⟩
    case round =>
      obtain ⟨k, hk, rfl, hall⟩ := hrel
      have HA := hid hall
      clear hall
      by_cases hlt : k < xs.length
      · have hcx := hc k hlt
        clear hc
        by_cases h0 : xs[k] < 0
        · have HF : Hid (inB (xs.getD k 0) 0 (n - 1) = false) := by
            show inB (xs.getD k 0) 0 (n - 1) = false
            rw [getD_at hlt]; simp [inB]; omega
          go_wp2
          go_ret
          exact ⟨ret_bool (allTo_no (f := fun i => inB (xs.getD i 0) 0 (n - 1)) hlt HF.out).symm, rfl⟩
        · by_cases h1 : n ≤ xs[k]
          · have HF : Hid (inB (xs.getD k 0) 0 (n - 1) = false) := by
              show inB (xs.getD k 0) 0 (n - 1) = false
              rw [getD_at hlt]; simp [inB]; omega
            go_wp2
            go_ret
            exact ⟨ret_bool (allTo_no (f := fun i => inB (xs.getD i 0) 0 (n - 1)) hlt HF.out).symm, rfl⟩
          · have HF : Hid (inB (xs.getD k 0) 0 (n - 1) = true) := by
              show inB (xs.getD k 0) 0 (n - 1) = true
              rw [getD_at hlt]; simp [inB]; omega
            go_wp2
            go_round
            case rel => exact ⟨k + 1, by omega, by go_num, allTo_next (f := fun i => inB (xs.getD i 0) 0 (n - 1)) HA.out HF.out⟩
            case measure => simp [intOf]; omega
      · obtain rfl : k = xs.length := by omega
        go_wp2
        go_ret
        exact ⟨ret_bool HA.out.symm, rfl⟩
theorem isAtLeast_any (a b : Int) (w : World) : Calls Try.prog 99 #[.int .i64 a, .int .i64 b] w fun e w' => e = .returned (.bool (decide (b ≤ a))) ∧ w = w' := by
  by_cases h : b ≤ a
  all_goals
    go_enter Try.func99, Try.ntmps99
    go_wp2
    go_ret
    exact ⟨by simp; omega, rfl⟩
end Go.Proofs.Ytijjdidljoicfab

/- Contract: apart. Conditions: the difference is small. -/
namespace Go.Proofs.Ytijjdidljoicfab
open Go.RowKit
set_option linter.unusedVariables false

def apV (a b : Int) : Int := max (a - b) (b - a)
theorem apV_self (a : Int) : apV a a = 0 := by unfold apV; rw [Int.sub_self]; rfl
theorem apart_any (a b : Int) (w : World) (h1 : -100000 ≤ a - b) (h2 : a - b ≤ 100000) :
    Calls Try.prog 53 #[.int .i64 a, .int .i64 b] w fun e w' => e = .returned (.int .i64 (apV a b)) ∧ w = w' := by
  have hww : IntKind.i64.wrap (a - b) = a - b := IntWalk.i64_in _ (by omega)
  have hww' : IntKind.i64.wrap (b - a) = b - a := IntWalk.i64_in _ (by omega)
  have e1 : a - b < b - a → apV a b = b - a := fun h => by unfold apV; omega
  have e2 : ¬ a - b < b - a → apV a b = a - b := fun h => by unfold apV; omega
  have H1 := hid e1
  have H2 := hid e2
  clear e1 e2
  go_enter Try.func53, Try.ntmps53
  go_wp2
  · go_ret
    exact ⟨ret_int (H1.out (by assumption)).symm, rfl⟩
  · go_ret
    exact ⟨ret_int (H2.out (by assumption)).symm, rfl⟩
end Go.Proofs.Ytijjdidljoicfab

/- Plain facts on the check that a list is a permutation. No conditions. -/
namespace Go.Proofs.Ytijjdidljoicfab
set_option linter.unusedVariables false

/-- y is an element of xs -/
def hasB (xs : List Int) (y : Int) : Bool := xs.contains y
/-- no earlier element is the one at i -/
def freshAt (xs : List Int) (i : Nat) : Bool := !hasB (xs.take i) (xs.getD i 0)
/-- one step of the spec's check -/
def permAt (xs : List Int) (i : Nat) : Bool := decide (i < 12) && inB (xs.getD i 0) 0 ((xs.length : Int) - 1) && freshAt xs i
/-- xs is a permutation -/
def permB (xs : List Int) : Bool := allTo xs.length (permAt xs)
def permB' (xs : List Int) : Bool := inB (xs.length : Int) 0 12 && belowB xs xs.length && allTo xs.length (freshAt xs)

theorem permB_eq (xs : List Int) : permB' xs = permB xs := by
  rw [Bool.eq_iff_iff]
  simp only [permB, permB', belowB, Bool.and_eq_true, allTo_iff, permAt, decide_eq_true_eq, inB_iff]
  constructor
  · rintro ⟨⟨h1, h2⟩, h3⟩ i hi
    exact ⟨⟨by omega, h2 i hi⟩, h3 i hi⟩
  · intro h
    refine ⟨⟨⟨by omega, ?_⟩, fun i hi => (h i hi).1.2⟩, fun i hi => (h i hi).2⟩
    by_cases h0 : xs.length = 0
    · omega
    · have := (h (xs.length - 1) (by omega)).1.1
      omega

theorem permB_len {xs : List Int} (h : permB xs = true) : xs.length ≤ 12 := by
  rw [← permB_eq] at h
  simp only [permB', Bool.and_eq_true, inB_iff] at h
  omega
theorem permB_range {xs : List Int} (h : permB xs = true) {i : Nat} (hi : i < xs.length) : 0 ≤ xs.getD i 0 ∧ xs.getD i 0 < xs.length := by
  unfold permB at h
  have := (allTo_iff _ _).1 h i hi
  simp only [permAt, Bool.and_eq_true, inB_iff] at this
  omega

theorem hasB_iff {xs : List Int} {y : Int} : hasB xs y = true ↔ y ∈ xs := by unfold hasB; exact List.contains_iff_mem
theorem hasB_no {xs : List Int} {y : Int} (h : y ∉ xs) : hasB xs y = false := by
  cases e : hasB xs y with
  | false => rfl
  | true => exact absurd (hasB_iff.1 e) h
theorem hasB_take_succ (xs : List Int) (k : Nat) (h : k < xs.length) (y : Int) : hasB (xs.take (k + 1)) y = (hasB (xs.take k) y || decide (y = xs[k])) := by
  rw [Bool.eq_iff_iff, Bool.or_eq_true, hasB_iff, hasB_iff, List.take_succ_eq_append_getElem h, List.mem_append, List.mem_singleton, decide_eq_true_eq]
end Go.Proofs.Ytijjdidljoicfab

/- Contracts: lastRelatedPair at isAtLeast and impl.IsCombination; the walk of the law FnExactIsCombination. Conditions: the slice reads as a list. -/
namespace Go.Proofs.Ytijjdidljoicfab
set_option linter.unusedVariables false
open Go.RowKit

theorem Drew.below {w w' : World} (h : ∃ q, w' = w.drewN q) (B : Nat) : Below B w w' := by
  obtain ⟨q, rfl⟩ := h
  exact below_drewN (Below.refl _ _) q

theorem Drew.next {w w' : World} (h : ∃ q, w' = w.drewN q) (n : Nat) : ∃ q, w'.drewN n = w.drewN q := by
  obtain ⟨q, rfl⟩ := h
  exact ⟨q + n, World.drewN_drewN _ _ _⟩

theorem lastRelatedPair_ge (v : Value) (xs : List Int) (w : World) (h : Reads w v xs) :
    Calls Try.prog 98 #[v, .func (.func 99) #[] #[]] w fun e w' => e = .returned (.int .i64 (lastIx (atLeastAt xs) (xs.length - 1))) ∧ ∃ q, w' = w.drewN q := by
  obtain ⟨ao, c, rfl, hc1, hm, h⟩ := h.view
  by_cases hl : xs.length < 2
  · have HF : Hid (lastIx (atLeastAt xs) (xs.length - 1) = -1) := by
      show lastIx (atLeastAt xs) (xs.length - 1) = -1
      rw [show xs.length - 1 = 0 by omega]; rfl
    clear h
    have hd : decide ((0 : Int) ≤ (xs.length : Int) - 2) = false := by simp; omega
    have hd2 : decide ((2 : Int) ≤ (xs.length : Int)) = false := by simp; omega
    go_enter Try.func98, Try.ntmps98
    go_wp2
    refine wp_loop_rounds 1 ?_
    rw [rounds_succ]
    go_wp2
    go_quiet (fail)
    go_wp2
    all_goals go_ret
    all_goals exact ⟨ret_int (by have := HF.out; omega), nq, rfl⟩
  · obtain ⟨b, off, rfl, hb, hc⟩ := h.resolve_left (by intro h; rw [h] at hl; simp at hl)
    go_enter Try.func98, Try.ntmps98
    go_wp2
    go_loopw [5] (fun i wr => ∃ k : Nat, k ≤ xs.length - 1 ∧ i = .int .i64 ((k : Int) - 1) ∧ lastIx (atLeastAt xs) (xs.length - 1) = lastIx (atLeastAt xs) k ∧ ∃ q, wr = w.drewN q) (fun i _ => (intOf i + 1).toNat)
    case atStart => exact ⟨xs.length - 1, Nat.le_refl _, by congr 1; omega, rfl, 0, rfl⟩
    case round =>
      obtain ⟨k, hk, rfl, hla, hq⟩ := hrel
      have HL := hid hla
      have HQ := hid hq
      clear hla hq
      cases k with
      | zero =>
        have hd : decide ((0 : Int) ≤ (-1 : Int)) = false := by decide
        rw [show (((0 : Nat) : Int) - 1) = -1 from rfl]
        clear hc
        go_wp2
        go_quiet (fail)
        go_wp2
        go_ret
        exact ⟨ret_int HL.out.symm, Drew.next HQ.out nq⟩
      | succ j =>
        rw [show (((j + 1 : Nat) : Int) - 1) = (j : Int) from by omega]
        have hd : decide ((0 : Int) ≤ (j : Int)) = true := by simp
        have hcx : wr.cell? ⟨b, off + j, none⟩ = some (.int .i64 xs[j]) := by
          obtain ⟨q, rfl⟩ := HQ.out
          exact hc j (by omega)
        have hcy : wr.cell? ⟨b, off + (j + 1), none⟩ = some (.int .i64 xs[j + 1]) := by
          obtain ⟨q, rfl⟩ := HQ.out
          exact hc (j + 1) (by omega)
        clear hc
        have q1 : (j : Int) < (xs.length : Int) := by omega
        have q2 : (0 : Int) ≤ (j : Int) := by omega
        have q3 : (j : Int) + 1 < (xs.length : Int) := by omega
        have q4 : (0 : Int) ≤ (j : Int) + 1 := by omega
        have q5 : ((j : Int) + 1).toNat = j + 1 := by omega
        have q6 : IntKind.i64.wrap ((j : Int) + 1) = (j : Int) + 1 := IntWalk.i64_in _ (by omega)
        by_cases hge : xs[j + 1] ≤ xs[j]
        · have hb1 : decide (xs[j + 1] ≤ xs[j]) = true := by simpa using hge
          have HF : Hid (atLeastAt xs j = true) := by
            show atLeastAt xs j = true
            rw [atLeastAt, getD_at (show j < xs.length by omega), getD_at (show j + 1 < xs.length by omega)]; exact hb1
          clear hge
          go_wp2
          go_quiet ((go_at_call 99; exact Calls.quiet_of_same ((isAtLeast_any _ _ _).mono fun _ _ h => ⟨h.1, h.2.symm⟩)))
          go_wp2
          go_ret
          exact ⟨ret_int (by rw [HL.out, lastIx_yes HF.out]), Drew.next HQ.out nq⟩
        · have hb1 : decide (xs[j + 1] ≤ xs[j]) = false := by simpa using hge
          have HF : Hid (atLeastAt xs j = false) := by
            show atLeastAt xs j = false
            rw [atLeastAt, getD_at (show j < xs.length by omega), getD_at (show j + 1 < xs.length by omega)]; exact hb1
          clear hge
          go_wp2
          go_quiet ((go_at_call 99; exact Calls.quiet_of_same ((isAtLeast_any _ _ _).mono fun _ _ h => ⟨h.1, h.2.symm⟩)))
          go_wp2
          go_roundw
          case rel => exact ⟨j, by omega, rfl, by rw [HL.out, lastIx_no HF.out], Drew.next HQ.out nq⟩
          case measure => simp [intOf]; try omega
theorem impl_IsCombination_any (n : Int) (v : Value) (xs : List Int) (w : World) (h : Reads w v xs) :
    Calls Try.prog 89 #[.int .i64 n, v] w fun e w' => e = .returned (.bool (combB n xs)) ∧ ∃ q, w' = w.drewN q := by
  rw [← combB_eq]
  have H := hid h
  clear h
  by_cases h1 : inB n 0 12 = true
  · by_cases h2 : belowB xs n = true
    · have HF : Hid (combB' n xs = decide (lastIx (atLeastAt xs) (xs.length - 1) < 0)) := by show combB' n xs = _; simp [combB', h1, h2]
      go_enter Try.func89, Try.ntmps89
      go_wp2_with (first | (go_at_call 72; refine (isItemCount_any _ _).mono ?_; rintro e w' ⟨rfl, rfl⟩) | (go_at_call 92; refine (areBelow_any _ _ _ _ H.out).mono ?_; rintro e w' ⟨rfl, rfl⟩) | (go_at_call 98; refine (lastRelatedPair_ge _ _ _ H.out).mono ?_; rintro e w' ⟨rfl, hq⟩))
      go_ret
      exact ⟨ret_bool HF.out.symm, by assumption⟩
    · have h2 : belowB xs n = false := by simpa using h2
      have HF : Hid (combB' n xs = false) := by show combB' n xs = _; simp [combB', h1, h2]
      go_enter Try.func89, Try.ntmps89
      go_wp2_with (first | (go_at_call 72; refine (isItemCount_any _ _).mono ?_; rintro e w' ⟨rfl, rfl⟩) | (go_at_call 92; refine (areBelow_any _ _ _ _ H.out).mono ?_; rintro e w' ⟨rfl, rfl⟩))
      go_ret
      exact ⟨ret_bool HF.out.symm, 0, rfl⟩
  · have h1 : inB n 0 12 = false := by simpa using h1
    have HF : Hid (combB' n xs = false) := by show combB' n xs = _; simp [combB', h1]
    go_enter Try.func89, Try.ntmps89
    go_wp2_with (first | (go_at_call 72; refine (isItemCount_any _ _).mono ?_; rintro e w' ⟨rfl, rfl⟩))
    go_ret
    exact ⟨ret_bool HF.out.symm, 0, rfl⟩
end Go.Proofs.Ytijjdidljoicfab

/- Contracts: l1Has, raPermutation and both IsPermutation functions. Conditions: the slice reads as a list. -/
namespace Go.Proofs.Ytijjdidljoicfab
open Go.RowKit
set_option linter.unusedVariables false

/-- The beginning of a slice. -/
theorem Reads_take {w : World} {b off c : Nat} {xs : List Int} (k : Nat) (hk : k ≤ xs.length) (hc1 : xs.length ≤ c) (hm : c ≤ 9223372036854775807) (hb : b < w.heap.size)
    (hc : ∀ i (hi : i < xs.length), w.cell? ⟨b, off + i, none⟩ = some (.int .i64 xs[i])) : Reads w (.slice (some ⟨b, off, none⟩) k c) (xs.take k) := by
  have hl : (xs.take k).length = k := by simp; omega
  refine ⟨_, c, by rw [hl], by omega, by unfold maxLen; omega, .inr ⟨b, off, rfl, hb, fun i hi => ?_⟩⟩
  rw [hl] at hi
  rw [hc i (by omega)]
  simp [List.getD_eq_getElem?_getD, hi, show i < xs.length by omega]

theorem l1Has_any (v : Value) (xs : List Int) (y : Int) (w : World) (h : Reads w v xs) :
    Calls Try.prog 88 #[v, .int .i64 y] w fun e w' => e = .returned (.bool (hasB xs y)) ∧ w = w' := by
  obtain ⟨ao, c, rfl, hc1, hm, h⟩ := h.view
  rcases h with h | ⟨b, off, rfl, hb, hc⟩
  · subst h
    go_enter Try.func88, Try.ntmps88
    go_wp2
    refine wp_loop_rounds 1 ?_
    rw [rounds_succ]
    go_wp2
    go_ret
    exact ⟨rfl, rfl⟩
  · go_enter Try.func88, Try.ntmps88
    go_wp2
    go_loop [6, 9] (fun _ i => ∃ k : Nat, k ≤ xs.length ∧ i = .int .i64 k ∧ hasB (xs.take k) y = false) (fun _ i => xs.length - (intOf i).toNat)
    case atStart => exact ⟨0, Nat.zero_le _, rfl, rfl⟩
    case round =>
      obtain ⟨k, hk, rfl, hno⟩ := hrel
      have HN := hid hno
      clear hno
      by_cases hlt : k < xs.length
      · have hcx := hc k hlt
        clear hc
        by_cases he : xs[k] = y
        · have hb1 : (xs[k] == y) = true := by simp [he]
          have HF : Hid (hasB xs y = true) := by
            show hasB xs y = true
            rw [hasB_iff, ← he]
            exact List.getElem_mem _
          clear he
          go_wp2
          go_ret
          exact ⟨ret_bool HF.out.symm, rfl⟩
        · have hb1 : (xs[k] == y) = false := by simp [he]
          have hb2 : decide (y = xs[k]) = false := by simp; exact fun h => he h.symm
          have HF : Hid (hasB (xs.take (k + 1)) y = false) := by
            show hasB (xs.take (k + 1)) y = false
            rw [hasB_take_succ xs k hlt, HN.out, hb2]; rfl
          clear he hb2
          go_wp2
          go_round
          case rel => exact ⟨k + 1, by omega, by go_num, HF.out⟩
          case measure => simp [intOf]; omega
      · obtain rfl : k = xs.length := by omega
        have HF : Hid (hasB xs y = false) := by
          have := HN.out
          rwa [List.take_length] at this
        go_wp2
        go_ret
        exact ⟨ret_bool HF.out.symm, rfl⟩
end Go.Proofs.Ytijjdidljoicfab

/- Owned rows with bounds on their block numbers, for laws that write marks into results; counting lemmas. No conditions. -/
namespace Go.Proofs.Ytijjdidljoicfab
open Go.RowKit
set_option linter.unusedVariables false

/-- v owns a row that reads as xs, in a block from lo on and below hi. -/
def Lives (w : World) (lo hi : Nat) (v : Value) (xs : List Int) : Prop := Own w lo v xs ∧ ∀ k, v.ownBlock = some k → k < hi

theorem Own.lives {w : World} {lo : Nat} {v : Value} {xs : List Int} (h : Own w lo v xs) : Lives w lo w.heap.size v xs :=
  ⟨h, fun k hk => (World.ownsRow.lt h k hk).2⟩
theorem Lives.below {w w' : World} {lo hi : Nat} {v : Value} {xs : List Int} (h : Lives w lo hi v xs) (hb : Below w.heap.size w w') : Lives w' lo hi v xs := ⟨h.1.below hb, h.2⟩
theorem Lives.reads {w : World} {lo hi : Nat} {v : Value} {xs : List Int} (h : Lives w lo hi v xs) : Reads w v xs := h.1.reads
theorem Lives.low {w : World} {lo hi : Nat} {v : Value} {xs : List Int} (h : Lives w lo hi v xs) : ∀ k, v.ownBlock = some k → lo ≤ k :=
  fun k hk => (World.ownsRow.lt h.1 k hk).1
theorem Lives.kept {w w' : World} {lo hi lo' hi' : Nat} {v u : Value} {xs ys : List Int} (h : Lives w lo hi v xs) (h' : Lives w lo' hi' u ys) (hg : w.grownBy w' u.ownBlock) (hne : hi ≤ lo' ∨ hi' ≤ lo) : Lives w' lo hi v xs := by
  refine ⟨Own.kept h.1 hg ?_, h.2⟩
  cases hv : v.ownBlock with
  | none => exact .inl rfl
  | some k =>
    right
    intro e
    have h1 := h.2 k hv
    have h2 := h.low k hv
    have h3 := h'.2 k e.symm
    have h4 := h'.low k e.symm
    omega
theorem Lives.marked {w w' : World} {lo hi : Nat} {v : Value} {xs ys : List Int} (h : Lives w lo hi v xs) (ho : Own w' lo v ys) : Lives w' lo hi v ys := ⟨ho, h.2⟩
theorem Below.marked {w w1 w' : World} {lo hi : Nat} {v : Value} {xs : List Int} (h : Below w.heap.size w w1) (hl : Lives w1 lo hi v xs) (hg : w1.grownBy w' v.ownBlock) (hlo : w.heap.size ≤ lo) : Below w.heap.size w w' :=
  h.grown hg h.size (fun k hk => Nat.le_trans hlo (hl.low k hk))

theorem Own.nil (w : World) (lo : Nat) : Own w lo (.slice none 0 0) [] := World.ownsRow_nil _ _ _ _
/-- What the law on append leaves, for one more number. -/
theorem Own.snoc {w : World} {lo : Nat} {v : Value} {xs : List Int} {x : Int} (h : w.ownsRow lo 3 1 v (xs.length + 1) (xs.map (Value.int .i64) ++ [.int .i64 x])) : Own w lo v (xs ++ [x]) := by
  unfold Own
  simpa using h
theorem Own.row {w : World} {lo : Nat} {v : Value} {xs : List Int} (h : Own w lo v xs) : w.ownsRow lo 3 1 v xs.length (xs.map (Value.int .i64)) := h

theorem new_cell1 {u : Value} {w : World} {z : Value} {T : TypeId} (j : Nat) (hj : [z][j]? = some u) : (w.alloc (.cells #[z] T)).cell? ((⟨w.heap.size, 0, none⟩ : Addr).add j) = some u := by
  match j, hj with
  | 0, hj => simp at hj; subst hj; simp [Addr.add]

/-- how many elements are greater than x, or less -/
def countGt (l : List Int) (x : Int) : Nat := (l.filter (fun y => decide (x < y))).length
def countLt (l : List Int) (x : Int) : Nat := (l.filter (fun y => decide (y < x))).length
theorem countGt_le (l : List Int) (x : Int) : countGt l x ≤ l.length := List.length_filter_le _ _
theorem countLt_le (l : List Int) (x : Int) : countLt l x ≤ l.length := List.length_filter_le _ _
theorem countGt_yes {xs : List Int} {k : Nat} {x : Int} (h : k < xs.length) (hx : x < xs[k]) : countGt (xs.take (k + 1)) x = countGt (xs.take k) x + 1 := by
  unfold countGt
  rw [List.take_succ_eq_append_getElem h, List.filter_append, List.length_append]
  simp [hx]
theorem countGt_no {xs : List Int} {k : Nat} {x : Int} (h : k < xs.length) (hx : ¬ x < xs[k]) : countGt (xs.take (k + 1)) x = countGt (xs.take k) x := by
  unfold countGt
  rw [List.take_succ_eq_append_getElem h, List.filter_append, List.length_append]
  simp [hx]
theorem countLt_yes {xs : List Int} {k : Nat} {x : Int} (h : k < xs.length) (hx : xs[k] < x) : countLt (xs.take (k + 1)) x = countLt (xs.take k) x + 1 := by
  unfold countLt
  rw [List.take_succ_eq_append_getElem h, List.filter_append, List.length_append]
  simp [hx]
theorem countLt_no {xs : List Int} {k : Nat} {x : Int} (h : k < xs.length) (hx : ¬ xs[k] < x) : countLt (xs.take (k + 1)) x = countLt (xs.take k) x := by
  unfold countLt
  rw [List.take_succ_eq_append_getElem h, List.filter_append, List.length_append]
  simp [hx]

/-- the inversions at the first k indices -/
def invsTo (xs : List Int) (k : Nat) : List Int := (List.range k).map (fun i : Nat => (countGt (xs.take i) (xs.getD i 0) : Int))
theorem invsTo_succ (xs : List Int) (k : Nat) : invsTo xs (k + 1) = invsTo xs k ++ [(countGt (xs.take k) (xs.getD k 0) : Int)] := by simp [invsTo, List.range_succ]
theorem invsTo_length (xs : List Int) (k : Nat) : (invsTo xs k).length = k := by simp [invsTo]
theorem invsTo_getD (xs : List Int) (n i : Nat) (h : i < n) : (invsTo xs n).getD i 0 = countGt (xs.take i) (xs.getD i 0) := by simp [invsTo, h]
end Go.Proofs.Ytijjdidljoicfab

/- Slices that are not nil and read as a list; slices of them. No conditions. -/
namespace Go.Proofs.Ytijjdidljoicfab
open Go.RowKit
set_option linter.unusedVariables false

/-- v is a slice that is not nil and reads as xs. -/
def Sits (w : World) (v : Value) (xs : List Int) : Prop :=
  ∃ b off c, v = .slice (some ⟨b, off, none⟩) xs.length c ∧ xs.length ≤ c ∧ c ≤ 9223372036854775807 ∧ b < w.heap.size ∧ ∀ i (hi : i < xs.length), w.cell? ⟨b, off + i, none⟩ = some (.int .i64 xs[i])

theorem Sits.below {w w' : World} {v : Value} {xs : List Int} (h : Sits w v xs) (hb : Below w.heap.size w w') : Sits w' v xs := by
  obtain ⟨b, off, c, rfl, h1, h2, h3, h4⟩ := h
  exact ⟨b, off, c, rfl, h1, h2, Nat.lt_of_lt_of_le h3 hb.size, fun i hi => (hb.cell (by exact h3)).trans (h4 i hi)⟩
theorem Sits.reads {w : World} {v : Value} {xs : List Int} (h : Sits w v xs) : Reads w v xs := by
  obtain ⟨b, off, c, rfl, h1, h2, h3, h4⟩ := h
  exact ⟨_, c, rfl, h1, by unfold maxLen; omega, .inr ⟨b, off, rfl, h3, fun i hi => by rw [h4 i hi, getD_at hi]⟩⟩
theorem Own.sits {w : World} {lo : Nat} {a : Addr} {n c : Nat} {xs : List Int} (h : Own w lo (.slice (some a) n c) xs) : Sits w (.slice (some a) n c) xs := by
  rcases h.form with ⟨h1, h2⟩ | ⟨g, cap, e, _, hlt, h1, h2, hc, _⟩
  · simp at h1
  · rw [e]
    refine ⟨g, 0, cap, rfl, h1, by unfold maxLen at h2; omega, hlt, fun i hi => by rw [hc i hi, getD_at hi]⟩
theorem Lives.sits {w : World} {lo hi : Nat} {a : Addr} {n c : Nat} {xs : List Int} (h : Lives w lo hi (.slice (some a) n c) xs) : Sits w (.slice (some a) n c) xs := h.1.sits

/-- The beginning of a slice, and its end. -/
theorem Sits_take {w : World} {b off c : Nat} {xs : List Int} (k : Nat) (hk : k ≤ xs.length) (hc1 : xs.length ≤ c) (hm : c ≤ 9223372036854775807) (hb : b < w.heap.size)
    (hc : ∀ i (hi : i < xs.length), w.cell? ⟨b, off + i, none⟩ = some (.int .i64 xs[i])) : Sits w (.slice (some ⟨b, off, none⟩) k c) (xs.take k) := by
  have hl : (xs.take k).length = k := by simp; omega
  refine ⟨b, off, c, by rw [hl], by omega, hm, hb, fun i hi => ?_⟩
  rw [hl] at hi
  rw [hc i (by omega)]
  simp
theorem Sits_drop {w : World} {b off c : Nat} {xs : List Int} (k : Nat) (hk : k ≤ xs.length) (hc1 : xs.length ≤ c) (hm : c ≤ 9223372036854775807) (hb : b < w.heap.size)
    (hc : ∀ i (hi : i < xs.length), w.cell? ⟨b, off + i, none⟩ = some (.int .i64 xs[i])) : Sits w (.slice (some ⟨b, off + k, none⟩) (xs.length - k) (c - k)) (xs.drop k) := by
  have hl : (xs.drop k).length = xs.length - k := by simp
  refine ⟨b, off + k, c - k, by rw [hl], by omega, by omega, hb, fun i hi => ?_⟩
  rw [hl] at hi
  rw [Nat.add_assoc, hc (k + i) (by omega)]
  simp

theorem permB_wf (n : Nat) (h : n < 1048576) : (Lit.int .i64 (n : Int)).wf = true := WalkArith.wf_i64 (by omega)
end Go.Proofs.Ytijjdidljoicfab

/- Contracts: firstNumbers, l1Own, raUpTo, slices.Delete at one element, takeOut, raWithout. Conditions: the slices read as lists of at most 2^20 numbers; indexes lie within. -/
namespace Go.Proofs.Ytijjdidljoicfab
open Go.RowKit
set_option linter.unusedVariables false

/-- the numbers 0, .., n - 1 -/
def upTo (n : Nat) : List Int := (List.range n).map (fun i : Nat => (i : Int))
theorem upTo_length (n : Nat) : (upTo n).length = n := by simp [upTo]
theorem upTo_getD (n i : Nat) (h : i < n) : (upTo n).getD i 0 = i := by simp [upTo, h]
theorem upTo_succ (n : Nat) : upTo (n + 1) = upTo n ++ [(n : Int)] := by simp [upTo, List.range_succ]

theorem Own.cut {w : World} {lo g n c : Nat} {xs : List Int} (h : Own w lo (.slice (some ⟨g, 0, none⟩) n c) xs) (m : Nat) (hm : m ≤ xs.length) : Own w lo (.slice (some ⟨g, 0, none⟩) m c) (xs.take m) := by
  have hl : (xs.take m).length = m := by simp; omega
  refine ⟨by simp, ?_⟩
  rcases h.2 with ⟨h1, h2⟩ | ⟨g', cap, cur, e, hg, hgg, h1, h2, h3, h4⟩
  · simp at h1
  · simp only [Value.slice.injEq, Option.some.injEq, Addr.mk.injEq, and_true] at e
    obtain ⟨rfl, rfl, rfl⟩ := e
    refine .inr ⟨g, c, cur, by rw [hl], hg, hgg, by omega, h2, h3, ?_⟩
    rw [hl, List.map_take, ← h4, List.take_take]
    congr 1
    omega
theorem Own.len {w : World} {lo g n c : Nat} {xs : List Int} (h : Own w lo (.slice (some ⟨g, 0, none⟩) n c) xs) : n = xs.length := by
  rcases h.2 with ⟨h1, h2⟩ | ⟨g', cap, cur, e, hg, hgg, h1, h2, h3, h4⟩
  · simp at h1
  · simp only [Value.slice.injEq] at e
    exact e.2.1

def setFrom (xs : List Int) (j : Nat) : List Int → List Int
  | [] => xs
  | v :: r => setFrom (xs.set j v) (j + 1) r
theorem setFrom_append (p s vs : List Int) (h : vs.length = s.length) : setFrom (p ++ s) p.length vs = p ++ vs := by
  induction vs generalizing p s with
  | nil =>
    have : s = [] := List.eq_nil_of_length_eq_zero h.symm
    subst this
    rfl
  | cons v r ih =>
    match s, h with
    | x :: s', h =>
      rw [setFrom, List.set_append_right _ _ (Nat.le_refl _), Nat.sub_self, List.set_cons_zero]
      have := ih (p ++ [v]) s' (by simpa using h)
      simpa [List.append_assoc] using this
theorem Own_setCells {lo g c : Nat} (vs : List Int) : ∀ (w : World) (xs : List Int) (j : Nat), Own w lo (.slice (some ⟨g, 0, none⟩) xs.length c) xs →
    Own (w.setCells g j (vs.map (Value.int .i64))) lo (.slice (some ⟨g, 0, none⟩) xs.length c) (setFrom xs j vs) ∧ w.grownBy (w.setCells g j (vs.map (Value.int .i64))) (some g) := by
  induction vs with
  | nil => exact fun w xs j h => ⟨h, World.grownBy.refl _ _⟩
  | cons v r ih =>
    intro w xs j h
    obtain ⟨h1, h2⟩ := h.set j v
    have hl : (xs.set j v).length = xs.length := List.length_set
    have h3 := ih (w.setCell ⟨g, j, none⟩ (.int .i64 v)) (xs.set j v) (j + 1) (by rw [hl]; exact h1)
    rw [hl] at h3
    exact ⟨h3.1, grownBy_trans h2 h3.2⟩

theorem firstNumbers_any (n : Nat) (w : World) (hn : n ≤ 1048576) :
    Calls Try.prog 58 #[.int .i64 (n : Int)] w fun e w' => e = .returned (.slice (some ⟨w.heap.size, 0, none⟩) n n) ∧ Own w' w.heap.size (.slice (some ⟨w.heap.size, 0, none⟩) n n) (upTo n) ∧ Below w.heap.size w w' := by
  have hmk := run_make_ints n hn w
  have HM := hid (World.rowIs_made w (.int .i64 0) n 3)
  have HB0 := hid ((Below.refl w.heap.size w).alloc (Nat.le_refl _) (.cells (madeCells #[.int .i64 0] n) 3))
  go_enter Try.func58, Try.ntmps58
  go_wp2
  clear hmk
  go_loopw [4, 9] (fun _ i wr => ∃ k : Nat, k ≤ n ∧ i = .int .i64 k ∧ wr.rowIs w.heap.size 3 n (fun j => .int .i64 (if j < k then (j : Int) else 0)) ∧ Below w.heap.size w wr) (fun _ i _ => n - (intOf i).toNat)
  case atStart => exact ⟨0, Nat.zero_le _, rfl, World.rowIs.congr HM.out (fun i hi => by simp), HB0.out⟩
  case round =>
    obtain ⟨k, hk, rfl, hrow, hbel⟩ := hrel
    by_cases hlt : k < n
    · have hf := hrow.frozen k
      obtain ⟨z, hz⟩ : ∃ z, wr.cell? ⟨w.heap.size, k, none⟩ = some z := ⟨_, hrow.cell hlt⟩
      have HS := hid (hrow.set k (.int .i64 (k : Int)))
      have HB := hid (hbel.setCell (p := ⟨w.heap.size, k, none⟩) (Nat.le_refl _) (.int .i64 (k : Int)))
      clear hrow hbel
      go_wp2
      go_roundw
      case rel => exact ⟨k + 1, by omega, by go_num, HS.out.congr (fun i hi => by
        by_cases h1 : i = k
        · subst h1; simp
        · rw [if_neg h1]
          by_cases h2 : i < k
          · rw [if_pos h2, if_pos (by omega)]
          · rw [if_neg h2, if_neg (by omega)]), HB.out⟩
      case measure => simp [intOf]; omega
    · have HR := hid hrow
      clear hrow
      go_wp2
      go_ret
      exact ⟨rfl, Own.of_rowIs (HR.out.congr (fun i hi => by rw [if_pos (by omega), upTo_getD _ _ hi])) (upTo_length _) (by unfold maxLen; omega), hbel⟩
theorem ints_one (xs : List Int) : ∀ u ∈ xs.map (Value.int .i64), u.oneCell' = true := by
  intro u hu
  obtain ⟨x, _, rfl⟩ := List.mem_map.1 hu
  rfl
theorem Sits.src {w : World} {b off n c : Nat} {xs : List Int} (h : ∀ i (hi : i < xs.length), w.cell? ⟨b, off + i, none⟩ = some (.int .i64 xs[i])) : ∀ (j : Nat) (u : Value), (xs.map (Value.int .i64))[j]? = some u → w.cell? ((⟨b, off, none⟩ : Addr).add j) = some u := by
  intro j u hu
  rw [List.getElem?_map] at hu
  by_cases hj : j < xs.length
  · rw [List.getElem?_eq_getElem hj] at hu
    simp at hu
    subst hu
    have e : (⟨b, off, none⟩ : Addr).add j = ⟨b, off + j, none⟩ := by
      by_cases h : j = 0 <;> simp [Addr.add, h]
    rw [e]
    exact h j hj
  · rw [List.getElem?_eq_none (by omega)] at hu
    simp at hu
end Go.Proofs.Ytijjdidljoicfab

/- Contracts: chMissing, chExchange and spec.ExchangeOf. Conditions: the slices read as lists of at most 2^20 numbers. -/
namespace Go.Proofs.Ytijjdidljoicfab
open Go.RowKit
set_option linter.unusedVariables false

/-- the elements of a that are not in b -/
def missL (a b : List Int) : List Int := a.filter (fun x => !hasB b x)
theorem missL_len (a b : List Int) : (missL a b).length ≤ a.length := List.length_filter_le _ _
theorem missL_no {a b : List Int} {k : Nat} (h : k < a.length) (hb : hasB b a[k] = true) : missL (a.take (k + 1)) b = missL (a.take k) b := by
  unfold missL
  rw [List.take_succ_eq_append_getElem h, List.filter_append]
  simp [hb]
theorem missL_yes {a b : List Int} {k : Nat} (h : k < a.length) (hb : hasB b a[k] = false) : missL (a.take (k + 1)) b = missL (a.take k) b ++ [a[k]] := by
  unfold missL
  rw [List.take_succ_eq_append_getElem h, List.filter_append]
  simp [hb]
set_option maxHeartbeats 1000000 in
theorem chMissing_any (v u : Value) (a b : List Int) (w : World) (h : Reads w v a) (h' : Reads w u b) (hl : a.length ≤ 1048576) :
    Calls Try.prog 65 #[v, u] w fun e w' => ∃ r, e = .returned r ∧ Own w' w.heap.size r (missL a b) ∧ Below w.heap.size w w' := by
  have HU := hid h'
  obtain ⟨i0, hi, hz0, hz1, hz2⟩ := info_parts Try.info3
  obtain ⟨ao, c, rfl, hc1, hm, h⟩ := h.view
  rcases h with h | ⟨g, off, rfl, hb, hc⟩
  · subst h
    go_enter Try.func65, Try.ntmps65
    go_wp2_with fail
    refine wp_loop_rounds 1 ?_
    rw [rounds_succ]
    go_wp2_with fail
    go_ret
    exact ⟨_, rfl, Own.nil _ _, Below.refl _ _⟩
  · have HC := hid hc
    clear hc h'
    go_enter Try.func65, Try.ntmps65
    go_wp2_with fail
    go_loopw [5, 7, 10] (fun ov _ i wr => ∃ k : Nat, k ≤ a.length ∧ i = .int .i64 k ∧ Own wr w.heap.size ov (missL (a.take k) b) ∧ Below w.heap.size w wr) (fun _ _ i _ => a.length - (intOf i).toNat)
    case atStart => exact ⟨0, Nat.zero_le _, rfl, Own.nil _ _, Below.refl _ _⟩
    case round =>
      obtain ⟨k, hk, rfl, hown, hbel⟩ := hrel
      have HO := hid hown
      have HB := hid hbel
      have HUR := hid (HU.out.below hbel)
      have hsz := hbel.size
      by_cases hlt : k < a.length
      · have hcx : wr.cell? ⟨g, off + k, none⟩ = some (.int .i64 a[k]) := (hbel.cell (by exact hb)).trans (HC.out k hlt)
        have HLEN := hid (show (missL (a.take k) b).length ≤ 1048575 by have := missL_len (a.take k) b; simp at this; omega)
        obtain ⟨x, hx⟩ : ∃ x, x = a[k] := ⟨_, rfl⟩
        rw [← hx] at hcx
        cases hh : hasB b x with
        | true =>
          have HH := hid hh
          have HN := hid (missL_no (b := b) hlt (by rw [← hx]; exact hh))
          clear hown hbel hx hh
          go_wp2_with (first | (go_at_call 88; refine (l1Has_any _ b x _ HUR.out).mono ?_; rintro e w1 ⟨rfl, rfl⟩; rw [HH.out]) | fail)
          go_roundw
          case rel => exact ⟨k + 1, by omega, by go_num, by rw [HN.out]; exact HO.out, HB.out⟩
          case measure => simp [intOf]; omega
        | false =>
          have HH := hid hh
          have HN := hid (show missL (a.take (k + 1)) b = missL (a.take k) b ++ [x] by rw [hx]; exact missL_yes (b := b) hlt (by rw [← hx]; exact hh))
          clear hown hbel hx hh
          obtain ⟨l, hl2⟩ : ∃ l, l = missL (a.take k) b := ⟨_, rfl⟩
          rw [← hl2] at HO HLEN HN
          have hln := HLEN.out
          go_wp2_with (first
            | (go_at_call 88; refine (l1Has_any _ b x _ HUR.out).mono ?_; rintro e w1 ⟨rfl, rfl⟩; rw [HH.out])
            | (at_builtin; refine wpList_append_own _ rfl _ _ 28 rfl w.heap.size 3 i0 (.int .i64 0) 1 8 Try.underlying28 hi hz0 hz1 hz2 rfl (by decide) _ _ _ rfl (World.ownsRow.alloc HO.out.row _) ⟨wr.heap.size, 0, none⟩ 1 1 [.int .i64 x] rfl rfl (fun j y hj => new_cell1 j hj) (ints_one [x]) (by unfold maxLen; omega) (by omega) (by simp; omega) ?_; intro v1 w1 hown1 hgrow1 hn1; have HO1 := hid (Own.snoc hown1); have HB1 := hid ((HB.out.alloc hsz (.cells #[.int .i64 x] 3)).grown hgrow1 (by simp; omega) (fun q hq => (World.ownsRow.lt HO.out q hq).1)); clear hown1 hgrow1 hn1)
            | fail)
          go_roundw
          case rel => exact ⟨k + 1, by omega, by go_num, by rw [HN.out]; exact HO1.out, HB1.out⟩
          case measure => simp [intOf]; omega
      · obtain rfl : k = a.length := by omega
        rw [List.take_length] at HO
        clear hown hbel
        go_wp2_with fail
        go_ret
        exact ⟨_, rfl, HO.out, HB.out⟩
/-- what is exchanged, and whether it is one element each -/
def exB (a b : List Int) : Bool := decide ((missL a b).length = 1) && decide ((missL b a).length = 1)
def exO (a b : List Int) : Int := if exB a b = true then (missL a b).getD 0 0 else 0
def exI (a b : List Int) : Int := if exB a b = true then (missL b a).getD 0 0 else 0
theorem ret_nnb3 {a b a' b' : Int} {c c' : Bool} (h1 : a = a') (h2 : b = b') (h3 : c = c') : Ending.returned (.tuple #[.int .i64 a, .int .i64 b, .bool c]) = .returned (.tuple #[.int .i64 a', .int .i64 b', .bool c']) := by rw [h1, h2, h3]
theorem Own.slice2 {w : World} {B : Nat} {v : Value} {xs : List Int} (h : Own w B v xs) : ∃ ao c, v = .slice ao xs.length c := by
  rcases h.form with ⟨rfl, rfl⟩ | ⟨g, cap, rfl, _⟩
  · exact ⟨none, 0, rfl⟩
  · exact ⟨_, _, rfl⟩
set_option maxHeartbeats 1000000 in
theorem chExchange_any (v u : Value) (a b : List Int) (w : World) (h : Reads w v a) (h' : Reads w u b) (hl : a.length ≤ 1048576) (hl' : b.length ≤ 1048576) :
    Calls Try.prog 85 #[v, u] w fun e w' => e = .returned (.tuple #[.int .i64 (exO a b), .int .i64 (exI a b), .bool (exB a b)]) ∧ Below w.heap.size w w' := by
  have HV := hid h
  have HU := hid h'
  clear h h'
  obtain ⟨p, hp⟩ : ∃ p, p = missL a b := ⟨_, rfl⟩
  obtain ⟨q, hq⟩ : ∃ q, q = missL b a := ⟨_, rfl⟩
  have HP := hid hp
  have HQ := hid hq
  have HEX := hid (show exB a b = (decide (p.length = 1) && decide (q.length = 1)) by rw [exB, ← hp, ← hq])
  have hpl : p.length ≤ 1048576 := by rw [hp]; exact Nat.le_trans (missL_len a b) hl
  have hql : q.length ≤ 1048576 := by rw [hq]; exact Nat.le_trans (missL_len b a) hl'
  clear hp hq
  by_cases h1 : p.length = 1
  · have hb1 : ((p.length : Int) != 1) = false := by simp [h1]
    by_cases h2 : q.length = 1
    · have hb2 : ((q.length : Int) != 1) = false := by simp [h2]
      obtain ⟨x, rfl⟩ := List.length_eq_one_iff.1 h1
      obtain ⟨y, rfl⟩ := List.length_eq_one_iff.1 h2
      have HE := hid (show exB a b = true by rw [HEX.out]; rfl)
      have HO := hid (show exO a b = x by rw [exO, if_pos HE.out, ← HP.out]; rfl)
      have HI := hid (show exI a b = y by rw [exI, if_pos HE.out, ← HQ.out]; rfl)
      clear h1 h2 hb1 hb2
      go_enter Try.func85, Try.ntmps85
      go_wp2_with fail
      refine (chMissing_any _ _ a b _ HV.out HU.out hl).mono ?_
      rintro e w1 ⟨r1, rfl, ho1, hb1⟩
      have HU1 := hid (HU.out.below hb1)
      have HV1 := hid (HV.out.below hb1)
      have HB1 := hid hb1
      rw [← HP.out] at ho1
      have HR1 := hid ho1
      clear ho1 hb1
      go_wp2_with fail
      refine (chMissing_any _ _ b a _ HU1.out HV1.out hl').mono ?_
      rintro e w2 ⟨r2, rfl, ho2, hb2⟩
      rw [← HQ.out] at ho2
      have ho1 := HR1.out.below hb2
      have HB2 := hid (Below_chain HB1.out hb2)
      clear hb2
      rcases ho1.form with ⟨_, hn⟩ | ⟨g1, c1, rfl, _, _, _, _, hcell1, _⟩
      · simp at hn
      rcases ho2.form with ⟨_, hn⟩ | ⟨g2, c2, rfl, _, _, _, _, hcell2, _⟩
      · simp at hn
      have hx := hcell1 0 (by simp)
      have hy := hcell2 0 (by simp)
      have hx : w2.cell? ⟨g1, 0, none⟩ = some (.int .i64 x) := hx
      have hy : w2.cell? ⟨g2, 0, none⟩ = some (.int .i64 y) := hy
      clear ho1 ho2 hcell1 hcell2
      go_wp2_with fail
      go_quiet (fail)
      go_wp2_with fail
      go_ret3
      exact ⟨ret_nnb3 HO.out.symm HI.out.symm HE.out.symm, below_drewN HB2.out _⟩
    · have hb2 : ((q.length : Int) != 1) = true := by simp; omega
      have HE := hid (show exB a b = false by rw [HEX.out, decide_eq_false h2, Bool.and_false])
      have HO := hid (show exO a b = 0 by rw [exO, if_neg (by rw [HE.out]; simp)])
      have HI := hid (show exI a b = 0 by rw [exI, if_neg (by rw [HE.out]; simp)])
      clear h1 h2
      go_enter Try.func85, Try.ntmps85
      go_wp2_with fail
      refine (chMissing_any _ _ a b _ HV.out HU.out hl).mono ?_
      rintro e w1 ⟨r1, rfl, ho1, hb1'⟩
      have HU1 := hid (HU.out.below hb1')
      have HV1 := hid (HV.out.below hb1')
      have HB1 := hid hb1'
      rw [← HP.out] at ho1
      obtain ⟨ao1, c1, rfl⟩ := ho1.slice2
      clear ho1 hb1'
      go_wp2_with fail
      refine (chMissing_any _ _ b a _ HU1.out HV1.out hl').mono ?_
      rintro e w2 ⟨r2, rfl, ho2, hb2'⟩
      rw [← HQ.out] at ho2
      obtain ⟨ao2, c2, rfl⟩ := ho2.slice2
      have HB2 := hid (Below_chain HB1.out hb2')
      clear hb2' ho2
      go_wp2_with fail
      go_ret3
      exact ⟨ret_nnb3 HO.out.symm HI.out.symm HE.out.symm, HB2.out⟩
  · have hb1 : ((p.length : Int) != 1) = true := by simp; omega
    have HE := hid (show exB a b = false by rw [HEX.out, decide_eq_false h1, Bool.false_and])
    have HO := hid (show exO a b = 0 by rw [exO, if_neg (by rw [HE.out]; simp)])
    have HI := hid (show exI a b = 0 by rw [exI, if_neg (by rw [HE.out]; simp)])
    clear h1
    go_enter Try.func85, Try.ntmps85
    go_wp2_with fail
    refine (chMissing_any _ _ a b _ HV.out HU.out hl).mono ?_
    rintro e w1 ⟨r1, rfl, ho1, hb1'⟩
    have HU1 := hid (HU.out.below hb1')
    have HV1 := hid (HV.out.below hb1')
    have HB1 := hid hb1'
    rw [← HP.out] at ho1
    obtain ⟨ao1, c1, rfl⟩ := ho1.slice2
    clear ho1 hb1'
    go_wp2_with fail
    refine (chMissing_any _ _ b a _ HU1.out HV1.out hl').mono ?_
    rintro e w2 ⟨r2, rfl, ho2, hb2'⟩
    rw [← HQ.out] at ho2
    obtain ⟨ao2, c2, rfl⟩ := ho2.slice2
    have HB2 := hid (Below_chain HB1.out hb2')
    clear hb2' ho2
    go_wp2_with fail
    go_ret3
    exact ⟨ret_nnb3 HO.out.symm HI.out.symm HE.out.symm, HB2.out⟩
end Go.Proofs.Ytijjdidljoicfab
