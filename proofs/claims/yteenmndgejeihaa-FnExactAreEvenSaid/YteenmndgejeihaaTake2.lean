/- Contracts: raUpTo, slices.Delete at one element, takeOut. Conditions: the slices read as lists of at most 2^20 numbers; indexes lie within. -/
import Derived.Test.YteenmndgejeihaaTake
import Derived.Test.YteenmndgejeihaaPerm1
namespace Go.Proofs.Yteenmndgejeihaa
open Go.RowKit
set_option linter.unusedVariables false

theorem one_cell (k : IntKind) (x : Int) : ∀ u ∈ [Value.int k x], u.oneCell' = true := by
  intro u hu
  simp at hu
  subst hu
  rfl
theorem raUpTo_any (n : Nat) (w : World) (hn : n ≤ 1048576) :
    Calls Try.prog 84 #[.int .i64 (n : Int)] w fun e w' => ∃ u, e = .returned u ∧ Own w' w.heap.size u (upTo n) ∧ Below w.heap.size w w' := by
  obtain ⟨i0, hi, hz0, hz1, hz2⟩ := info_parts Try.info3
  go_enter Try.func84, Try.ntmps84
  go_wp2_with fail
  go_loopw [3, 4] (fun v i wr => ∃ k : Nat, k ≤ n ∧ i = .int .i64 k ∧ Own wr w.heap.size v (upTo k) ∧ Below w.heap.size w wr) (fun _ i _ => n - (intOf i).toNat)
  case atStart => exact ⟨0, Nat.zero_le _, rfl, Own.nil _ _, Below.refl _ _⟩
  case round =>
    obtain ⟨k, hk, rfl, hown, hbel⟩ := hrel
    by_cases hlt : k < n
    · have hsz := hbel.size
      have hir := hown.row
      rw [upTo_length] at hir
      have HIR := hid hir
      have HBB := hid hbel
      have HI := hid (upTo_succ k)
      clear hir hown hbel
      go_wp2_with (at_builtin; refine wpList_append_own _ rfl _ _ 22 rfl w.heap.size 3 i0 (.int .i64 0) 1 8 Try.underlying22 hi hz0 hz1 hz2 rfl (by decide) _ _ _ rfl (World.ownsRow.alloc HIR.out _) ⟨wr.heap.size, 0, none⟩ 1 1 [.int .i64 (k : Int)] rfl rfl (fun j u hj => new_cell1 j hj) (one_cell _ _) ?c3 ?c4 ?c5 ?_)
      case c3 => unfold maxLen; omega
      case c4 => omega
      case c5 => (try simp); omega
      intro v' w1 hown' hgrow _
      have hown2 : Own w1 w.heap.size v' (upTo (k + 1)) := by
        rw [HI.out]
        refine Own.snoc ?_
        rw [upTo_length]
        exact hown'
      have hbel2 : Below w.heap.size w w1 := (HBB.out.alloc hsz _).grown hgrow (by simp; omega) (fun q hq => (World.ownsRow.lt HIR.out q hq).1)
      clear hown' hgrow
      go_wp2
      go_roundw
      case rel => exact ⟨k + 1, by omega, by go_num, hown2, hbel2⟩
      case measure => simp [intOf]; omega
    · obtain rfl : k = n := by omega
      go_wp2
      go_ret
      exact ⟨_, rfl, hown, hbel⟩
theorem Own_cells {w : World} {lo g n c : Nat} {xs : List Int} (h : Own w lo (.slice (some ⟨g, 0, none⟩) n c) xs) :
    n = xs.length ∧ xs.length ≤ c ∧ c ≤ 9223372036854775807 ∧ g < w.heap.size ∧ lo ≤ g ∧ (∀ i (hi : i < xs.length), w.cell? ⟨g, i, none⟩ = some (.int .i64 xs[i])) ∧ ∀ i, w.frozen? ⟨g, i, none⟩ = false := by
  have hn := h.len
  rcases h.form with ⟨h1, h2⟩ | ⟨g', cap, e, hlo, hlt, h1, h2, hc, hf⟩
  · simp at h1
  · simp only [Value.slice.injEq, Option.some.injEq, Addr.mk.injEq, and_true] at e
    obtain ⟨rfl, _, rfl⟩ := e
    unfold maxLen at h2
    exact ⟨hn, h1, by omega, hlt, hlo, fun i hi => by
      have := hc i hi
      rw [Nat.zero_add, getD_at hi] at this
      exact this, hf⟩

end Go.Proofs.Yteenmndgejeihaa
