/- Contracts: raUpTo, slices.Delete at one element, takeOut. Conditions: the slices read as lists of at most 2^20 numbers; indexes lie within. -/
import Derived.Test.YtgfafnejgbblhaaTake
import Derived.Test.YtgfafnejgbblhaaPerm1
import Derived.Ground.Names2Prog
import Derived.Shelf.Slices.Delete
import Derived.Shelf.Slices.Cells
namespace Go.Proofs.Ytgfafnejgbblhaa
open Go.RowKit
set_option linter.unusedVariables false

theorem one_cell (k : IntKind) (x : Int) : ∀ u ∈ [Value.int k x], u.oneCell' = true := by
  intro u hu
  simp at hu
  subst hu
  rfl
theorem raUpTo_any (n : Nat) (w : World) (hn : n ≤ 1048576) :
    Calls Try.prog 70 #[.int .i64 (n : Int)] w fun e w' => ∃ u, e = .returned u ∧ Own w' w.heap.size u (upTo n) ∧ Below w.heap.size w w' := by
  obtain ⟨i0, hi, hz0, hz1, hz2⟩ := info_parts Try.info3
  go_enter Try.func70, Try.ntmps70
  go_wp2_with fail
  go_loopw [3, 4] (fun v i wr => ∃ k : Nat, k ≤ n ∧ i = .int .i64 k ∧ Own wr w.heap.size v (upTo k) ∧ Below w.heap.size w wr) (fun _ i _ => n - (intOf i).toNat)
  case atStart => exact ⟨0, Nat.zero_le _, rfl, Own.nil _ _, Below.refl _ _⟩
  case round =>
    obtain ⟨k, hk, rfl, hown, hbel⟩ := hrel
    by_cases hlt : k < n
    · have hsz := hbel.size
      have hir := hown.row
      rw [upTo_length] at hir
      have HIR := hid hir
      have HBB := hid hbel
      have HI := hid (upTo_succ k)
      clear hir hown hbel
      go_wp2_with (at_builtin; refine wpList_append_own _ rfl _ _ 27 rfl w.heap.size 3 i0 (.int .i64 0) 1 8 Try.underlying27 hi hz0 hz1 hz2 rfl (by decide) _ _ _ rfl (World.ownsRow.alloc HIR.out _) ⟨wr.heap.size, 0, none⟩ 1 1 [.int .i64 (k : Int)] rfl rfl (fun j u hj => new_cell1 j hj) (one_cell _ _) ?c3 ?c4 ?c5 ?_)
      case c3 => unfold maxLen; omega
      case c4 => omega
      case c5 => (try simp); omega
      intro v' w1 hown' hgrow _
      have hown2 : Own w1 w.heap.size v' (upTo (k + 1)) := by
        rw [HI.out]
        refine Own.snoc ?_
        rw [upTo_length]
        exact hown'
      have hbel2 : Below w.heap.size w w1 := (HBB.out.alloc hsz _).grown hgrow (by simp; omega) (fun q hq => (World.ownsRow.lt HIR.out q hq).1)
      clear hown' hgrow
      go_wp2
      go_roundw
      case rel => exact ⟨k + 1, by omega, by go_num, hown2, hbel2⟩
      case measure => simp [intOf]; omega
    · obtain rfl : k = n := by omega
      go_wp2
      go_ret
      exact ⟨_, rfl, hown, hbel⟩
def delRen : Go.Shelf.Ren := ⟨fun | 23 => 77 | n => n, fun | 22 => 27 | 3 => 3 | 4 => 4 | 0 => 0 | n => n, fun | n => n⟩
theorem delLays : Go.Proofs.Lays2.n23 Try.prog delRen := {
  mixed := by kernel_rfl
  f23 := Try.func77.trans (congrArg some (by kernel_rfl))
  t0 := Try.underlying0
  a0 := Try.isAgg0
  z0 := Try.sizeOf0
  v0 := Try.zeroValue0
  t3 := Try.underlying3
  a3 := Try.isAgg3
  z3 := Try.sizeOf3
  v3 := Try.zeroValue3
  t4 := Try.underlying4
  a4 := Try.isAgg4
  z4 := Try.sizeOf4
  v4 := Try.zeroValue4
  t22 := Try.underlying27
  a22 := Try.isAgg27
  z22 := Try.sizeOf27
  v22 := Try.zeroValue27
  i3 := by kernel_rfl }

theorem Own_cells {w : World} {lo g n c : Nat} {xs : List Int} (h : Own w lo (.slice (some ⟨g, 0, none⟩) n c) xs) :
    n = xs.length ∧ xs.length ≤ c ∧ c ≤ 9223372036854775807 ∧ g < w.heap.size ∧ lo ≤ g ∧ (∀ i (hi : i < xs.length), w.cell? ⟨g, i, none⟩ = some (.int .i64 xs[i])) ∧ ∀ i, w.frozen? ⟨g, i, none⟩ = false := by
  have hn := h.len
  rcases h.form with ⟨h1, h2⟩ | ⟨g', cap, e, hlo, hlt, h1, h2, hc, hf⟩
  · simp at h1
  · simp only [Value.slice.injEq, Option.some.injEq, Addr.mk.injEq, and_true] at e
    obtain ⟨rfl, _, rfl⟩ := e
    unfold maxLen at h2
    exact ⟨hn, h1, by omega, hlt, hlo, fun i hi => by
      have := hc i hi
      rw [Nat.zero_add, getD_at hi] at this
      exact this, hf⟩

theorem delete_any (lo g c k : Nat) (xs : List Int) (w : World) (h : Own w lo (.slice (some ⟨g, 0, none⟩) xs.length c) xs) (hk : k < xs.length) :
    Calls Try.prog 77 #[.slice (some ⟨g, 0, none⟩) xs.length c, .int .i64 (k : Int), .int .i64 ((k : Int) + 1)] w fun e w' => e = .returned (.slice (some ⟨g, 0, none⟩) (xs.length - 1) c) ∧ Own w' lo (.slice (some ⟨g, 0, none⟩) (xs.length - 1) c) (xs.eraseIdx k) ∧ w.grownBy w' (some g) := by
  obtain ⟨_, h1, h2, h3, h4, hc, hf⟩ := Own_cells h
  have := Any.slices_Delete_int_cells delLays g 0 xs.length c k (k + 1) xs w (Nat.le_refl _) h1 h2 (by omega) hk (fun j hj => by rw [Nat.zero_add, getD_at hj]; exact hc j hj) (fun j _ => by rw [Nat.zero_add]; exact hf j)
  refine this.mono ?_
  rintro e w' ⟨rfl, q, rfl⟩
  have hd : Own (w.drewN q) lo (.slice (some ⟨g, 0, none⟩) xs.length c) xs := h.below (below_drewN (Below.refl _ _) q)
  have hs := Own_setCells (xs.take k ++ xs.drop (k + 1) ++ [0]) (w.drewN q) xs 0 hd
  have hset : setFrom xs 0 (xs.take k ++ xs.drop (k + 1) ++ [0]) = xs.take k ++ xs.drop (k + 1) ++ [0] := by
    have := setFrom_append [] xs (xs.take k ++ xs.drop (k + 1) ++ [0]) (by simp; omega)
    simpa using this
  rw [hset] at hs
  have e1 : k + 1 - k = 1 := by omega
  rw [List.take_length, e1]
  refine ⟨rfl, ?_, ?_⟩
  · have hcut := hs.1.cut (xs.length - 1) (by simp; omega)
    have e2 : (xs.take k ++ xs.drop (k + 1) ++ [0]).take (xs.length - 1) = xs.eraseIdx k := by
      rw [List.take_append_of_le_length (by simp; omega), List.take_of_length_le (by simp; omega), List.eraseIdx_eq_take_drop_succ]
    rw [e2] at hcut
    exact hcut
  · have hg0 : w.grownBy (w.drewN q) (some g) := ⟨rfl, rfl, rfl, Nat.le_refl _, fun _ _ _ => rfl⟩
    exact grownBy_trans hg0 hs.2
theorem takeOut_any (lo g c k : Nat) (xs : List Int) (w : World) (h : Own w lo (.slice (some ⟨g, 0, none⟩) xs.length c) xs) (hk : k < xs.length) (hl : xs.length ≤ 1048576) :
    Calls Try.prog 71 #[.slice (some ⟨g, 0, none⟩) xs.length c, .int .i64 (k : Int)] w fun e w' => e = .returned (.tuple #[.int .i64 xs[k], .slice (some ⟨g, 0, none⟩) (xs.length - 1) c]) ∧ Own w' lo (.slice (some ⟨g, 0, none⟩) (xs.length - 1) c) (xs.eraseIdx k) ∧ w.grownBy w' (some g) := by
  obtain ⟨_, h1, h2, h3, h4, hc, hf⟩ := Own_cells h
  have hcx := hc k hk
  have HD := hid (delete_any lo g c k xs w h hk)
  clear hc hf h
  go_enter Try.func71, Try.ntmps71
  go_wp2_with (go_at_call 77; refine HD.out.mono ?_; rintro e w' ⟨rfl, ho, hg⟩)
  go_ret2
  exact ⟨rfl, by assumption, by assumption⟩
end Go.Proofs.Ytgfafnejgbblhaa
