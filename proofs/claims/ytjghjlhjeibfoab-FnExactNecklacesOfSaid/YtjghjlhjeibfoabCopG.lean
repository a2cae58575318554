/- Contract: copyOf at ints (generic since 5292894). Conditions: the slice is not nil and reads as a list of at most 2^20 numbers. -/
import Derived.Test.YtjghjlhjeibfoabBs1
import Derived.Laws.CopyOwn
namespace Go.Proofs.Ytjghjlhjeibfoab
open Go.RowKit
set_option linter.unusedVariables false

theorem heap_new (w : World) (o : Obj) : (w.alloc o).heap[w.heap.size]? = some o := by
  show (w.heap.push o)[w.heap.size]? = some o
  simp
theorem int_one {xs : List Int} : ∀ v ∈ xs.map (Value.int .i64), v.oneCell' = true := by
  intro v hv
  obtain ⟨x, _, rfl⟩ := List.mem_map.1 hv
  rfl
theorem copyOf_any (v : Value) (xs : List Int) (w : World) (h : Sits w v xs) (hl : xs.length ≤ 1048576) :
    Calls Try.prog 87 #[v] w fun e w' => e = .returned (.slice (some ⟨w.heap.size, 0, none⟩) xs.length xs.length) ∧ w'.rowIs w.heap.size 3 xs.length (fun i => .int .i64 (xs.getD i 0)) ∧ Below w.heap.size w w' := by
  obtain ⟨b, off, c, rfl, hc1, hm, hb, hc⟩ := h
  obtain ⟨i0, hi, hz0, hz1, hz2⟩ := info_parts Try.info3
  have hmk := run_make_ints xs.length hl w
  obtain ⟨cur, hcur⟩ : ∃ cur : List Value, cur = (madeCells #[.int .i64 0] xs.length).toList := ⟨_, rfl⟩
  have hcl : cur.length = xs.length := by rw [hcur, Array.length_toList, size_madeCells]
  have HG := hid (show (w.alloc (.cells (madeCells #[.int .i64 0] xs.length) 3)).heap[w.heap.size]? = some (.cells cur.toArray 3 (0, 0)) by rw [hcur]; exact heap_new _ _)
  have HSZ := hid (show (Try.prog.info? 3).map (·.size) = some 1 by rw [hi]; simp [hz1])
  have HN := hid (show (xs.map (Value.int .i64)).length = Nat.min xs.length xs.length by rw [List.length_map]; exact (Nat.min_self _).symm)
  have HPOS := hid (show 0 < (xs.map (Value.int .i64)).length → some (⟨w.heap.size, 0, none⟩ : Addr) = some ⟨w.heap.size, 0, none⟩ ∧ ∃ ad, some (⟨b, off, none⟩ : Addr) = some ad ∧ ∀ j v, (xs.map (Value.int .i64))[j]? = some v → (w.alloc (.cells (madeCells #[.int .i64 0] xs.length) 3)).cell? (ad.add j) = some v from
    fun _ => ⟨rfl, _, rfl, Sits.src (n := 0) (c := 0) (fun i hi => by rw [World.cell?_alloc_past _ _ _ hb]; exact hc i hi)⟩)
  have HFIT := hid (show 0 + (xs.map (Value.int .i64)).length ≤ cur.length by simp [hcl])
  have HSPL := hid (show splice cur 0 (xs.map (Value.int .i64)) = xs.map (Value.int .i64) by simp [splice, hcl])
  have HB := hid ((Below.refl w.heap.size w).alloc (Nat.le_refl _) (.cells (madeCells #[.int .i64 0] xs.length) 3))
  clear hc hcur hcl
  go_enter Try.func87, Try.ntmps87
  go_wp2_with (first
    | (with_reducible refine wpList_copy_splice rfl (.tmp 7) (.tmp 8) 22 22 rfl 3 Try.underlying22 HSZ.out _ _ _ _ _ _ rfl rfl w.heap.size 0 cur 3 HG.out (xs.map (Value.int .i64)) HN.out HPOS.out HFIT.out int_one w.heap.size w HB.out (Nat.le_refl _) ?_; intro w' hsp hbel; have HBEL := hid hbel; clear hbel)
    | fail)
  go_ret
  refine ⟨rfl, ⟨(xs.map (Value.int .i64)).toArray, by rw [← HSPL.out]; exact hsp.out, by simp, fun i hi => by simp [hi]⟩, HBEL.out⟩
theorem copy_own {w : World} {g : Nat} {xs : List Int} (hl : xs.length ≤ 1048576) (h : w.rowIs g 3 xs.length (fun i => .int .i64 (xs.getD i 0))) : Own w g (.slice (some ⟨g, 0, none⟩) xs.length xs.length) xs :=
  Own.of_rowIs h rfl (by unfold maxLen; omega)
end Go.Proofs.Ytjghjlhjeibfoab
