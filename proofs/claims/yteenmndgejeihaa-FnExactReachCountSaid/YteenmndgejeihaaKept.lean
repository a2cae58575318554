/- Append that says which row it leaves; frames that spare a row. No conditions. -/
import Derived.Test.YteenmndgejeihaaBs1
import Derived.Deep.AppendLies
namespace Go.Proofs.Yteenmndgejeihaa
open Go.RowKit
set_option linter.unusedVariables false

/-- Blocks from M on stay as they are, but for one row. -/
structure Fr (M : Nat) (row : Option Nat) (w w' : World) : Prop where
  size : w.heap.size ≤ w'.heap.size
  block : ∀ k, M ≤ k → k < w.heap.size → some k ≠ row → w'.heap[k]? = w.heap[k]?
theorem Fr.refl (M : Nat) (row : Option Nat) (w : World) : Fr M row w w := ⟨Nat.le_refl _, fun _ _ _ _ => rfl⟩
theorem Fr.of_grown {M : Nat} {row : Option Nat} {w w' : World} (h : w.grownBy w' row) : Fr M row w w' := ⟨h.size, fun k _ hk hn => h.block k hk hn⟩
theorem Fr.trans {M : Nat} {row : Option Nat} {w w1 w2 : World} (h : Fr M row w w1) (h' : Fr M row w1 w2) : Fr M row w w2 :=
  ⟨Nat.le_trans h.size h'.size, fun k hm hk hn => (h'.block k hm (Nat.lt_of_lt_of_le hk h.size) hn).trans (h.block k hm hk hn)⟩
theorem Fr.any {M : Nat} {row : Option Nat} {w w' : World} (h : Fr M none w w') : Fr M row w w' := ⟨h.size, fun k hm hk _ => h.block k hm hk (by simp)⟩
theorem Fr.fresh {M g : Nat} {row : Option Nat} {w w1 w2 : World} (h : Fr M row w w1) (h' : Fr M (some g) w1 w2) (hg : row = some g ∨ w.heap.size ≤ g) : Fr M row w w2 :=
  ⟨Nat.le_trans h.size h'.size, fun k hm hk hn => (h'.block k hm (Nat.lt_of_lt_of_le hk h.size) (by
    rcases hg with rfl | hg
    · exact hn
    · simp; omega)).trans (h.block k hm hk hn)⟩
theorem Own.fr {M : Nat} {row : Option Nat} {w w' : World} {v : Value} {p : List Int} (h : Own w M v p) (hf : Fr M row w w') (hn : v.ownBlock = none ∨ v.ownBlock ≠ row) : Own w' M v p := by
  have hlt := World.ownsRow.lt h
  refine ⟨h.1, ?_⟩
  rcases h.2 with hnil | ⟨g, cap, cur, rfl, hg, hgg, rest⟩
  · exact .inl hnil
  · refine .inr ⟨g, cap, cur, rfl, hg, ?_, rest⟩
    have := hlt g rfl
    rw [hf.block g this.1 this.2 (by
      rcases hn with hn | hn
      · simp [Value.ownBlock] at hn
      · simpa [Value.ownBlock] using hn)]
    exact hgg
theorem Own.before {M g cap n : Nat} {w : World} {p : List Int} {x : Int} (h : Own w M (.slice (some ⟨g, 0, none⟩) n cap) (p ++ [x])) : Own w M (.slice (some ⟨g, 0, none⟩) p.length cap) p := by
  refine ⟨by simp, ?_⟩
  rcases h.2 with ⟨hn, _⟩ | ⟨g', cap', cur, e, hg, hgg, h1, h2, h3, h4⟩
  · simp at hn
  · simp only [Value.slice.injEq, Option.some.injEq, Addr.mk.injEq, and_true] at e
    obtain ⟨rfl, rfl, rfl⟩ := e
    refine .inr ⟨g, cap, cur, rfl, hg, hgg, ?_, h2, h3, ?_⟩
    · simp at h1; omega
    · have h5 := congrArg (List.take p.length) h4
      rw [List.take_take, Nat.mul_one, Nat.min_eq_left (by simp)] at h5
      rw [Nat.mul_one, h5]
      simp
/-- append of one element that says which row it leaves. -/
theorem run_append_kept {P : Program} (w : World) (base : Nat) (t ty e : TypeId) (i : TypeInfo) (z : Value) (bytes : Nat) (ht : P.underlying t = some (.slice e)) (hi : P.info? e = some i) (hz : i.zero = some z)
    (hsize : i.size = 1) (hby : i.bytes = bytes) (hzs : z.cells.size = 1) (v : Value) (n : Nat) (xs : List Value) (hown : w.ownsRow base e 1 v n xs)
    (a : Addr) (c : Nat) (u : Value) (hnews : ∀ j y, [u][j]? = some y → w.cell? (a.add j) = some y) (h1 : u.oneCell' = true) (h63 : n + 1 ≤ maxLen) (hbytes : (n + 1) * bytes ≤ 140737488355328) (hbase : base ≤ w.heap.size) :
    ∃ g cap w', (Builtin.append_ #[t, t] ty #[v, .slice (some a) 1 c]).run P w = .ok (.slice (some ⟨g, 0, none⟩) (n + 1) cap) w' ∧ w'.ownsRow base e 1 (.slice (some ⟨g, 0, none⟩) (n + 1) cap) (n + 1) (xs ++ [u]) ∧ w.grownBy w' v.ownBlock ∧
      (v = .slice (some ⟨g, 0, none⟩) n cap ∨ (g = w.heap.size ∧ w.grownBy w' none)) ∧ g < w'.heap.size := by
  obtain ⟨v', w', hr, h2, h3, _, h5⟩ := run_append_own_at (P := P) w base t ty e i z 1 bytes ht hi hz hsize hby hzs (by omega) v n xs hown a 1 c [u] rfl hnews (by simpa using h1) h63 hbytes hbase
  obtain ⟨g, cap, rfl, _, hlt⟩ := h2.form (by omega)
  refine ⟨g, cap, w', hr, h2, h3, ?_, hlt⟩
  rcases h5 with h5 | h5
  · rcases hown.2 with ⟨rfl, _⟩ | ⟨g', cap', cur, rfl, hbg, hg, hnc, hcm, hcs, htake⟩
    · simp [Value.ownBlock] at h5
    · have hgg : g = g' := by simpa [Value.ownBlock] using h5
      subst hgg
      by_cases hroom : n + 1 ≤ cap'
      · have hr2 := run_append_room (P := P) w t ty e i ht hi g n cap' cur hg a 1 c [u] (by simp [hsize]) hnews (by simpa using h1) hroom (by simp [hsize, hcs]; omega)
        rw [hr] at hr2
        simp only [Result.ok.injEq, Value.slice.injEq, true_and] at hr2
        left
        rw [hr2.1]
      · have holds : ∀ j y, xs[j]? = some y → w.cell? ((⟨g, 0, none⟩ : Addr).add j) = some y := hown.cells (g := g) rfl
        have hr2 := run_append_grow (P := P) w t ty e i z ht hi hz ⟨g, 0, none⟩ n cap' xs (by rw [hsize]; exact hown.1) holds a 1 c [u] (by simp [hsize]) hnews (by omega) (by unfold maxLen at h63; omega) (growslice_fits (by omega) (by rw [hby]; exact hbytes))
        rw [hr] at hr2
        simp only [Result.ok.injEq, Value.slice.injEq, Option.some.injEq, Addr.mk.injEq] at hr2
        refine .inr ⟨hr2.1.1.1, ?_⟩
        rw [hr2.2]
        exact ⟨rfl, rfl, rfl, by simp, fun k hk _ => heap_alloc_old w.drew _ hk⟩
  · have hg : g = w.heap.size := by simpa [Value.ownBlock] using h5
    refine .inr ⟨hg, ?_⟩
    rcases hown.2 with ⟨rfl, _⟩ | ⟨g', cap', cur, rfl, hbg, hgc, hnc, hcm, hcs, htake⟩
    · exact h3
    · by_cases hroom : n + 1 ≤ cap'
      · have hr2 := run_append_room (P := P) w t ty e i ht hi g' n cap' cur hgc a 1 c [u] (by simp [hsize]) hnews (by simpa using h1) hroom (by simp [hsize, hcs]; omega)
        rw [hr] at hr2
        simp only [Result.ok.injEq, Value.slice.injEq, Option.some.injEq, Addr.mk.injEq] at hr2
        have := (Array.getElem?_eq_some_iff.1 hgc).1
        omega
      · have holds : ∀ j y, xs[j]? = some y → w.cell? ((⟨g', 0, none⟩ : Addr).add j) = some y := hown.cells (g := g') rfl
        have hr2 := run_append_grow (P := P) w t ty e i z ht hi hz ⟨g', 0, none⟩ n cap' xs (by rw [hsize]; exact hown.1) holds a 1 c [u] (by simp [hsize]) hnews (by omega) (by unfold maxLen at h63; omega) (growslice_fits (by omega) (by rw [hby]; exact hbytes))
        rw [hr] at hr2
        simp only [Result.ok.injEq] at hr2
        rw [hr2.2]
        exact ⟨rfl, rfl, rfl, by simp, fun k hk _ => heap_alloc_old w.drew _ hk⟩
theorem wpList_append_kept {P : Program} (w : World) {ops : Array Oper} {rest : List Oper} {o : Oper} {a : Act} {Q : Exit → Act → World → Prop} (hgd : o.guard = none) (s x : Operand) (t : TypeId)
    (ho : o.op = .call { callee := .builtin .append, args := #[s, x], argTypes := #[t, t] })
    (base : Nat) (e : TypeId) (i : TypeInfo) (z : Value) (bytes : Nat) (ht : P.underlying t = some (.slice e)) (hi : P.info? e = some i) (hz : i.zero = some z)
    (hsize : i.size = 1) (hby : i.bytes = bytes) (hzs : z.cells.size = 1) (v : Value) (n : Nat) (xs : List Value) (hs : a.eval s = v) (hown : w.ownsRow base e 1 v n xs)
    (ad : Addr) (c : Nat) (u : Value) (hx : a.eval x = .slice (some ad) 1 c) (hnews : ∀ j y, [u][j]? = some y → w.cell? (ad.add j) = some y) (h1 : u.oneCell' = true) (h63 : n + 1 ≤ maxLen) (hbytes : (n + 1) * bytes ≤ 140737488355328) (hbase : base ≤ w.heap.size)
    (h : ∀ g cap w', w'.ownsRow base e 1 (.slice (some ⟨g, 0, none⟩) (n + 1) cap) (n + 1) (xs ++ [u]) → w.grownBy w' v.ownBlock → (v = .slice (some ⟨g, 0, none⟩) n cap ∨ (g = w.heap.size ∧ w.grownBy w' none)) → g < w'.heap.size → wpList P ops Q rest (a.put o.dst (.slice (some ⟨g, 0, none⟩) (n + 1) cap)) w') :
    wpList P ops Q (o :: rest) a w := by
  refine wpList_plain hgd fun K hK => ?_
  obtain ⟨g, cap, w', hr, h2, h3, h4, h5⟩ := run_append_kept (P := P) w base t o.type e i z bytes ht hi hz hsize hby hzs v n xs hown ad c u hnews h1 h63 hbytes hbase
  unfold Oper.wp execOp
  simp only [ho, resolve, invoke, builtin, Sem.run_bind, Sem.run_pure, Result.andThen_ok, List.map_toArray, List.map_cons, List.map_nil, hs, hx, hr]
  exact hK _ _ (h g cap w' h2 h3 h4 h5)
theorem Sits.at' {w : World} {g o n c : Nat} {xs : List Int} (h : Sits w (.slice (some ⟨g, o, none⟩) n c) xs) : n = xs.length ∧ ∀ i (hi : i < xs.length), w.cell? ⟨g, o + i, none⟩ = some (.int .i64 xs[i]) := by
  obtain ⟨b, off, c', e, _, _, _, hc⟩ := h
  simp only [Value.slice.injEq, Option.some.injEq, Addr.mk.injEq, and_true] at e
  obtain ⟨⟨rfl, rfl⟩, rfl, rfl⟩ := e
  exact ⟨rfl, hc⟩
end Go.Proofs.Yteenmndgejeihaa
