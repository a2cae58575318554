/- One number more behind an owned slice, nil or not, and what stays beside it; the last number of a stack. Conditions: at most 2^20 numbers. -/
import Derived.Test.YteimfdpkodcfbaaBs2
import Derived.Test.YteimfdpkodcfbaaRow
namespace Go.Proofs.Yteimfdpkodcfbaa
open Go.RowKit Go.Maps
set_option linter.unusedVariables false

theorem Own.lenA {w : World} {B n c : Nat} {aA : Option Addr} {G : List Int} (h : Own w B (.slice aA n c) G) : n = G.length := by
  rcases h.form with ⟨e, e2⟩ | ⟨g, cap, e, _⟩
  · simp only [Value.slice.injEq] at e
    rw [e2, e.2.1]; rfl
  · simp only [Value.slice.injEq] at e
    exact e.2.1
theorem Own.shp9 {w : World} {base : Nat} {v : Value} {xs : List Int} (h : Own w base v xs) : ∃ ao c, v = .slice ao xs.length c ∧ xs.length ≤ c ∧ c ≤ 9223372036854775807 := by
  rcases h.form with ⟨rfl, rfl⟩ | ⟨g, cap, rfl, _, _, h1, h2, _⟩
  · exact ⟨none, 0, rfl, Nat.le_refl _, by omega⟩
  · exact ⟨_, cap, rfl, h1, by unfold maxLen at h2; omega⟩
def Dj (u v : Value) : Prop := ∀ q, u.ownBlock = some q → v.ownBlock ≠ some q
theorem Dj.symm {u v : Value} (h : Dj u v) : Dj v u := fun q hq hu => h q hu hq
theorem Dj.nil (v : Value) : Dj (.slice none 0 0) v := fun q hq => by simp [Value.ownBlock] at hq
theorem Dj.len {g h n m c d n' m' c' d' : Nat} (hd : Dj (.slice (some ⟨g, 0, none⟩) n c) (.slice (some ⟨h, 0, none⟩) m d)) : Dj (.slice (some ⟨g, 0, none⟩) n' c') (.slice (some ⟨h, 0, none⟩) m' d') := hd
theorem grownBy_set9 (W : World) (b k : Nat) (v : Value) : W.grownBy (W.setCell ⟨b, k, none⟩ v) (some b) :=
  ⟨rfl, rfl, rfl, by simp, fun i _ hne => Below.heap_setCell _ _ _ i (fun e => hne (by rw [e]))⟩
structure Pushed (w w' : World) (B : Nat) (v v' : Value) (G : List Int) (x : Int) : Prop where
  own : Own w' B v' (G ++ [x])
  keep : ∀ (u : Value) (A : Nat) (ys : List Int), Own w A u ys → Dj u v → Own w' A u ys ∧ Dj u v'
  block : ∀ k, k < w.heap.size → v.ownBlock ≠ some k → w'.heap[k]? = w.heap[k]?
  below : ∀ w0 : World, w0.heap.size = B → Below w0.heap.size w0 w → Below w0.heap.size w0 w'
  under : ∀ (b : Nat) (w0 : World), b ≤ B → b ≤ w.heap.size → Below b w0 w → Below b w0 w'
  size : w.heap.size ≤ w'.heap.size
theorem wpList_push {P : Program} (w : World) {ops : Array Oper} {rest : List Oper} {o : Oper} {a : Act} {Q : Exit → Act → World → Prop} (hgd : o.guard = none) (s x : Operand) (t : TypeId)
    (ho : o.op = .call { callee := .builtin .append, args := #[s, x], argTypes := #[t, t] }) (B : Nat) (i : TypeInfo) (ht : P.underlying t = some (.slice 3)) (hi : P.info? 3 = some i) (hz : i.zero = some (.int .i64 0)) (hsize : i.size = 1) (hby : i.bytes = 8)
    (aA : Option Addr) (n c : Nat) (G : List Int) (hs : a.eval s = .slice aA n c) (hown : Own w B (.slice aA n c) G) (z : Int) (gs : Nat) (hgs : w.heap.size = gs) (hx : a.eval x = .slice (some ⟨gs, 0, none⟩) 1 1) (hn : n ≤ 1048576) (hB : B ≤ w.heap.size)
    (h : ∀ (g cap : Nat) (w' : World), Pushed w w' B (.slice aA n c) (.slice (some ⟨g, 0, none⟩) (n + 1) cap) G z → wpList P ops Q rest (a.put o.dst (.slice (some ⟨g, 0, none⟩) (n + 1) cap)) w') :
    wpList P ops Q (o :: rest) a (w.alloc (.cells #[.int .i64 z] 3)) := by
  subst hgs
  have hl : n = G.length := hown.lenA
  have hrow := hown.row
  rw [← hl] at hrow
  refine wpList_append_lies _ hgd s x t ho B 3 i (.int .i64 0) 1 8 ht hi hz hsize hby rfl (by decide) _ n _ hs (World.ownsRow.alloc hrow _) ⟨w.heap.size, 0, none⟩ 1 1 [.int .i64 z] hx rfl (fun j u hj => new_cell1 j hj) (one_cell _ _) Nat.zero_lt_one (by unfold maxLen; omega) (by omega) (by simp; omega) ?_
  intro g cap w' h1 h2 h3
  refine h g cap w' ⟨?_, fun u A ys hu hd => ⟨?_, fun q hq => ?_⟩, fun k hk hne => ?_, fun w0 e hb => ?_, fun b w0 h4 h5 hb => ?_, Nat.le_trans (by simp) h2.size⟩
  · rw [hl] at h1 ⊢
    exact Own.snoc h1
  · refine Own.kept (hu.below ((Below.refl _ _).alloc (Nat.le_refl _) _)) h2 ?_
    cases hq : u.ownBlock with
    | none => exact .inl rfl
    | some q => exact .inr (fun e => hd q hq e.symm)
  · have hlt := (World.ownsRow.lt hu q hq).2
    show some g ≠ some q
    intro e
    have e2 : g = q := Option.some.inj e
    subst e2
    rcases h3 with h3 | h3
    · exact hd g hq h3
    · simp at h3; omega
  · rw [h2.block k (by simp; omega) (fun e => hne e.symm)]
    exact ((Below.refl w.heap.size w).alloc (Nat.le_refl _) _).block k hk
  · subst e
    exact (hb.alloc hb.size _).grown h2 (Nat.le_trans hb.size (by simp)) (fun k hk => (World.ownsRow.lt hrow k hk).1)
  · exact (hb.alloc h5 _).grown h2 (Nat.le_trans h5 (by simp)) (fun k hk => Nat.le_trans h4 (World.ownsRow.lt hrow k hk).1)
theorem Own.cutP {w : World} {B go co n : Nat} {a : Int} {r : List Int} (h : Own w B (.slice (some ⟨go, 0, none⟩) n co) ((a :: r).reverse)) : Own w B (.slice (some ⟨go, 0, none⟩) r.length co) r.reverse := by
  have h1 := h.cut r.length (by simp)
  rwa [List.reverse_cons, List.take_left' (by simp)] at h1
structure TopC (w : World) (B g t c : Nat) (a : Int) (r : List Int) : Prop where
  cell : w.cell? ⟨g, t, none⟩ = some (.int .i64 a)
  froz : w.frozen? ⟨g, t, none⟩ = false
  cap : t + 1 ≤ c
  cmax : c ≤ 9223372036854775807
  base : B ≤ g
  lt : g < w.heap.size
  cut : Own w B (.slice (some ⟨g, 0, none⟩) t c) r.reverse
  set : ∀ u : Int, Own (w.setCell ⟨g, t, none⟩ (.int .i64 u)) B (.slice (some ⟨g, 0, none⟩) (t + 1) c) ((u :: r).reverse) ∧ w.grownBy (w.setCell ⟨g, t, none⟩ (.int .i64 u)) (some g)
theorem Own.topC {w : World} {B g t c : Nat} {a : Int} {r : List Int} (h : Own w B (.slice (some ⟨g, 0, none⟩) (t + 1) c) ((a :: r).reverse)) (hr : r.length = t) : TopC w B g t c a r := by
  subst hr
  obtain ⟨c0, c1, c2, c3, c4, c5, c6⟩ := Own_cells h
  refine ⟨?_, c6 _, by simpa using c1, c2, c4, c3, h.cutP, fun u => ?_⟩
  · rw [c5 r.length (by simp)]; simp
  · have := Own.set (g := g) (cap := c) (xs := (a :: r).reverse) (base := B) (w := w) (by rw [← c0]; exact h) r.length u
    rw [← c0] at this
    rw [List.reverse_cons, List.set_append, if_neg (by simp), List.length_reverse, Nat.sub_self, List.set_cons_zero, ← List.reverse_cons] at this
    exact this
theorem Own.shapeT {w : World} {B n c : Nat} {aA : Option Addr} {a : Int} {r : List Int} (h : Own w B (.slice aA n c) ((a :: r).reverse)) : ∃ g, aA = some ⟨g, 0, none⟩ ∧ n = r.length + 1 := by
  have hl := h.lenA
  rcases h.form with ⟨_, e⟩ | ⟨g, cap, e, _⟩
  · simp at e
  · simp only [Value.slice.injEq] at e
    exact ⟨g, e.1, by simpa using e.2.1⟩
end Go.Proofs.Yteimfdpkodcfbaa
