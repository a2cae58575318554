/- One list more behind an owned list of lists; lists of lists that are read. Conditions: at most 2^20 lists. -/
import Derived.Test.YtjghjlhjeibfoabLE
import Derived.Test.YtjghjlhjeibfoabPush0
namespace Go.Proofs.Ytjghjlhjeibfoab
open Go.RowKit
set_option linter.unusedVariables false
set_option maxRecDepth 4000

theorem Lists.readsL {w : World} {B : Nat} {v : Value} {L : List (List Int)} (h : Lists w B v L) : ReadsL w v L := by
  rcases h.form with ⟨rfl, rfl⟩ | ⟨g, cap, rfl, _, hg, h1, h2, hc⟩
  · exact ⟨none, 0, rfl, Nat.le_refl _, by unfold maxLen; omega, .inl rfl⟩
  · refine ⟨_, cap, rfl, h1, by unfold maxLen; omega, .inr ⟨g, 0, rfl, hg, fun i hi => ?_⟩⟩
    obtain ⟨u, hu, ho⟩ := hc i hi
    exact ⟨u, by rw [Nat.zero_add]; exact hu, ho.reads⟩
theorem Lists.lenA {w : World} {B n c : Nat} {aA : Option Addr} {L : List (List Int)} (h : Lists w B (.slice aA n c) L) : n = L.length := by
  rcases h.form with ⟨e, e2⟩ | ⟨g, cap, e, _⟩
  · simp only [Value.slice.injEq] at e
    rw [e2, e.2.1]; rfl
  · simp only [Value.slice.injEq] at e
    exact e.2.1
theorem wpList_pushL {P : Program} (w : World) {ops : Array Oper} {rest : List Oper} {o : Oper} {a : Act} {Q : Exit → Act → World → Prop} (hgd : o.guard = none) (s x : Operand) (t : TypeId)
    (ho : o.op = .call { callee := .builtin .append, args := #[s, x], argTypes := #[t, t] }) (B : Nat) (i : TypeInfo) (ht : P.underlying t = some (.slice 22)) (hi : P.info? 22 = some i) (hz : i.zero = some (.slice none 0 0)) (hsize : i.size = 1) (hby : i.bytes = 24)
    (aA : Option Addr) (n c : Nat) (L : List (List Int)) (hs : a.eval s = .slice aA n c) (hL : Lists w B (.slice aA n c) L) (u : Value) (l : List Int) (hu : Own w B u l) (gs : Nat) (hgs : w.heap.size = gs) (hx : a.eval x = .slice (some ⟨gs, 0, none⟩) 1 1) (hn : n ≤ 1048576) (hB : B ≤ w.heap.size)
    (h : ∀ (g cap : Nat) (w' : World), Lists w' B (.slice (some ⟨g, 0, none⟩) (n + 1) cap) (L ++ [l]) → (∀ w0 : World, w0.heap.size = B → Below w0.heap.size w0 w → Below w0.heap.size w0 w') → wpList P ops Q rest (a.put o.dst (.slice (some ⟨g, 0, none⟩) (n + 1) cap)) w') :
    wpList P ops Q (o :: rest) a (w.alloc (.cells #[u] 22)) := by
  subst hgs
  have hl := hL.lenA
  subst hl
  have hb : Below w.heap.size w (w.alloc (.cells #[u] 22)) := (Below.refl _ _).alloc (Nat.le_refl _) _
  obtain ⟨vs, hvl, hvr, hve⟩ := hL.below hb
  refine wpList_append_lies _ hgd s x t ho B 22 i (.slice none 0 0) 1 24 ht hi hz hsize hby rfl (by decide) _ L.length _ hs hvr ⟨w.heap.size, 0, none⟩ 1 1 [u] hx rfl (fun j u hj => new_cellV j hj) hu.one Nat.zero_lt_one (by unfold maxLen; omega) (by omega) (by simp; omega) ?_
  intro g cap w' h1 h2 h3
  refine h g cap w' ?_ (fun w0 e hb0 => ?_)
  · exact Lists_push hvl hvr hve (hu.below hb) h1 h2
  · subst e
    exact (hb0.alloc hb0.size _).grown h2 (Nat.le_trans hb0.size (by simp)) (fun k hk => (World.ownsRow.lt hvr k hk).1)
/-- The like, and the row that is put behind stays as it was. -/
theorem wpList_pushL2 {P : Program} (w : World) {ops : Array Oper} {rest : List Oper} {o : Oper} {a : Act} {Q : Exit → Act → World → Prop} (hgd : o.guard = none) (s x : Operand) (t : TypeId)
    (ho : o.op = .call { callee := .builtin .append, args := #[s, x], argTypes := #[t, t] }) (B : Nat) (i : TypeInfo) (ht : P.underlying t = some (.slice 22)) (hi : P.info? 22 = some i) (hz : i.zero = some (.slice none 0 0)) (hsize : i.size = 1) (hby : i.bytes = 24)
    (aA : Option Addr) (n c : Nat) (L : List (List Int)) (hs : a.eval s = .slice aA n c) (hL : Lists w B (.slice aA n c) L) (u : Value) (l : List Int) (hu : Own w B u l) (gs : Nat) (hgs : w.heap.size = gs) (hx : a.eval x = .slice (some ⟨gs, 0, none⟩) 1 1) (hn : n ≤ 1048576) (hB : B ≤ w.heap.size)
    (h : ∀ (g cap : Nat) (w' : World), Lists w' B (.slice (some ⟨g, 0, none⟩) (n + 1) cap) (L ++ [l]) → Own w' B u l → (∀ w0 : World, w0.heap.size = B → Below w0.heap.size w0 w → Below w0.heap.size w0 w') → wpList P ops Q rest (a.put o.dst (.slice (some ⟨g, 0, none⟩) (n + 1) cap)) w') :
    wpList P ops Q (o :: rest) a (w.alloc (.cells #[u] 22)) := by
  subst hgs
  have hl := hL.lenA
  subst hl
  have hb : Below w.heap.size w (w.alloc (.cells #[u] 22)) := (Below.refl _ _).alloc (Nat.le_refl _) _
  obtain ⟨vs, hvl, hvr, hve⟩ := hL.below hb
  refine wpList_append_lies _ hgd s x t ho B 22 i (.slice none 0 0) 1 24 ht hi hz hsize hby rfl (by decide) _ L.length _ hs hvr ⟨w.heap.size, 0, none⟩ 1 1 [u] hx rfl (fun j u hj => new_cellV j hj) hu.one Nat.zero_lt_one (by unfold maxLen; omega) (by omega) (by simp; omega) ?_
  intro g cap w' h1 h2 h3
  refine h g cap w' ?_ (Own.kept_type (hu.below hb) (T := 22) (by decide) hvr h2) (fun w0 e hb0 => ?_)
  · exact Lists_push hvl hvr hve (hu.below hb) h1 h2
  · subst e
    exact (hb0.alloc hb0.size _).grown h2 (Nat.le_trans hb0.size (by simp)) (fun k hk => (World.ownsRow.lt hvr k hk).1)
/-- The like, and all rows of ints stay as they were. -/
theorem wpList_pushL3 {P : Program} (w : World) {ops : Array Oper} {rest : List Oper} {o : Oper} {a : Act} {Q : Exit → Act → World → Prop} (hgd : o.guard = none) (s x : Operand) (t : TypeId)
    (ho : o.op = .call { callee := .builtin .append, args := #[s, x], argTypes := #[t, t] }) (B : Nat) (i : TypeInfo) (ht : P.underlying t = some (.slice 22)) (hi : P.info? 22 = some i) (hz : i.zero = some (.slice none 0 0)) (hsize : i.size = 1) (hby : i.bytes = 24)
    (aA : Option Addr) (n c : Nat) (L : List (List Int)) (hs : a.eval s = .slice aA n c) (hL : Lists w B (.slice aA n c) L) (u : Value) (l : List Int) (hu : Own w B u l) (gs : Nat) (hgs : w.heap.size = gs) (hx : a.eval x = .slice (some ⟨gs, 0, none⟩) 1 1) (hn : n ≤ 1048576) (hB : B ≤ w.heap.size)
    (h : ∀ (g cap : Nat) (w' : World), Lists w' B (.slice (some ⟨g, 0, none⟩) (n + 1) cap) (L ++ [l]) → (∀ (B' : Nat) (x : Value) (xs : List Int), Own w B' x xs → Own w' B' x xs) → (∀ w0 : World, w0.heap.size = B → Below w0.heap.size w0 w → Below w0.heap.size w0 w') → wpList P ops Q rest (a.put o.dst (.slice (some ⟨g, 0, none⟩) (n + 1) cap)) w') :
    wpList P ops Q (o :: rest) a (w.alloc (.cells #[u] 22)) := by
  subst hgs
  have hl := hL.lenA
  subst hl
  have hb : Below w.heap.size w (w.alloc (.cells #[u] 22)) := (Below.refl _ _).alloc (Nat.le_refl _) _
  obtain ⟨vs, hvl, hvr, hve⟩ := hL.below hb
  refine wpList_append_lies _ hgd s x t ho B 22 i (.slice none 0 0) 1 24 ht hi hz hsize hby rfl (by decide) _ L.length _ hs hvr ⟨w.heap.size, 0, none⟩ 1 1 [u] hx rfl (fun j u hj => new_cellV j hj) hu.one Nat.zero_lt_one (by unfold maxLen; omega) (by omega) (by simp; omega) ?_
  intro g cap w' h1 h2 h3
  refine h g cap w' ?_ (fun B' x xs hx => Own.kept_type (hx.below hb) (T := 22) (by decide) hvr h2) (fun w0 e hb0 => ?_)
  · exact Lists_push hvl hvr hve (hu.below hb) h1 h2
  · subst e
    exact (hb0.alloc hb0.size _).grown h2 (Nat.le_trans hb0.size (by simp)) (fun k hk => (World.ownsRow.lt hvr k hk).1)
end Go.Proofs.Ytjghjlhjeibfoab
