/- Contracts: the visitor of PathThrough, and impl.PathThrough. Conditions: the slice reads as a list of at most 2^20 numbers; the table of math/bits holds what the program's text lays. -/
import Derived.Test.YtijjdidljoicfaaDoorWalkP
import Derived.Test.YtijjdidljoicfaaDoorSort
import Derived.Test.YtijjdidljoicfaaDoorCopy
namespace Go.Proofs.YtijjdidljoicfaaDoor
open Go.RowKit
set_option linter.unusedVariables false

theorem Sits.grown2 {w w' : World} {row : Option Nat} {g o n c : Nat} {xs : List Int} (h : Sits w (.slice (some ⟨g, o, none⟩) n c) xs) (hg : w.grownBy w' row) (hn : some g ≠ row) : Sits w' (.slice (some ⟨g, o, none⟩) n c) xs := by
  obtain ⟨b, off, c', e, h1, h2, h3, hc⟩ := h
  simp only [Value.slice.injEq, Option.some.injEq, Addr.mk.injEq, and_true] at e
  obtain ⟨⟨rfl, rfl⟩, rfl, rfl⟩ := e
  exact ⟨g, o, c, rfl, h1, h2, Nat.lt_of_lt_of_le h3 hg.size, fun i hi => hg.cell (hc i hi) hn⟩
theorem TZ.grown2 {w w' : World} {row : Option Nat} (h : TZ w) (hg : w.grownBy w' row) (hn : some 1 ≠ row) : TZ w' := fun b hb => hg.cell (h b hb) hn
/-- What the visitor of PathThrough finds: the table, the words, the box of the first path. -/
structure PTJ (w0 : World) (B gw b1 M : Nat) (ws : List Int) (w : World) (s : List Int) : Prop where
  tz : TZ w
  sits : Sits w (.slice (some ⟨gw, 0, none⟩) ws.length ws.length) ws
  box : ∃ u, w.rowIs b1 22 1 (fun _ => u) ∧ Own w B u s ∧ (s = [] → u = .slice none 0 0)
  bel : Below B w0 w
structure PTO (w0 : World) (B gw b1 M : Nat) : Prop where
  h1 : 1 < B
  h2 : B ≤ gw
  h3 : gw < b1
  h4 : b1 < M
  h5 : B ≤ w0.heap.size
theorem PTJ.kept {w0 w w' : World} {B gw b1 M : Nat} {ws s : List Int} {row : Option Nat} (o : PTO w0 B gw b1 M) (hs : s = []) (h : PTJ w0 B gw b1 M ws w s) (hg : w.grownBy w' row) (hr : ∀ k, row = some k → M ≤ k) : PTJ w0 B gw b1 M ws w' s := by
  have hne : ∀ q, q < M → some q ≠ row := fun q hq e => by have := hr q e.symm; omega
  have o1 := o.h1; have o2 := o.h2; have o3 := o.h3; have o4 := o.h4; have o5 := o.h5
  refine ⟨h.tz.grown2 hg (hne 1 (by omega)), h.sits.grown2 hg (hne gw (by omega)), ?_, h.bel.grown hg (Nat.le_trans o5 h.bel.size) (fun j hj => by have := hr j hj; omega)⟩
  obtain ⟨u, hb, ho, hn⟩ := h.box
  have hu := hn hs
  refine ⟨u, hb.of_block (hg.block b1 hb.lt (hne b1 o4)), ?_, hn⟩
  rw [hu, hs]
  exact Own.nil _ _
theorem visP_any (w0 : World) (B gw b1 M : Nat) (ws : List Int) (o : PTO w0 B gw b1 M) (w : World) (s : List Int) (g cap : Nat) (p : List Int) (hj : PTJ w0 B gw b1 M ws w s) (ho : Own w M (.slice (some ⟨g, 0, none⟩) p.length cap) p) (hp : 0 < p.length) (hl : p.length ≤ 1024) (hM : M ≤ w.heap.size) :
    Calls Tryd.prog 25 #[.slice (some ⟨g, 0, none⟩) p.length cap, .pointer (some ⟨b1, 0, none⟩)] w fun e w' => e = .returned (.bool (visP p s).1) ∧ PTJ w0 B gw b1 M ws w' (visP p s).2 ∧ Fr M none w w' := by
  have o1 := o.h1; have o2 := o.h2; have o3 := o.h3; have o4 := o.h4; have o5 := o.h5
  have HS := hid ho.sits
  have HJ := hid hj
  have HEND := hid (show ∀ w1, w1.rowIs w.heap.size 3 p.length (fun i => .int .i64 (p.getD i 0)) → Below w.heap.size w w1 →
      (∃ z, w1.cell? ⟨b1, 0, none⟩ = some z) ∧ w1.frozen? ⟨b1, 0, none⟩ = false ∧
      PTJ w0 B gw b1 M ws (w1.setCell ⟨b1, 0, none⟩ (.slice (some ⟨w.heap.size, 0, none⟩) p.length p.length)) p ∧ Fr M none w (w1.setCell ⟨b1, 0, none⟩ (.slice (some ⟨w.heap.size, 0, none⟩) p.length p.length)) from by
    intro w1 hrow hb
    obtain ⟨u0, hbx, _, _⟩ := HJ.out.box
    have hbx1 := hbx.of_block (hb.block b1 hbx.lt)
    have hg := grownBy_setAt' w1 b1 0 (.slice (some ⟨w.heap.size, 0, none⟩) p.length p.length)
    have hown := copy_own (by omega) hrow
    refine ⟨⟨_, hbx1.cell (i := 0) (by omega)⟩, hbx1.frozen 0, ⟨?_, ?_, ⟨.slice (some ⟨w.heap.size, 0, none⟩) p.length p.length, ?_, ?_, ?_⟩, ?_⟩, ?_⟩
    · exact (HJ.out.tz.below hb).grown2 hg (by simp; omega)
    · exact (HJ.out.sits.below hb).grown2 hg (by simp; omega)
    · exact (hbx1.set 0 (.slice (some ⟨w.heap.size, 0, none⟩) p.length p.length)).congr (fun i hi => by rw [if_pos (by omega)])
    · exact (hown.kept hg (.inr (by simp only [Value.ownBlock, ne_eq, Option.some.injEq]; have := hbx.lt; omega))).mono (by omega)
    · intro e; rw [e] at hp; simp at hp
    · exact (HJ.out.bel.trans (hb.mono (by omega))).setCell (p := ⟨b1, 0, none⟩) (by show B ≤ b1; omega) _
    · have hs := hb.size
      exact ⟨Nat.le_trans hs hg.size, fun k hm hk _ => (hg.block k (by omega) (by simp; omega)).trans (hb.block k hk)⟩)
  have hl20 : p.length ≤ 1048576 := by omega
  clear hj ho
  go_enter Tryd.func25, Tryd.ntmps25
  go_wp2_with (first | (go_at_call 21; refine (copyOf_any _ p _ HS.out hl20).mono ?_; rintro e w1 ⟨rfl, hr1, hb1⟩; obtain ⟨⟨z1, hz1⟩, hf1, hj1, hfr1⟩ := HEND.out w1 hr1 hb1; have HJ1 := hid hj1; have HFR1 := hid hfr1; clear hr1 hb1 hj1 hfr1) | fail)
  go_ret
  exact ⟨rfl, HJ1.out, HFR1.out⟩
theorem walk_P {σ : Type} (lw : Nat) (ws : List Int) (hlw : lw = ws.length) (vis : List Int → σ → Bool × σ) (J : World → σ → Prop) (M gw ow : Nat) (A1 : Addr)
    (hws : ∀ i (hi : i < ws.length), 0 ≤ ws[i] ∧ ws[i] < 1024) (hpos : 0 < ws.length) (hlen : ws.length ≤ 1024)
    (live : σ → Prop) (HL : ∀ p s s1, live s → vis p s = (true, s1) → live s1)
    (HJ : ∀ w w' row s, live s → J w s → w.grownBy w' row → (∀ k, row = some k → M ≤ k) → J w' s)
    (HW : ∀ w s, J w s → TZ w ∧ Sits w (.slice (some ⟨gw, ow, none⟩) ws.length ws.length) ws)
    (HV : ∀ w s g cap p, J w s → Own w M (.slice (some ⟨g, 0, none⟩) p.length cap) p → p.length = ws.length → small p → M ≤ w.heap.size →
      Calls Tryd.prog 25 #[.slice (some ⟨g, 0, none⟩) p.length cap, .pointer (some A1)] w fun e w' => e = .returned (.bool (vis p s).1) ∧ J w' (vis p s).2 ∧ Fr M none w w')
    (s : σ) (w : World) (hl : live s) (hj : J w s) (hM : M ≤ w.heap.size) :
      Calls Tryd.prog 23 #[.slice (some ⟨gw, ow, none⟩) lw lw, .slice none 0 0, .func (.func 24) #[] #[], .func (.func 25) #[] #[.pointer (some A1)]] w fun e w' =>
        e = .returned (.bool (wlk ws vis ws.length [] s).1) ∧ J w' (wlk ws vis ws.length [] s).2 := by
  subst hlw
  refine (walk_PathThrough ws vis J M gw ow ws.length A1 hws hpos hlen live HL HJ HW HV ws.length [] (.slice none 0 0) s w hl (by simp) (Own.nil _ _) hj (fun i hi => by simp at hi) hM).mono ?_
  rintro e w' ⟨h1, h2, _, _⟩
  exact ⟨h1, h2⟩
end Go.Proofs.YtijjdidljoicfaaDoor
