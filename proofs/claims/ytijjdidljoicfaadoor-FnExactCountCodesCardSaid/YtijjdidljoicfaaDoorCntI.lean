/- Contracts: the visitor of CountCodes, and both CountCodes functions. Conditions: the table of math/bits holds what the program's text lays. -/
import Derived.Test.YtijjdidljoicfaaDoorWalkC
import Derived.Test.YtijjdidljoicfaaDoorCntS
namespace Go.Proofs.YtijjdidljoicfaaDoor
open Go.RowKit
set_option linter.unusedVariables false

def visC (p : List Int) (s : Int × Int) : Bool × (Int × Int) := (true, (wrap64 (s.1 + 1), if folB p 0 = true then wrap64 (s.2 + 1) else s.2))
def ccW (n : Nat) : Int × Int := (wlk (upTo (2 ^ n)) visC (2 ^ n - 1) [0] (0, 0)).2
def ccS (n : Nat) : Int × Int := gcC n (2 ^ n - 1) [0]
set_option maxRecDepth 100000 in
theorem cc_same : ∀ n : Nat, n < 4 → 1 ≤ n → ccW n = ccS n ∧ (wlk (upTo (2 ^ n)) visC (2 ^ n - 1) [0] (0, 0)).1 = true := by decide +kernel
theorem Sits.grown {w w' : World} {row : Option Nat} {g o n c : Nat} {xs : List Int} (h : Sits w (.slice (some ⟨g, o, none⟩) n c) xs) (hg : w.grownBy w' row) (hn : some g ≠ row) : Sits w' (.slice (some ⟨g, o, none⟩) n c) xs := by
  obtain ⟨b, off, c', e, h1, h2, h3, hc⟩ := h
  simp only [Value.slice.injEq, Option.some.injEq, Addr.mk.injEq, and_true] at e
  obtain ⟨⟨rfl, rfl⟩, rfl, rfl⟩ := e
  exact ⟨g, o, c, rfl, h1, h2, Nat.lt_of_lt_of_le h3 hg.size, fun i hi => hg.cell (hc i hi) hn⟩
theorem rowIs_grown {w w' : World} {row : Option Nat} {g n : Nat} {T : TypeId} {f : Nat → Value} (h : w.rowIs g T n f) (hg : w.grownBy w' row) (hn : some g ≠ row) : w'.rowIs g T n f := h.of_block (hg.block g h.lt hn)
theorem TZ.grown {w w' : World} {row : Option Nat} (h : TZ w) (hg : w.grownBy w' row) (hn : some 1 ≠ row) : TZ w' := fun b hb => hg.cell (h b hb) hn
theorem grownBy_setAt (W : World) (b k : Nat) (v : Value) : W.grownBy (W.setCell ⟨b, k, none⟩ v) (some b) :=
  ⟨rfl, rfl, rfl, by simp, fun i _ hne => Below.heap_setCell _ _ _ i (fun e => hne (by rw [e]))⟩
theorem box_set {w : World} {b : Nat} {T : TypeId} {u : Value} (h : w.rowIs b T 1 (fun _ => u)) (v : Value) : (w.setCell ⟨b, 0, none⟩ v).rowIs b T 1 (fun _ => v) :=
  (h.set 0 v).congr (fun i hi => by rw [if_pos (by omega)])
/-- What the visitor of CountCodes finds: the table, the words, both counts. -/
structure CCJ (w0 : World) (B gw b1 b2 M : Nat) (ws : List Int) (w : World) (s : Int × Int) : Prop where
  tz : TZ w
  sits : Sits w (.slice (some ⟨gw, 0, none⟩) ws.length ws.length) ws
  c1 : w.rowIs b1 3 1 (fun _ => .int .i64 s.1)
  c2 : w.rowIs b2 3 1 (fun _ => .int .i64 s.2)
  bel : Below B w0 w
/-- the order of the blocks -/
structure CCO (w0 : World) (B gw b1 b2 M : Nat) : Prop where
  h1 : 1 < B
  h2 : B ≤ b1
  h3 : b1 < b2
  h4 : b2 < gw
  h5 : gw < M
  h6 : B ≤ w0.heap.size
theorem CCJ.kept {w0 w w' : World} {B gw b1 b2 M : Nat} {ws : List Int} {s : Int × Int} {row : Option Nat} (o : CCO w0 B gw b1 b2 M) (h : CCJ w0 B gw b1 b2 M ws w s) (hg : w.grownBy w' row) (hr : ∀ k, row = some k → M ≤ k) : CCJ w0 B gw b1 b2 M ws w' s := by
  have hne : ∀ q, q < M → some q ≠ row := fun q hq e => by have := hr q e.symm; omega
  have o1 := o.h1; have o2 := o.h2; have o3 := o.h3; have o4 := o.h4; have o5 := o.h5; have o6 := o.h6
  exact ⟨h.tz.grown hg (hne 1 (by omega)), h.sits.grown hg (hne gw (by omega)), rowIs_grown h.c1 hg (hne b1 (by omega)), rowIs_grown h.c2 hg (hne b2 (by omega)), h.bel.grown hg (Nat.le_trans o6 h.bel.size) (fun j hj => by have := hr j hj; omega)⟩
theorem CCJ.set1 {w0 w : World} {B gw b1 b2 M : Nat} {ws : List Int} {s : Int × Int} (o : CCO w0 B gw b1 b2 M) (h : CCJ w0 B gw b1 b2 M ws w s) (x : Int) : CCJ w0 B gw b1 b2 M ws (w.setCell ⟨b1, 0, none⟩ (.int .i64 x)) (x, s.2) := by
  have o1 := o.h1; have o2 := o.h2; have o3 := o.h3; have o4 := o.h4; have o5 := o.h5
  have hg := grownBy_setAt w b1 0 (.int .i64 x)
  exact ⟨h.tz.grown hg (by simp; omega), h.sits.grown hg (by simp; omega), box_set h.c1 _, rowIs_grown h.c2 hg (by simp; omega), h.bel.setCell (p := ⟨b1, 0, none⟩) (by exact o2) _⟩
theorem CCJ.set2 {w0 w : World} {B gw b1 b2 M : Nat} {ws : List Int} {s : Int × Int} (o : CCO w0 B gw b1 b2 M) (h : CCJ w0 B gw b1 b2 M ws w s) (x : Int) : CCJ w0 B gw b1 b2 M ws (w.setCell ⟨b2, 0, none⟩ (.int .i64 x)) (s.1, x) := by
  have o1 := o.h1; have o2 := o.h2; have o3 := o.h3; have o4 := o.h4; have o5 := o.h5
  have hg := grownBy_setAt w b2 0 (.int .i64 x)
  exact ⟨h.tz.grown hg (by simp; omega), h.sits.grown hg (by simp; omega), rowIs_grown h.c1 hg (by simp; omega), box_set h.c2 _, h.bel.setCell (p := ⟨b2, 0, none⟩) (by show B ≤ b2; omega) _⟩
theorem visC_any (w0 : World) (B gw b1 b2 M : Nat) (ws : List Int) (o : CCO w0 B gw b1 b2 M) (w : World) (s : Int × Int) (g cap : Nat) (p : List Int) (hj : CCJ w0 B gw b1 b2 M ws w s) (ho : Own w M (.slice (some ⟨g, 0, none⟩) p.length cap) p) (hs : small p) (hp0 : 0 < p.length) (hpl : p.length ≤ 1024) :
    Calls Tryd.prog 28 #[.slice (some ⟨g, 0, none⟩) p.length cap, .pointer (some ⟨b1, 0, none⟩), .pointer (some ⟨b2, 0, none⟩)] w fun e w' => e = .returned (.bool (visC p s).1) ∧ CCJ w0 B gw b1 b2 M ws w' (visC p s).2 ∧ Fr M none w w' := by
  obtain ⟨s1, s2⟩ := s
  have o2 := o.h2; have o3 := o.h3; have o4 := o.h4; have o5 := o.h5
  have hgM := (World.ownsRow.lt ho g rfl).1
  have hc1 := hj.c1.cell (i := 0) (by omega)
  have hf1 := hj.c1.frozen 0
  have HJ1 := hid (hj.set1 o (wrap64 (s1 + 1)))
  have hg1 := grownBy_setAt w b1 0 (.int .i64 (wrap64 (s1 + 1)))
  have HRD := hid (show Reads (w.setCell ⟨b1, 0, none⟩ (.int .i64 (wrap64 (s1 + 1)))) (.slice (some ⟨g, 0, none⟩) p.length cap) p from (ho.kept hg1 (.inr (by simp [Value.ownBlock]; omega))).reads)
  have hc2 := HJ1.out.c2.cell (i := 0) (by omega)
  have hf2 := HJ1.out.c2.frozen 0
  have HJ2 := hid (HJ1.out.set2 o (wrap64 (s2 + 1)))
  have HG1 := hid hg1
  have hg2 := grownBy_setAt (w.setCell ⟨b1, 0, none⟩ (.int .i64 (wrap64 (s1 + 1)))) b2 0 (.int .i64 (wrap64 (s2 + 1)))
  have HFR1 := hid (show Fr M none w (w.setCell ⟨b1, 0, none⟩ (.int .i64 (wrap64 (s1 + 1)))) from ⟨hg1.size, fun k hm hk _ => hg1.block k hk (by simp; omega)⟩)
  have HFR2 := hid (show Fr M none w ((w.setCell ⟨b1, 0, none⟩ (.int .i64 (wrap64 (s1 + 1)))).setCell ⟨b2, 0, none⟩ (.int .i64 (wrap64 (s2 + 1)))) from HFR1.out.trans ⟨hg2.size, fun k hm hk _ => hg2.block k hk (by simp; omega)⟩)
  have HS := hid hs
  obtain ⟨q, hq⟩ : ∃ q, p.length = q + 1 := ⟨p.length - 1, by omega⟩
  obtain ⟨y, hy, hy2⟩ := hs q (by omega)
  have hcq : (w.setCell ⟨b1, 0, none⟩ (.int .i64 (wrap64 (s1 + 1)))).cell? ⟨g, q, none⟩ = some (.int .i64 (y : Int)) := by
    rcases (ho.kept hg1 (.inr (by simp [Value.ownBlock]; omega))).form with ⟨_, hn⟩ | ⟨g', c', e, _, _, _, _, hcell, _⟩
    · rw [hn] at hp0; simp at hp0
    · simp only [Value.slice.injEq, Option.some.injEq, Addr.mk.injEq] at e
      obtain ⟨⟨rfl, _, _⟩, _, _⟩ := e
      have h := hcell q (by omega)
      rw [Nat.zero_add] at h
      rw [h, hy]
  have HFOL := hid (show folB p 0 = cbB (y ^^^ 0) by rw [folB, decide_eq_false (show ¬ p.length = 0 by omega), Bool.false_or, lastN, show p.length - 1 = q by omega, hy]; rfl)
  have hww : IntKind.i64.wrap ((p.length : Int) - 1) = (q : Int) := by rw [show (p.length : Int) - 1 = (q : Int) by omega]; exact IntWalk.i64_in _ (by omega)
  have hwq : IntKind.i64.wrap (q : Int) = (q : Int) := IntWalk.i64_in _ (by omega)
  have e0 : (0 : Int) ≤ (q : Int) := by omega
  have e1 : (q : Int) < (p.length : Int) := by omega
  have hq0 : ¬ (q : Int) < 0 := by omega
  clear hj ho hg1 hg2 hq hy hp0
  cases hf : folB p 0 with
  | true =>
    have HF := hid hf
    have HV := hid (show visC p (s1, s2) = (true, (wrap64 (s1 + 1), wrap64 (s2 + 1))) by rw [visC, if_pos hf])
    clear hf
    go_enter Tryd.func28, Tryd.ntmps28
    go_wp2_with (first | (go_at_call 24; refine (differ_any y 0 _ hy2 (by omega) HJ1.out.tz).mono ?_; rintro e w1 ⟨rfl, rfl⟩; rw [← HFOL.out, HF.out]) | fail)
    go_ret
    rw [HV.out]
    exact ⟨rfl, HJ2.out, HFR2.out⟩
  | false =>
    have HF := hid hf
    have HV := hid (show visC p (s1, s2) = (true, (wrap64 (s1 + 1), s2)) by rw [visC, if_neg (by rw [hf]; simp)])
    clear hf
    go_enter Tryd.func28, Tryd.ntmps28
    go_wp2_with (first | (go_at_call 24; refine (differ_any y 0 _ hy2 (by omega) HJ1.out.tz).mono ?_; rintro e w1 ⟨rfl, rfl⟩; rw [← HFOL.out, HF.out]) | fail)
    go_ret
    rw [HV.out]
    exact ⟨rfl, HJ1.out, HFR1.out⟩
end Go.Proofs.YtijjdidljoicfaaDoor
