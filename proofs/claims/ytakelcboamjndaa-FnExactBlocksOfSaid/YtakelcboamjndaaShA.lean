/- Contracts: the closures of growthsOf. Conditions: numbers within the stated ranges. -/
import Derived.Test.YtakelcboamjndaaGr1
import Derived.Test.YtakelcboamjndaaCont
import Derived.Laws.EntriesVeiled
import Derived.Handy
import Derived.Maps.Own
import Derived.Maps.OwnSet
import Derived.Laws.Tables
import Derived.Laws.Rows
namespace Go.Proofs.Ytakelcboamjndaa
open Go.RowKit
set_option linter.unusedVariables false

/-- what may still come behind a beginning -/
abbrev rv (l b : Int) : Value := .agg #[.int .i64 l, .int .i64 b]
abbrev rsObj (l b : Int) : Obj := .cells #[.int .i64 l, .int .i64 b] 44
theorem rs_row (w : World) (l b : Int) : (w.alloc (rsObj l b)).rowIs w.heap.size 44 2 (fun t => if t = 0 then .int .i64 l else .int .i64 b) :=
  World.rowIs_alloc w #[.int .i64 l, .int .i64 b] 44 _ (fun t ht => by
    match t, ht with
    | 0, _ => rfl | 1, _ => rfl
    | t + 2, h => exact absurd h (by simp))
theorem rs_box (w : World) (l b : Int) : (w.alloc (rsObj l b)).cell? ⟨w.heap.size, 0, none⟩ = some (.int .i64 l) ∧ (w.alloc (rsObj l b)).cell? ⟨w.heap.size, 1, none⟩ = some (.int .i64 b) :=
  ⟨(rs_row w l b).cell (i := 0) (by omega), (rs_row w l b).cell (i := 1) (by omega)⟩
theorem max_nat (b x : Nat) : ((max b (x + 1) : Nat) : Int) = if (b : Int) < (x : Int) + 1 then (x : Int) + 1 else (b : Int) := by split <;> omega
theorem grCh_any (l b : Nat) (w : World) (hb : b ≤ 1000) :
    Calls Try.prog 82 #[rv l b] w fun e w' => ∃ u, e = .returned u ∧ Own w' w.heap.size u (upTo (b + 1)) ∧ Below w.heap.size w w' := by
  have hbx := rs_box w l b
  have HB0 := hid ((Below.refl w.heap.size w).alloc (Nat.le_refl _) (rsObj l b))
  have u1 : IntKind.i64.wrap ((b : Int) + 1) = (b : Int) + 1 := IntWalk.i64_in _ (by omega)
  have HF := hid (firstNumbers_any (b + 1) (w.alloc (rsObj l b)) (by omega))
  obtain ⟨h0, h1⟩ := hbx
  go_enter Try.func82, Try.ntmps82
  go_wp2_with (first | (go_at_call 79; refine HF.out.mono ?_; rintro e w1 ⟨rfl, ho, hb1⟩; have HO := hid ho; have HB1 := hid (Below_chain HB0.out hb1); clear ho hb1) | fail)
  go_ret
  refine ⟨_, rfl, ?_, HB1.out⟩
  have h := HO.out.mono (show w.heap.size ≤ (w.alloc (rsObj l b)).heap.size by simp)
  simpa using h
theorem grBe_any (l b x : Nat) (w : World) (hl : l ≠ 0) (hl2 : l ≤ 1000) (hb : b ≤ 1000) (hx : x ≤ 1000) :
    Calls Try.prog 83 #[rv l b, .int .i64 (x : Int)] w fun e w' => e = .returned (rv ((l - 1 : Nat) : Int) (max b (x + 1) : Nat)) ∧ Below w.heap.size w w' := by
  have hbx := rs_box w l b
  have HB0 := hid ((Below.refl w.heap.size w).alloc (Nat.le_refl _) (rsObj l b))
  have u1 : IntKind.i64.wrap ((x : Int) + 1) = (x : Int) + 1 := IntWalk.i64_in _ (by omega)
  have u2 : IntKind.i64.wrap ((l : Int) - 1) = (l : Int) - 1 := IntWalk.i64_in _ (by omega)
  have HE := hid (show ((l - 1 : Nat) : Int) = (l : Int) - 1 by omega)
  have HM := hid (max_nat b x)
  rw [HE.out, HM.out]
  clear HE HM hl
  obtain ⟨h0, h1⟩ := hbx
  by_cases hc : (b : Int) < (x : Int) + 1
  · rw [if_pos hc]
    go_enter Try.func83, Try.ntmps83
    go_wp2_with fail
    go_returns
    exact ⟨rfl, HB0.out.alloc (by simp) _⟩
  · rw [if_neg hc]
    go_enter Try.func83, Try.ntmps83
    go_wp2_with fail
    go_returns
    exact ⟨rfl, HB0.out.alloc (by simp) _⟩
abbrev shV (l b : Int) (fc fb fk : Value) : Value := .agg #[.int .i64 l, .int .i64 b, fc, fb, fk]
/-- the closure of shapeOf that counts, behind a call that began with a memory of B blocks -/
abbrev kF (B : Nat) : Value := .func (.func 95) #[] #[.pointer (some ⟨B + 5, 0, none⟩), .pointer (some ⟨B + 1, 0, none⟩), .pointer (some ⟨B + 6, 0, none⟩), .pointer (some ⟨B + 2, 0, none⟩)]
structure KEnv (w : World) (B : Nat) (fc fb : Value) : Prop where
  known : w.cell? ⟨B + 5, 0, none⟩ = some (.map (some (B + 4)))
  choices : w.cell? ⟨B + 1, 0, none⟩ = some fc
  count : w.cell? ⟨B + 6, 0, none⟩ = some (kF B)
  behind : w.cell? ⟨B + 2, 0, none⟩ = some fb
theorem at_new {w : World} {n : Nat} (h : w.heap.size = n) (x : Value) (T : TypeId) : (w.alloc (.cells #[x] T)).cell? ⟨n, 0, none⟩ = some x := by subst h; simp
theorem at_below {w w' : World} {p : Addr} {x : Value} (h : w.cell? p = some x) (hb : Below w.heap.size w w') : w'.cell? p = some x :=
  (hb.cell (World.block_lt_of_cell? w p h)).trans h
theorem at_alloc {w : World} {p : Addr} {x : Value} (h : w.cell? p = some x) (o : Obj) : (w.alloc o).cell? p = some x :=
  at_below h ((Below.refl _ _).alloc (Nat.le_refl _) o)
theorem shapeOf_any (l b : Int) (fc fb : Value) (c d : Nat) (w : World) (hc : fc = .func (.func c) #[] #[]) (hd : fb = .func (.func d) #[] #[]) :
    Calls Try.prog 84 #[rv l b, fc, fb] w fun e w' => e = .returned (shV l b fc fb (kF w.heap.size)) ∧ KEnv w' w.heap.size fc fb ∧
      w'.ownsMap Try.prog 44 (plainElem (H := Unit) Try.prog 3) (w.heap.size + 4) 0 (.map []) ∧ Below w.heap.size w w' := by
  subst hc hd
  have hmm := @run_makeMap Try.prog
  go_enter Try.func84, Try.ntmps84
  go_wp2_with fail
  go_returns
  refine ⟨rfl, ⟨?_, ?_, ?_, ?_⟩, ?_, ?_⟩
  · exact at_alloc (at_new (by simp) _ _) _
  · exact at_alloc (at_alloc (at_alloc (at_alloc (at_alloc (at_new (by simp) _ _) _) _) _) _) _
  · exact at_new (by simp) _ _
  · exact at_alloc (at_alloc (at_alloc (at_alloc (at_new (by simp) _ _) _) _) _) _
  · refine World.ownsMap.alloc (World.ownsMap.alloc ?_ _) _
    have h := World.ownsMap_made (((((w.alloc (rsObj l b)).alloc (.cells #[.func (.func c) #[] #[]] 45)).alloc (.cells #[.func (.func d) #[] #[]] 46))).alloc (.cells #[.int .i64 l, .int .i64 b, .func (.func c) #[] #[], .func (.func d) #[] #[], kF w.heap.size] 49)) Try.prog 44 (plainElem (H := Unit) Try.prog 3)
    simpa using h
  · exact (((((((Below.refl w.heap.size w).alloc (Nat.le_refl _) _).alloc (by simp; try omega) _).alloc (by simp; try omega) _).alloc (by simp; try omega) _).alloc (by simp; try omega) _).alloc (by simp; try omega) _).alloc (by simp; try omega) _
abbrev shNil : Obj := .cells #[.int .i64 0, .int .i64 0, .nilFunc, .nilFunc, .nilFunc] 49
theorem shape_info : (Try.prog.info? 49).map (·.size) = some 5 := by kernel_rfl
abbrev grC : Value := .func (.func 82) #[] #[]
abbrev grE : Value := .func (.func 83) #[] #[]
theorem grownBy_set6 (W : World) (b k : Nat) (v : Value) : W.grownBy (W.setCell ⟨b, k, none⟩ v) (some b) :=
  ⟨rfl, rfl, rfl, by simp, fun i _ hne => Below.heap_setCell _ _ _ i (fun e => hne (by rw [e]))⟩
theorem KEnv.setCell {w : World} {B g i : Nat} {fc fb v : Value} (h : KEnv w B fc fb) (hg : g < B) : KEnv (w.setCell ⟨g, i, none⟩ v) B fc fb := by
  have hs := grownBy_set6 w g i v
  exact ⟨hs.cell h.known (by simp; omega), hs.cell h.choices (by simp; omega), hs.cell h.count (by simp; omega), hs.cell h.behind (by simp; omega)⟩
theorem row_same {w : World} {g n i : Nat} {T : TypeId} {f : Nat → Value} (h : w.rowIs g T n f) (hi : i < n) (v : Value) : (w.setCell ⟨g, i, none⟩ v).cell? ⟨g, i, none⟩ = some v := by
  have := (h.set i v).cell hi
  simpa using this
theorem sh_row (w : World) : (w.alloc shNil).rowIs w.heap.size 49 5 (fun t => if t < 2 then .int .i64 0 else .nilFunc) :=
  World.rowIs_alloc w #[.int .i64 0, .int .i64 0, .nilFunc, .nilFunc, .nilFunc] 49 _ (fun t ht => by
    match t, ht with
    | 0, _ => rfl | 1, _ => rfl | 2, _ => rfl | 3, _ => rfl | 4, _ => rfl
    | t + 5, h => exact absurd h (by simp))
theorem growthsOf_any (n : Nat) (w : World) (hn : n ≤ 1000) :
    Calls Try.prog 50 #[.int .i64 (n : Int)] w fun e w' => e = .returned (shV n 0 grC grE (kF (w.heap.size + 1))) ∧ KEnv w' (w.heap.size + 1) grC grE ∧
      w'.ownsMap Try.prog 44 (plainElem (H := Unit) Try.prog 3) (w.heap.size + 1 + 4) 0 (.map []) ∧ Below w.heap.size w w' := by
  have hsz : (w.alloc shNil).heap.size = w.heap.size + 1 := by simp
  have HB0 := hid ((Below.refl w.heap.size w).alloc (Nat.le_refl _) shNil)
  have HBX := hid (sh_row w)
  have hc := shapeOf_any n 0 grC grE _ _ (w.alloc shNil) rfl rfl
  rw [hsz] at hc
  have HC := hid hc
  have HSZ := hid hsz
  clear hc hsz
  go_enter Try.func50, Try.ntmps50
  go_wp2_with (first
    | (go_at_call 84; refine HC.out.mono ?_; rintro e w1 ⟨rfl, he, hm, hb⟩; have HE := hid he; have HM := hid hm; have HB := hid hb; have hr1 := HBX.out.of_block (hb.block w.heap.size (by omega)); have HR := hid hr1; have hc0 := hr1.cell (i := 0) (by omega); have hc1 := hr1.cell (i := 1) (by omega); have hc2 := hr1.cell (i := 2) (by omega); have hc3 := hr1.cell (i := 3) (by omega); have hc4 := hr1.cell (i := 4) (by omega); have hf0 := hr1.frozen 0; have hf1 := hr1.frozen 1; have hf2 := hr1.frozen 2; have hf3 := hr1.frozen 3; have hf4 := hr1.frozen 4; clear he hm hb hr1)
    | fail)
  have hs0 := row_same HR.out (i := 0) (by omega) (.int .i64 (n : Int))
  have hs1 := row_same (HR.out.set 0 (.int .i64 (n : Int))) (i := 1) (by omega) (.int .i64 0)
  have hs2 := row_same ((HR.out.set 0 (.int .i64 (n : Int))).set 1 (.int .i64 0)) (i := 2) (by omega) grC
  have hs3 := row_same (((HR.out.set 0 (.int .i64 (n : Int))).set 1 (.int .i64 0)).set 2 grC) (i := 3) (by omega) grE
  have hs4 := row_same ((((HR.out.set 0 (.int .i64 (n : Int))).set 1 (.int .i64 0)).set 2 grC).set 3 grE) (i := 4) (by omega) (kF (w.heap.size + 1))
  refine bodyPost_ret (v := shV n 0 grC grE (kF (w.heap.size + 1))) (by simp [results, Try.results50, hs0, hs1, hs2, hs3, hs4, go_sem]; try rfl) rfl ?_
  refine ⟨rfl, ?_, ?_, ?_⟩
  · exact ((((HE.out.setCell (by omega)).setCell (by omega)).setCell (by omega)).setCell (by omega)).setCell (by omega)
  · exact ((((HM.out.setCell (by show _ ≠ w.heap.size; omega) _).setCell (by show _ ≠ w.heap.size; omega) _).setCell (by show _ ≠ w.heap.size; omega) _).setCell (by show _ ≠ w.heap.size; omega) _).setCell (by show _ ≠ w.heap.size; omega) _
  · exact (((((HB0.out.trans (HB.out.mono (by omega))).setCell (p := ⟨w.heap.size, 0, none⟩) (Nat.le_refl _) _).setCell (p := ⟨w.heap.size, 1, none⟩) (Nat.le_refl _) _).setCell (p := ⟨w.heap.size, 2, none⟩) (Nat.le_refl _) _).setCell (p := ⟨w.heap.size, 3, none⟩) (Nat.le_refl _) _).setCell (p := ⟨w.heap.size, 4, none⟩) (Nat.le_refl _) _
end Go.Proofs.Ytakelcboamjndaa
