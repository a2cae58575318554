/- Contracts: exchangesUpTo, its closure, anyExchanges, adjacentExchanges, leadTo. Conditions: the slices read as lists of at most 12 numbers in 0..12. -/
import Derived.Test.YtkphbelgamfmnaaApart
import Derived.Test.YtkphbelgamfmnaaI3
import Derived.Laws.EntriesVeiled
import Derived.Handy
namespace Go.Proofs.Ytkphbelgamfmnaa
open Go.RowKit
set_option linter.unusedVariables false

/-- the struct whose closure has the pointer p -/
def exV (p : Addr) : Value := .agg #[.func (.func 76) #[] #[.pointer (some p)]]
theorem exchangesUpTo_any (m : Int) (w : World) :
    Calls Try.prog 63 #[.int .i64 m] w fun e w' => ∃ p : Addr, e = .returned (exV p) ∧ p.block = w.heap.size ∧ w'.cell? p = some (.int .i64 m) ∧ Below w.heap.size w w' := by
  have hz : (w.alloc (.cells #[.int .i64 m] 3)).heap.size = w.heap.size + 1 := by simp
  have hcx : ((w.alloc (.cells #[.int .i64 m] 3)).alloc (.cells #[.nilFunc] 48)).cell? ⟨w.heap.size + 1, 0, none⟩ = some .nilFunc := by rw [← hz]; simp
  have hfx : ((w.alloc (.cells #[.int .i64 m] 3)).alloc (.cells #[.nilFunc] 48)).frozen? ⟨w.heap.size + 1, 0, none⟩ = false := by
    have hr := World.rowIs_alloc (w.alloc (.cells #[.int .i64 m] 3)) #[.nilFunc] 48 (fun _ => .nilFunc) (fun i hi => by
      have h : i = 0 := by simp at hi; exact hi
      subst h; rfl)
    have := hr.frozen 0
    rwa [hz] at this
  have HB := hid (show Below w.heap.size w ((w.alloc (.cells #[.int .i64 m] 3)).alloc (.cells #[.func (.func 76) #[] #[.pointer (some ⟨w.heap.size, 0, none⟩)]] 48)) from
    ((Below.refl w.heap.size w).alloc (Nat.le_refl _) _).alloc (by simp) _)
  have HC := hid (show ((w.alloc (.cells #[.int .i64 m] 3)).alloc (.cells #[.func (.func 76) #[] #[.pointer (some ⟨w.heap.size, 0, none⟩)]] 48)).cell? ⟨w.heap.size, 0, none⟩ = some (.int .i64 m) from by simp)
  go_enter Try.func63, Try.ntmps63
  go_wp2
  go_returns
  exact ⟨⟨w.heap.size, 0, none⟩, rfl, rfl, HC.out, HB.out⟩
theorem near_any (o i m : Int) (p : Addr) (w : World) (hc : w.cell? p = some (.int .i64 m)) (h1 : -100000 ≤ o - i) (h2 : o - i ≤ 100000) :
    Calls Try.prog 76 #[.int .i64 o, .int .i64 i, .pointer (some p)] w fun e w' => e = .returned (.bool (decide (apV o i ≤ m))) ∧ ∃ q, w' = w.drewN q := by
  have hc2 : w.drew.cell? p = some (.int .i64 m) := hc
  go_enter Try.func76, Try.ntmps76
  go_wp2_with fail
  go_quiet ((go_at_call 72; exact Calls.quiet_of_same ((apart_any _ _ _ h1 h2).mono fun _ _ h => ⟨h.1, h.2.symm⟩)))
  go_wp2_with fail
  go_returns
  exact ⟨rfl, _, rfl⟩
/-- what counts as an exchange by at most m -/
def ldP (m : Int) (a b : List Int) : Bool := exB a b && decide (apV (exO a b) (exI a b) ≤ m)
def ldAt (m : Int) (L : List (List Int)) (i : Nat) : Bool := i == 0 || ldP m (L.getD (i - 1) []) (L.getD i [])
abbrev exNil : Obj := .cells #[.nilFunc] 48
theorem nil_ex (w : World) : (w.alloc exNil).rowIs w.heap.size 48 1 (fun _ => .nilFunc) :=
  World.rowIs_alloc w #[.nilFunc] 48 _ (fun i hi => by
    have h : i = 0 := by simp at hi; exact hi
    subst h; rfl)
theorem anyExchanges_any (w : World) :
    Calls Try.prog 42 #[] w fun e w' => ∃ p, e = .returned (exV p) ∧ w'.cell? p = some (.int .i64 12) ∧ Below w.heap.size w w' := by
  have HBX := hid (nil_ex w)
  have HBA := hid ((Below.refl w.heap.size w).alloc (Nat.le_refl _) exNil)
  go_enter Try.func42, Try.ntmps42
  go_wp2_with (first | (go_at_call 63; refine (exchangesUpTo_any 12 _).mono ?_; rintro e w1 ⟨p, rfl, hp, hc, hb⟩; dsimp only [exV]; have HC := hid hc; have HB := hid hb; have hr1 := HBX.out.of_block (hb.block w.heap.size HBX.out.lt); have hc1 := hr1.cell (i := 0) (by omega); have hf1 := hr1.frozen 0; have HG := hid (grownBy_setCellAt w1 w.heap.size 0 (.func (.func 76) #[] #[.pointer (some p)])); have HP := hid hp; have hcs : (w1.setCell ⟨w.heap.size, 0, none⟩ (.func (.func 76) #[] #[.pointer (some p)])).cell? ⟨w.heap.size, 0, none⟩ = some (.func (.func 76) #[] #[.pointer (some p)]) := (hr1.set 0 (.func (.func 76) #[] #[.pointer (some p)])).cell (i := 0) (by omega); clear hc hb hr1 hp) | fail)
  refine bodyPost_ret (by simp [results, Try.results42, hcs, go_sem]; try rfl) rfl ?_
  refine ⟨p, rfl, ?_, ?_⟩
  · refine HG.out.cell HC.out ?_
    rw [HP.out]
    simp
  · exact (Below_chain HBA.out HB.out).setCell (p := ⟨w.heap.size, 0, none⟩) (Nat.le_refl _) _
theorem adjacentExchanges_any (w : World) :
    Calls Try.prog 45 #[] w fun e w' => ∃ p, e = .returned (exV p) ∧ w'.cell? p = some (.int .i64 1) ∧ Below w.heap.size w w' := by
  have HBX := hid (nil_ex w)
  have HBA := hid ((Below.refl w.heap.size w).alloc (Nat.le_refl _) exNil)
  go_enter Try.func45, Try.ntmps45
  go_wp2_with (first | (go_at_call 63; refine (exchangesUpTo_any 1 _).mono ?_; rintro e w1 ⟨p, rfl, hp, hc, hb⟩; dsimp only [exV]; have HC := hid hc; have HB := hid hb; have hr1 := HBX.out.of_block (hb.block w.heap.size HBX.out.lt); have hc1 := hr1.cell (i := 0) (by omega); have hf1 := hr1.frozen 0; have HG := hid (grownBy_setCellAt w1 w.heap.size 0 (.func (.func 76) #[] #[.pointer (some p)])); have HP := hid hp; have hcs : (w1.setCell ⟨w.heap.size, 0, none⟩ (.func (.func 76) #[] #[.pointer (some p)])).cell? ⟨w.heap.size, 0, none⟩ = some (.func (.func 76) #[] #[.pointer (some p)]) := (hr1.set 0 (.func (.func 76) #[] #[.pointer (some p)])).cell (i := 0) (by omega); clear hc hb hr1 hp) | fail)
  refine bodyPost_ret (by simp [results, Try.results45, hcs, go_sem]; try rfl) rfl ?_
  refine ⟨p, rfl, ?_, ?_⟩
  · refine HG.out.cell HC.out ?_
    rw [HP.out]
    simp
  · exact (Below_chain HBA.out HB.out).setCell (p := ⟨w.heap.size, 0, none⟩) (Nat.le_refl _) _
theorem cell_below {w w' : World} {p : Addr} {x : Value} (h : w.cell? p = some x) (hb : Below w.heap.size w w') : w'.cell? p = some x :=
  (hb.cell (World.block_lt_of_cell? w p h)).trans h
abbrev exO1 (p : Addr) : Obj := .cells #[.func (.func 76) #[] #[.pointer (some p)]] 48
theorem ex_cell (w : World) (p : Addr) : (w.alloc (exO1 p)).cell? ⟨w.heap.size, 0, none⟩ = some (.func (.func 76) #[] #[.pointer (some p)]) := by simp
set_option maxHeartbeats 1000000 in
theorem leadTo_any (p : Addr) (m : Int) (v u : Value) (a b : List Int) (w : World) (hc : w.cell? p = some (.int .i64 m)) (h : Reads w v a) (h' : Reads w u b) (ha : fewL a) (hb : fewL b) :
    Calls Try.prog 44 #[exV p, v, u] w fun e w' => e = .returned (.bool (ldP m a b)) ∧ Below w.heap.size w w' := by
  have hba : Below w.heap.size w (w.alloc (exO1 p)) := (Below.refl w.heap.size w).alloc (Nat.le_refl _) _
  have HV := hid (h.below hba)
  have HU := hid (h'.below hba)
  have HC := hid (cell_below hc hba)
  have HX0 := hid (ex_cell w p)
  have HBA := hid hba
  have r1 := exO_range (b := b) ha
  have r2 := exI_range (a := a) hb
  have HLA := hid (show a.length ≤ 1048576 by have := ha.1; omega)
  have HLB := hid (show b.length ≤ 1048576 by have := hb.1; omega)
  obtain ⟨o, ho⟩ : ∃ o, o = exO a b := ⟨_, rfl⟩
  obtain ⟨i, hi⟩ : ∃ i, i = exI a b := ⟨_, rfl⟩
  have HO := hid ho
  have HI := hid hi
  rw [← ho] at r1
  rw [← hi] at r2
  obtain ⟨ao1, c1, rfl, _, _, _⟩ := h.view
  obtain ⟨ao2, c2, rfl, _, _, _⟩ := h'.view
  clear h h' hc ho hi ha hb hba
  unfold exV
  cases hx : exB a b with
  | true =>
    have HX := hid hx
    have HP := hid (show ldP m a b = decide (apV o i ≤ m) by rw [ldP, hx, ← HO.out, ← HI.out]; rfl)
    clear hx
    go_enter Try.func44, Try.ntmps44
    go_wp2_with (first
      | (go_at_call 70; refine (exchanged_any _ _ a b _ HV.out HU.out HLA.out HLB.out).mono ?_; rintro e w1 ⟨rfl, hb1⟩; rw [HX.out, ← HO.out, ← HI.out]; have HB1 := hid (Below_chain HBA.out hb1); have HC1 := hid (cell_below HC.out hb1); have hx1 := cell_below HX0.out hb1; clear hb1)
      | (go_at_call 76; refine (near_any o i m p _ HC1.out (by omega) (by omega)).mono ?_; rintro e w2 ⟨rfl, hq2⟩; have HB2 := hid (Below_chain HB1.out (Drew.below hq2 w1.heap.size)); clear hq2)
      | fail)
    go_returns
    exact ⟨ret_bool HP.out.symm, HB2.out⟩
  | false =>
    have HX := hid hx
    have HP := hid (show ldP m a b = false by rw [ldP, hx]; rfl)
    clear hx
    go_enter Try.func44, Try.ntmps44
    go_wp2_with (first
      | (go_at_call 70; refine (exchanged_any _ _ a b _ HV.out HU.out HLA.out HLB.out).mono ?_; rintro e w1 ⟨rfl, hb1⟩; rw [HX.out]; have HB1 := hid (Below_chain HBA.out hb1); clear hb1)
      | fail)
    go_returns
    exact ⟨ret_bool HP.out.symm, HB1.out⟩
theorem ap_abs (a b : Int) : apV a b = absW (a - b) := by
  unfold apV absW
  split <;> omega
theorem ld_near1 (a b : List Int) : ldP 1 a b = nearP 1 a b := by rw [ldP, nearP, ap_abs]
end Go.Proofs.Ytkphbelgamfmnaa
