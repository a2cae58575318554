/- Contract: impl.MoveOrder. Conditions: none. -/
import Derived.Test.YteenmndgejeihaaMvI1
namespace Go.Proofs.Yteenmndgejeihaa
open Go.RowKit
set_option linter.unusedVariables false
set_option maxRecDepth 4000
set_option maxRecDepth 100000 in
theorem ordN_swap : ∀ j : Nat, j < 12 → ∀ i : Nat, i < j → ordN 0 (i : Int) (j : Int) = 2 := by decide +kernel
set_option maxRecDepth 100000 in
theorem ordN_beg : ∀ i : Nat, i < 13 → 2 ≤ i → ordN 1 (i : Int) 0 = 2 ∧ ordN 2 (i : Int) 0 = i := by decide +kernel
theorem imV_12 (k i j : Int) : imV 12 k i j = mvB 12 k i j := by
  rw [imV, show inB 12 0 12 = true from rfl, Bool.true_and]
theorem Try.taSS (i j : Int) (w : World) : (Instr.typeAssert (vSwap i j) 82 90 true).run Try.prog w = .ok (.tuple #[.agg #[.int .i64 i, .int .i64 j], .bool true]) w := by kernel_rfl
theorem Try.taVS (i : Int) (w : World) : (Instr.typeAssert (vRev i) 82 90 true).run Try.prog w = .ok (.tuple #[.agg #[.int .i64 0, .int .i64 0], .bool false]) w := by kernel_rfl
theorem Try.taOS (i : Int) (w : World) : (Instr.typeAssert (vRot i) 82 90 true).run Try.prog w = .ok (.tuple #[.agg #[.int .i64 0, .int .i64 0], .bool false]) w := by kernel_rfl
theorem Try.taNS (w : World) : (Instr.typeAssert .nilIface 82 90 true).run Try.prog w = .ok (.tuple #[.agg #[.int .i64 0, .int .i64 0], .bool false]) w := by kernel_rfl
theorem Try.taSV (i j : Int) (w : World) : (Instr.typeAssert (vSwap i j) 82 94 true).run Try.prog w = .ok (.tuple #[.agg #[.int .i64 0], .bool false]) w := by kernel_rfl
theorem Try.taVV (i : Int) (w : World) : (Instr.typeAssert (vRev i) 82 94 true).run Try.prog w = .ok (.tuple #[.agg #[.int .i64 i], .bool true]) w := by kernel_rfl
theorem Try.taOV (i : Int) (w : World) : (Instr.typeAssert (vRot i) 82 94 true).run Try.prog w = .ok (.tuple #[.agg #[.int .i64 0], .bool false]) w := by kernel_rfl
theorem Try.taNV (w : World) : (Instr.typeAssert .nilIface 82 94 true).run Try.prog w = .ok (.tuple #[.agg #[.int .i64 0], .bool false]) w := by kernel_rfl
theorem Try.taOO (i : Int) (w : World) : (Instr.typeAssert (vRot i) 82 95 true).run Try.prog w = .ok (.tuple #[.agg #[.int .i64 i], .bool true]) w := by kernel_rfl
theorem Try.taNO (w : World) : (Instr.typeAssert .nilIface 82 95 true).run Try.prog w = .ok (.tuple #[.agg #[.int .i64 0], .bool false]) w := by kernel_rfl
theorem impl_MoveOrder_any (k i j : Int) (w : World) :
    Calls Try.prog 36 #[.agg #[.int .i64 k, .int .i64 i, .int .i64 j]] w fun e w' => e = .returned (.tuple #[.int .i64 (moV k i j), .bool (mvB 12 k i j)]) ∧ Below w.heap.size w w' := by
  have HB := hid ((Below.refl w.heap.size w).alloc (Nat.le_refl _) (mvObj k i j))
  cases hm : mvB 12 k i j with
  | false =>
    have HI := hid (show .nilIface = moVal 12 k i j from moVal_no (by rw [imV_12, hm]))
    have HM := hid (show imV 12 k i j = false by rw [imV_12, hm])
    have HV := hid (show moV k i j = 0 by rw [moV, hm, if_neg (by simp)])
    clear hm
    have t1 := Try.taNS
    have t2 := Try.taNV
    have t3 := Try.taNO
    go_enter Try.func36, Try.ntmps36
    go_wp2_with (first | (go_at_call 78; refine (moverOf_any 12 k i j _).mono ?_; rintro e w1 ⟨rfl, hb1⟩; rw [← HI.out, HM.out]; have HB1 := hid (Below_chain HB.out hb1); clear hb1) | fail)
    go_ret2
    exact ⟨ret_nbA HV.out.symm rfl, HB1.out⟩
  | true =>
    have h2 := mvB_two hm
    have HI := hid (show mvV (k, i, j) = moVal 12 k i j from moVal_yes (by rw [imV_12, hm]))
    have HM := hid (show imV 12 k i j = true by rw [imV_12, hm])
    have HV := hid (show moV k i j = (ordN k i j : Int) by rw [moV, if_pos hm])
    rcases h2.2 with ⟨rfl, h0, h1, h3⟩ | ⟨hk, h0, h1⟩
    · have hv : mvV (0, i, j) = vSwap i j := by simp [mvV]
      rw [hv] at HI
      have HO := hid (ordN_swap j.toNat (by omega) i.toNat (by omega))
      rw [show ((j.toNat : Nat) : Int) = j by omega, show ((i.toNat : Nat) : Int) = i by omega] at HO
      clear hm h2 hv
      have t1 := Try.taSS i j
      have t2 := Try.taSV i j
      go_enter Try.func36, Try.ntmps36
      go_wp2_with (first | (go_at_call 78; refine (moverOf_any 12 0 i j _).mono ?_; rintro e w1 ⟨rfl, hb1⟩; rw [← HI.out, HM.out]; have HB1 := hid (Below_chain HB.out hb1); clear hb1) | fail)
      go_ret2
      exact ⟨ret_nbA (by rw [HV.out, HO.out]; rfl) rfl, HB1.out⟩
    · have hj : j = 0 := by
        rw [mvB_12 hk, Bool.and_eq_true, decide_eq_true_eq] at hm
        exact hm.2
      subst hj
      have ho := ordN_beg i.toNat (by omega) (by omega)
      have e2 : ((i.toNat : Nat) : Int) = i := by omega
      rw [e2] at ho
      have HO := hid ho
      have HE := hid e2
      rcases hk with rfl | rfl
      · have hv : mvV (1, i, 0) = vRev i := by simp [mvV]
        rw [hv] at HI
        have t1 := Try.taVS i
        have t2 := Try.taVV i
        clear hm h2 hv ho e2
        go_enter Try.func36, Try.ntmps36
        go_wp2_with (first | (go_at_call 78; refine (moverOf_any 12 1 i 0 _).mono ?_; rintro e w1 ⟨rfl, hb1⟩; rw [← HI.out, HM.out]; have HB1 := hid (Below_chain HB.out hb1); clear hb1) | fail)
        go_ret2
        exact ⟨ret_nbA (by rw [HV.out, HO.out.1]; rfl) rfl, HB1.out⟩
      · have hv : mvV (2, i, 0) = vRot i := by simp [mvV]
        rw [hv] at HI
        have t1 := Try.taOS i
        have t2 := Try.taOV i
        have t3 := Try.taOO i
        clear hm h2 hv ho e2
        go_enter Try.func36, Try.ntmps36
        go_wp2_with (first | (go_at_call 78; refine (moverOf_any 12 2 i 0 _).mono ?_; rintro e w1 ⟨rfl, hb1⟩; rw [← HI.out, HM.out]; have HB1 := hid (Below_chain HB.out hb1); clear hb1) | fail)
        go_ret2
        exact ⟨ret_nbA (by rw [HV.out, HO.out.2, HE.out]) rfl, by first | exact HB1.out | exact (HB1.out.alloc HB1.out.size _)⟩
end Go.Proofs.Yteenmndgejeihaa
