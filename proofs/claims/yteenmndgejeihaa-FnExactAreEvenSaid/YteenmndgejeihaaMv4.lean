/- Contract: spec.MoveOrder. Conditions: none. -/
import Derived.Test.YteenmndgejeihaaMv3
namespace Go.Proofs.Yteenmndgejeihaa
open Go.RowKit
set_option linter.unusedVariables false

/-- the first permutation behind a move made so often -/
def pwL (k i j : Int) : Nat → List Int
  | 0 => upTo 12
  | e + 1 => mvL k i j (pwL k i j e)
def ordN (k i j : Int) : Nat := ((List.range 12).find? (fun d => pwL k i j (d + 1) == upTo 12)).getD 0 + 1
def ordP (k i j : Int) : Prop := pwL k i j (ordN k i j) = upTo 12 ∧ ordN k i j ≤ 12 ∧ ∀ d, d < 13 → 1 ≤ d → d < ordN k i j → pwL k i j d ≠ upTo 12
instance (k i j : Int) : Decidable (ordP k i j) := by unfold ordP; infer_instance
set_option maxRecDepth 100000 in
theorem ord_swap : ∀ j : Nat, j < 12 → ∀ i : Nat, i < j → ordP 0 (i : Int) (j : Int) := by decide +kernel
set_option maxRecDepth 100000 in
theorem ord_rev : ∀ i : Nat, i < 13 → 2 ≤ i → ordP 1 (i : Int) 0 ∧ ordP 2 (i : Int) 0 := by decide +kernel
theorem ord_all {k i j : Int} (h : mvB 12 k i j = true) : ordP k i j := by
  have h2 := mvB_two h
  rcases h2.2 with ⟨rfl, h0, h1, h3⟩ | ⟨hk, h0, h1⟩
  · have := ord_swap j.toNat (by omega) i.toNat (by omega)
    rwa [show ((j.toNat : Nat) : Int) = j by omega, show ((i.toNat : Nat) : Int) = i by omega] at this
  · have hj : j = 0 := by
      rw [mvB_12 hk, Bool.and_eq_true, decide_eq_true_eq] at h
      exact h.2
    subst hj
    have := ord_rev i.toNat (by omega) (by omega)
    rw [show ((i.toNat : Nat) : Int) = i by omega] at this
    rcases hk with rfl | rfl
    · exact this.1
    · exact this.2
theorem pwL_len (k i j : Int) : ∀ e, (pwL k i j e).length = 12
  | 0 => upTo_length 12
  | e + 1 => by rw [pwL, mvL_len]; exact pwL_len k i j e
def moV (k i j : Int) : Int := if mvB 12 k i j = true then (ordN k i j : Int) else 0
set_option maxHeartbeats 1000000 in
theorem spec_MoveOrder_any (k i j : Int) (w : World) :
    Calls Try.prog 35 #[.agg #[.int .i64 k, .int .i64 i, .int .i64 j]] w fun e w' => e = .returned (.tuple #[.int .i64 (moV k i j), .bool (mvB 12 k i j)]) ∧ Below w.heap.size w w' := by
  have hba := (Below.refl w.heap.size w).alloc (Nat.le_refl _) (mvObj k i j)
  have HBA := hid hba
  obtain ⟨x0, x1, x2⟩ := mv_box w k i j
  have HX0 := hid x0
  have HX1 := hid x1
  have HX2 := hid x2
  clear x0 x1 x2 hba
  cases hm : mvB 12 k i j with
  | false =>
    have HM := hid hm
    have HV := hid (show moV k i j = 0 by rw [moV, hm, if_neg (by simp)])
    clear hm
    go_enter Try.func35, Try.ntmps35
    go_wp2_with (first | (go_at_call 77; refine (moGood_any 12 k i j _ (by omega) (by omega)).mono ?_; rintro e w1 ⟨rfl, hb1⟩; rw [HM.out]; have HB1 := hid (Below_chain HBA.out hb1); clear hb1) | fail)
    go_ret2
    exact ⟨ret_nbA HV.out.symm rfl, HB1.out⟩
  | true =>
    have HM := hid hm
    have HV := hid (show moV k i j = (ordN k i j : Int) by rw [moV, if_pos hm])
    have HORD := hid (ord_all hm)
    have HLP := hid (pwL_len k i j)
    have hle := HORD.out.2.1
    obtain ⟨N, hN⟩ : ∃ N, N = ordN k i j := ⟨_, rfl⟩
    have HN := hid hN
    have h1N : 1 ≤ N := by rw [hN]; unfold ordN; omega
    rw [← hN] at hle HV
    clear hm hN
    go_enter Try.func35, Try.ntmps35
    go_wp2_with fail
    refine (moGood_any 12 k i j _ (by omega) (by omega)).mono ?_
    rintro e w1 ⟨rfl, hb1⟩
    rw [HM.out]
    have hx0 := cell_below2 HX0.out hb1
    have hx1 := cell_below2 HX1.out hb1
    have hx2 := cell_below2 HX2.out hb1
    have K0 := hid hx0; have K1 := hid hx1; have K2 := hid hx2
    have HB1 := hid (Below_chain HBA.out hb1)
    clear hb1
    go_wp2_with fail
    refine (raUpTo_any 12 _ (by omega)).mono ?_
    rintro e w2 ⟨u1, rfl, ho2, hb2⟩
    obtain ⟨g, c, rfl, HS2⟩ := own_twelve (by rw [upTo_length]; omega) ho2
    rw [upTo_length] at HS2 ⊢
    have HO2 := hid ho2
    have HB2 := hid (Below_chain HB1.out hb2)
    have J0 := hid (cell_below2 K0.out hb2); have J1 := hid (cell_below2 K1.out hb2); have J2 := hid (cell_below2 K2.out hb2)
    have hj0 := J0.out; have hj1 := J1.out; have hj2 := J2.out
    have HR2 := hid HS2.out.reads
    clear hx0 hx1 hx2 ho2 hb2
    go_wp2_with fail
    refine (moApply_any _ (upTo 12) k i j _ HR2.out (by rw [upTo_length]; omega) (by rw [upTo_length]; exact HM.out)).mono ?_
    rintro e w3 ⟨u2, rfl, ho3, hb3⟩
    obtain ⟨g2, c2, rfl, HS3⟩ := own_twelve (by rw [mvL_len, upTo_length]; omega) ho3
    rw [mvL_len, upTo_length] at HS3 ⊢
    have HB3 := hid (Below_chain HB2.out hb3)
    have L0 := hid (cell_below2 J0.out hb3); have L1 := hid (cell_below2 J1.out hb3); have L2 := hid (cell_below2 J2.out hb3)
    have HR3 := hid (HR2.out.below hb3)
    clear hj0 hj1 hj2 ho3 hb3
    go_wp2_with fail
    go_loopw [5, 6] (fun ev nv wr => ∃ (t gn cn : Nat), 1 ≤ t ∧ t ≤ N ∧ ev = .int .i64 t ∧ nv = .slice (some ⟨gn, 0, none⟩) 12 cn ∧ Sits wr (.slice (some ⟨gn, 0, none⟩) 12 cn) (pwL k i j t) ∧ wr.cell? ⟨w.heap.size, 0, none⟩ = some (.int .i64 k) ∧ wr.cell? ⟨w.heap.size, 1, none⟩ = some (.int .i64 i) ∧ wr.cell? ⟨w.heap.size, 2, none⟩ = some (.int .i64 j) ∧
      Reads wr (.slice (some ⟨g, 0, none⟩) 12 c) (upTo 12) ∧ Below w.heap.size w wr) (fun ev _ _ => N - (intOf ev).toNat)
    case atStart => exact ⟨1, g2, c2, Nat.le_refl _, h1N, rfl, rfl, HS3.out, L0.out, L1.out, L2.out, HR3.out, HB3.out⟩
    case round =>
      obtain ⟨t, gn, cn, ht1, htN, rfl, rfl, hsit, h0, h1, h2, hrd, hbel⟩ := hrel
      have HSIT := hid hsit
      have HRD := hid hrd
      have HBEL := hid hbel
      have P0 := hid h0; have P1 := hid h1; have P2 := hid h2
      obtain ⟨q, hq⟩ : ∃ q, q = pwL k i j t := ⟨_, rfl⟩
      rw [← hq] at HSIT
      by_cases hlt : t = N
      · have hqe : q = upTo 12 := by rw [hq, hlt, HN.out]; exact HORD.out.1
        have HQE := hid hqe
        have HT := hid hlt
        clear hsit hrd hbel hq hlt hqe h0 h1 h2
        go_wp2_with (first | (go_at_call 85; refine (l1Same_any _ _ q (upTo 12) _ HSIT.out.reads HRD.out).mono ?_; rintro e w4 ⟨rfl, hb4⟩; rw [decide_eq_true HQE.out]; have HB4 := hid (Below_chain HBEL.out hb4); clear hb4) | fail)
        go_ret2
        exact ⟨ret_nbA (by rw [HV.out, HT.out]) rfl, HB4.out⟩
      · have hne : q ≠ upTo 12 := by rw [hq]; exact HORD.out.2.2 t (by omega) ht1 (by rw [← HN.out]; omega)
        have HNE := hid hne
        have HPQ := hid (show pwL k i j (t + 1) = mvL k i j q by rw [pwL, hq])
        have hql : q.length = 12 := by rw [hq]; exact HLP.out t
        have HQL := hid hql
        have hww : IntKind.i64.wrap ((t : Int) + 1) = (t : Int) + 1 := IntWalk.i64_in _ (by omega)
        clear hsit hrd hbel hq hne hql
        go_wp2_with fail
        refine (l1Same_any _ _ q (upTo 12) _ HSIT.out.reads HRD.out).mono ?_
        rintro e w4 ⟨rfl, hb4⟩
        rw [decide_eq_false HNE.out]
        have HB4 := hid (Below_chain HBEL.out hb4)
        have HS4 := hid (HSIT.out.below hb4)
        have HR4 := hid (HRD.out.below hb4)
        have hy0 := cell_below2 P0.out hb4; have hy1 := cell_below2 P1.out hb4; have hy2 := cell_below2 P2.out hb4
        have Q0 := hid hy0; have Q1 := hid hy1; have Q2 := hid hy2
        clear hb4 h0 h1 h2
        go_wp2_with fail
        refine (moApply_any _ q k i j _ HS4.out.reads (by rw [HQL.out]; omega) (by rw [HQL.out]; exact HM.out)).mono ?_
        rintro e w5 ⟨u5, rfl, ho5, hb5⟩
        obtain ⟨g5, c5, rfl, HS5⟩ := own_twelve (by rw [mvL_len, HQL.out]; omega) ho5
        rw [mvL_len, HQL.out] at HS5 ⊢
        have HB5 := hid (Below_chain HB4.out hb5)
        have HR5 := hid (HR4.out.below hb5)
        have Z0 := hid (cell_below2 Q0.out hb5); have Z1 := hid (cell_below2 Q1.out hb5); have Z2 := hid (cell_below2 Q2.out hb5)
        clear ho5 hb5 hy0 hy1 hy2
        go_wp2_with fail
        go_roundw
        case rel => exact ⟨t + 1, g5, c5, by omega, by omega, by go_num, rfl, by rw [HPQ.out]; exact HS5.out, Z0.out, Z1.out, Z2.out, HR5.out, HB5.out⟩
        case measure => simp [intOf]; omega
end Go.Proofs.Yteenmndgejeihaa
