/- Contracts: impl.ApplyMove, impl.MoveSign. Conditions: the slice is not nil and reads as a list of at most 2^20 numbers. -/
import Derived.Test.YteenmndgejeihaaMvI3
namespace Go.Proofs.Yteenmndgejeihaa
open Go.RowKit
set_option linter.unusedVariables false
set_option maxRecDepth 4000

theorem RowL.own {w : World} {g : Nat} {l m : List Int} (h : RowL w g m) (hl : m.length = l.length) (hm : l.length ≤ 1048576) : Own w g (.slice (some ⟨g, 0, none⟩) l.length l.length) m :=
  Own.of_rowIs (n := l.length) (by rw [← hl]; exact h) hl (by unfold maxLen; omega)
theorem im_perm {l : List Int} {k i j : Int} (h : permB l = true) : imV (l.length : Int) k i j = mvB l.length k i j := by
  have := permB_len h
  rw [imV, show inB (l.length : Int) 0 12 = true from inB_iff.2 ⟨by omega, by omega⟩, Bool.true_and]
theorem imV_mvB {n k i j : Int} (h : imV n k i j = true) : mvB n k i j = true := by
  rw [imV, Bool.and_eq_true] at h
  exact h.2
theorem PN_wf {n : Nat} {xs : List Int} (h : PN n xs) (hn : n ≤ 1048576) : ∀ x ∈ xs, (Lit.int .i64 x).wf = true := fun x hx => by
  have := h.nat hx
  exact WalkArith.wf_i64 (by omega)
set_option maxHeartbeats 1000000 in
theorem impl_ApplyMove_any (v : Value) (l : List Int) (k i j : Int) (w : World) (h : Sits w v l) (hl : l.length ≤ 1048576) :
    Calls Try.prog 32 #[v, .agg #[.int .i64 k, .int .i64 i, .int .i64 j]] w fun e w' => ∃ u, e = .returned (.tuple #[u, .bool (apB l k i j)]) ∧ Own w' w.heap.size u (apRes l k i j) ∧ Below w.heap.size w w' := by
  have HB := hid ((Below.refl w.heap.size w).alloc (Nat.le_refl _) (mvObj k i j))
  have HS := hid h
  obtain ⟨b, off, c, rfl, hc1, hm, hb, hc⟩ := h
  clear hc
  cases him : imV (l.length : Int) k i j with
  | false =>
    have HI := hid him
    have HV := hid (show .nilIface = moVal l.length k i j from moVal_no him.symm)
    have HN := hid (show apB l k i j = false by
      rw [apB]
      cases hp : permB l with
      | false => rfl
      | true => rw [← im_perm hp, him]; rfl)
    clear him
    go_enter Try.func32, Try.ntmps32
    go_wp2_with (first | (go_at_call 78; refine (moverOf_any _ k i j _).mono ?_; rintro e w1 ⟨rfl, hb1⟩; rw [← HV.out, HI.out]; have HB1 := hid (Below_chain HB.out hb1); clear hb1) | fail)
    go_ret2
    exact ⟨_, ret_sbA HN.out.symm, by rw [apRes_no HN.out]; exact Own.nil _ _, HB1.out⟩
  | true =>
    have HI := hid him
    have HM := hid (imV_mvB him)
    have HV := hid (show mvV (k, i, j) = moVal l.length k i j from moVal_yes him.symm)
    cases hp : permB l with
    | false =>
      have HP := hid hp
      have HN := hid (show apB l k i j = false by rw [apB, hp]; rfl)
      clear him hp
      go_enter Try.func32, Try.ntmps32
      go_wp2_with (first | (go_at_call 78; refine (moverOf_any _ k i j _).mono ?_; rintro e w1 ⟨rfl, hb1⟩; rw [← HV.out, HI.out]; have HB1 := hid (Below_chain HB.out hb1); clear hb1) | (go_at_call 72; refine (impl_IsPermutation_any _ l _ (HS.out.reads.below HB1.out)).mono ?_; rintro e w2 ⟨rfl, hb2⟩; rw [HP.out]; have HB2 := hid (Below_chain HB1.out hb2); clear hb2) | fail)
      go_ret2
      exact ⟨_, ret_sbA HN.out.symm, by rw [apRes_no HN.out]; exact Own.nil _ _, HB2.out⟩
    | true =>
      have HP := hid hp
      have HN := hid (show apB l k i j = true by rw [apB, hp, ← im_perm hp, him]; rfl)
      clear him hp
      go_enter Try.func32, Try.ntmps32
      go_wp2_with (first | (go_at_call 78; refine (moverOf_any _ k i j _).mono ?_; rintro e w1 ⟨rfl, hb1⟩; rw [← HV.out, HI.out]; have HB1 := hid (Below_chain HB.out hb1); clear hb1) | (go_at_call 72; refine (impl_IsPermutation_any _ l _ (HS.out.reads.below HB1.out)).mono ?_; rintro e w2 ⟨rfl, hb2⟩; rw [HP.out]; have HB2 := hid (Below_chain HB1.out hb2); clear hb2) | (go_at_call 80; refine (movedBy_any (k, i, j) _ l _ (HS.out.below HB2.out) hl HM.out).mono ?_; rintro e w3 ⟨rfl, hr, hb3⟩; have HR3 := hid hr; have HB3 := hid (Below_chain HB2.out hb3); clear hr hb3) | fail)
      have hsz := HB2.out.size
      go_ret2
      exact ⟨_, ret_sbA HN.out.symm, by rw [apRes_yes HN.out]; exact (RowL.own HR3.out (mvM_len _ _) hl).mono hsz, HB3.out⟩
theorem impl_MoveSign_any (k i j : Int) (w : World) :
    Calls Try.prog 34 #[.agg #[.int .i64 k, .int .i64 i, .int .i64 j]] w fun e w' => e = .returned (.tuple #[.int .i64 (msV k i j), .bool (mvB 12 k i j)]) ∧ Below w.heap.size w w' := by
  have HB := hid ((Below.refl w.heap.size w).alloc (Nat.le_refl _) (mvObj k i j))
  have HU := hid (upTo_length 12)
  have HPU := hid ((PN_upTo 12).permB (Nat.le_refl _))
  obtain ⟨x0, x1, x2⟩ := mv_box w k i j
  cases hm : mvB 12 k i j with
  | false =>
    have HN := hid (show apB (upTo 12) k i j = false by rw [apB, HPU.out, HU.out]; exact hm)
    have HV := hid (show msV k i j = 0 by rw [msV, hm, if_neg (by simp)])
    clear hm
    go_enter Try.func34, Try.ntmps34
    go_wp2_with fail
    go_region_held3 (fun w' => w'.cell? ⟨w.heap.size, 0, none⟩ = some (.int .i64 k) ∧ w'.cell? ⟨w.heap.size, 1, none⟩ = some (.int .i64 i) ∧ w'.cell? ⟨w.heap.size, 2, none⟩ = some (.int .i64 j))
      (first | exact ⟨x0, x1, x2⟩ | exact ⟨cell_below2 x0 HA1.out, cell_below2 x1 HA1.out, cell_below2 x2 HA1.out⟩ | exact ⟨cell_below2 x0 HA2.out, cell_below2 x1 HA2.out, cell_below2 x2 HA2.out⟩ | go_keep | fail)
      (first
        | (go_at_call 82; refine (firstNumbers_any 12 _ (by omega)).mono ?_; rintro e w1 ⟨he, ho1, hb1⟩; have hs1 := ho1.sits; clear ho1; obtain ⟨u1, hu1⟩ : ∃ u1, u1 = Value.slice (some ⟨(w.alloc (mvObj k i j)).drew.heap.size, 0, none⟩) 12 12 := ⟨_, rfl⟩; rw [← hu1] at he hs1; subst he; have HS1 := hid hs1; clear hs1 hu1; have HA1 := hid ((Below.refl _ _).drew.trans hb1 : Below (w.alloc (mvObj k i j)).heap.size (w.alloc (mvObj k i j)) w1); clear hb1)
        | (go_at_call 32; refine (impl_ApplyMove_any _ (upTo 12) k i j _ HS1.out (by rw [HU.out]; omega)).mono ?_; rintro e w2 ⟨u2, rfl, ho2, hb2⟩; rw [HN.out]; have HA2 := hid (Below_chain HA1.out hb2); clear ho2 hb2)
        | fail)
    all_goals
      go_wp2_with fail
      go_ret2
      exact ⟨ret_nbA HV.out.symm rfl, Below_chain HB.out HA2.out⟩
  | true =>
    have HN := hid (show apB (upTo 12) k i j = true by rw [apB, HPU.out, HU.out]; exact hm)
    have HR := hid (show apRes (upTo 12) k i j = mvL k i j (upTo 12) from apRes_yes HN.out)
    have HPM := hid (show permB (mvL k i j (upTo 12)) = true from PN.permB (mvM_PN (m := (k, i, j)) (PN_upTo 12) hm) (Nat.le_refl _))
    have HV := hid (show msV k i j = signRes (mvL k i j (upTo 12)) by rw [msV, if_pos hm, signRes_yes HPM.out]; rfl)
    have HLM := hid (mvL_len k i j (upTo 12))
    have HWF := hid (PN_wf (mvM_PN (m := (k, i, j)) (PN_upTo 12) hm) (by omega))
    clear hm
    go_enter Try.func34, Try.ntmps34
    go_wp2_with fail
    go_region_held3 (fun w' => w'.cell? ⟨w.heap.size, 0, none⟩ = some (.int .i64 k) ∧ w'.cell? ⟨w.heap.size, 1, none⟩ = some (.int .i64 i) ∧ w'.cell? ⟨w.heap.size, 2, none⟩ = some (.int .i64 j))
      (first | exact ⟨x0, x1, x2⟩ | exact ⟨cell_below2 x0 HA1.out, cell_below2 x1 HA1.out, cell_below2 x2 HA1.out⟩ | exact ⟨cell_below2 x0 HA2.out, cell_below2 x1 HA2.out, cell_below2 x2 HA2.out⟩ | go_keep | fail)
      (first
        | (go_at_call 82; refine (firstNumbers_any 12 _ (by omega)).mono ?_; rintro e w1 ⟨he, ho1, hb1⟩; have hs1 := ho1.sits; clear ho1; obtain ⟨u1, hu1⟩ : ∃ u1, u1 = Value.slice (some ⟨(w.alloc (mvObj k i j)).drew.heap.size, 0, none⟩) 12 12 := ⟨_, rfl⟩; rw [← hu1] at he hs1; subst he; have HS1 := hid hs1; clear hs1 hu1; have HA1 := hid ((Below.refl _ _).drew.trans hb1 : Below (w.alloc (mvObj k i j)).heap.size (w.alloc (mvObj k i j)) w1); clear hb1)
        | (go_at_call 32; refine (impl_ApplyMove_any _ (upTo 12) k i j _ HS1.out (by rw [HU.out]; omega)).mono ?_; rintro e w2 ⟨u2, rfl, ho2, hb2⟩; rw [HN.out]; rw [HR.out] at ho2; have HA2 := hid (Below_chain HA1.out hb2); obtain ⟨g2, c2, rfl, HS2⟩ := own_twelve (by rw [HLM.out, HU.out]; omega) ho2; clear ho2 hb2)
        | fail)
    all_goals
      go_wp2_with (first | (go_at_call 83; refine (impl_SignOf_any _ (mvL k i j (upTo 12)) _ HS2.out (by rw [HLM.out, HU.out]; omega) HWF.out).mono ?_; rintro e w3 ⟨rfl, hb3⟩; rw [HPM.out]; have HA3 := hid (Below_chain HA2.out hb3); clear hb3) | fail)
      go_ret2
      exact ⟨ret_nbA HV.out.symm rfl, Below_chain HB.out HA3.out⟩
end Go.Proofs.Yteenmndgejeihaa
