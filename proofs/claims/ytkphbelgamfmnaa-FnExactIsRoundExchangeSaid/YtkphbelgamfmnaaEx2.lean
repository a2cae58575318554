/- Contract: leadAlong. Conditions: the slice is not nil, nor are its rows, and it reads as a list of at most 1100 lists of at most 12 numbers in 0..12. -/
import Derived.Test.YtkphbelgamfmnaaEx1
namespace Go.Proofs.Ytkphbelgamfmnaa
open Go.RowKit
set_option linter.unusedVariables false

set_option maxHeartbeats 1000000 in
theorem leadAlong_any (p : Addr) (m : Int) (v : Value) (L : List (List Int)) (w : World) (hc : w.cell? p = some (.int .i64 m)) (h : SitsL w v L) (hf : ∀ l ∈ L, fewL l) (hL : L.length ≤ 1100) :
    Calls Try.prog 69 #[exV p, v] w fun e w' => e = .returned (.bool (allTo L.length (ldAt m L))) ∧ Below w.heap.size w w' := by
  have hba : Below w.heap.size w (w.alloc (exO1 p)) := (Below.refl w.heap.size w).alloc (Nat.le_refl _) _
  have HBA := hid hba
  have HCP := hid (cell_below hc hba)
  have HX0 := hid (ex_cell w p)
  have HS := hid (h.below hba)
  have HF := hid hf
  obtain ⟨b, off, c, rfl, hc1, hm, hb0, _⟩ := h
  clear hba hc hf
  unfold exV
  go_enter Try.func69, Try.ntmps69
  go_wp2_with fail
  go_loopw [5] (fun i wr => ∃ j : Nat, (j + 1 ≤ L.length ∨ L.length = 0) ∧ j ≤ 1100 ∧ i = .int .i64 ((j : Int) + 1) ∧ allTo (j + 1) (ldAt m L) = true ∧ wr.cell? p = some (.int .i64 m) ∧ wr.cell? ⟨w.heap.size, 0, none⟩ = some (.func (.func 76) #[] #[.pointer (some p)]) ∧ SitsL wr (.slice (some ⟨b, off, none⟩) L.length c) L ∧ Below w.heap.size w wr) (fun i _ => L.length - (intOf i).toNat)
  case atStart => exact ⟨0, by omega, by omega, rfl, rfl, HCP.out, HX0.out, HS.out, HBA.out⟩
  case round =>
    obtain ⟨j, hj, hj2, rfl, hnb, hcp, hcx, hsit, hbel⟩ := hrel
    have HNB := hid hnb
    have HCP1 := hid hcp
    have HSIT := hid hsit
    have HBEL := hid hbel
    have HCX := hid hcx
    by_cases hlt : j + 1 < L.length
    · obtain ⟨b', off', c', e, _, _, hbb, hcc⟩ := hsit
      simp only [Value.slice.injEq, Option.some.injEq, Addr.mk.injEq, and_true, true_and] at e
      obtain ⟨⟨rfl, rfl⟩, rfl⟩ := e
      obtain ⟨z, hz, hs1⟩ := hcc j (by omega)
      obtain ⟨z', hz', hs2⟩ := hcc (j + 1) hlt
      have hcy := hz
      have hcy' := hz'
      have HZ := hid hs1.reads
      have HZ' := hid hs2.reads
      obtain ⟨l, hl⟩ : ∃ l, l = L[j] := ⟨_, rfl⟩
      obtain ⟨l', hl'⟩ : ∃ l, l = L[j + 1] := ⟨_, rfl⟩
      have HFL := hid (show fewL l by rw [hl]; exact HF.out _ (List.getElem_mem _))
      have HFL' := hid (show fewL l' by rw [hl']; exact HF.out _ (List.getElem_mem _))
      have HNK := hid (show ldAt m L (j + 1) = ldP m l l' by
        have hg1 : L.getD j [] = l := by rw [hl]; exact getDL2 (by omega)
        have hg2 : L.getD (j + 1) [] = l' := by rw [hl']; exact getDL2 hlt
        unfold ldAt
        rw [hg2, show j + 1 - 1 = j from rfl, hg1]
        rfl)
      rw [← hl] at HZ
      rw [← hl'] at HZ'
      have h0k : (0 : Int) ≤ (j : Int) := by omega
      have hkl : (j : Int) < (L.length : Int) := by omega
      have h0k2 : (0 : Int) ≤ (j : Int) + 1 := by omega
      have hkl2 : (j : Int) + 1 < (L.length : Int) := by omega
      have hww : IntKind.i64.wrap ((j : Int) + 1 - 1) = (j : Int) := by rw [show (j : Int) + 1 - 1 = j by omega]; exact IntWalk.i64_in _ (by omega)
      have hwj : IntKind.i64.wrap (j : Int) = (j : Int) := IntWalk.i64_in _ (by omega)
      have htn : ((j : Int) + 1).toNat = j + 1 := by omega
      clear hz hz' hs1 hs2 hl hl' hcc hnb hcp hbel
      have hbx := World.block_lt_of_cell? wr _ HCX.out
      cases hq : ldP m l l' with
      | true =>
        have HQQ := hid hq
        clear hq
        go_wp2_with fail
        go_region_held3 (fun w' => w'.cell? ⟨w.heap.size, 0, none⟩ = some (.func (.func 76) #[] #[.pointer (some p)]) ∧ w'.cell? ⟨b, off + j, none⟩ = some z ∧ w'.cell? ⟨b, off + (j + 1), none⟩ = some z')
          (first | exact ⟨HCX.out, hcy, hcy'⟩ | exact ⟨((show Below wr.heap.size wr.drew w1 from HB1.out).cell (by exact hbx)).trans HCX.out, ((show Below wr.heap.size wr.drew w1 from HB1.out).cell (by exact hbb)).trans hcy, ((show Below wr.heap.size wr.drew w1 from HB1.out).cell (by exact hbb)).trans hcy'⟩ | go_keep | fail)
          (first
            | (go_at_call 44; refine (leadTo_any p m _ _ l l' _ ?_ ?_ ?_ HFL.out HFL'.out).mono ?_; (exact HCP1.out); (exact HZ.out.below (Below.refl _ _).drew); (exact HZ'.out.below (Below.refl _ _).drew); rintro e w1 ⟨rfl, hb1⟩; rw [HQQ.out]; have HB1 := hid hb1; clear hb1)
            | fail)
        all_goals
          go_wp2_with fail
          go_roundw
          case rel =>
            have hbw : Below wr.heap.size wr w1 := (Below.refl _ _).drew.trans HB1.out
            exact ⟨j + 1, by omega, by omega, by go_num, allTo_next HNB.out (by rw [HNK.out]; exact HQQ.out), cell_below HCP1.out hbw, cell_below HCX.out hbw, HSIT.out.below hbw, Below_chain HBEL.out hbw⟩
          case measure => simp [intOf]; omega
      | false =>
        have HQQ := hid hq
        clear hq
        go_wp2_with fail
        go_region_held3 (fun w' => w'.cell? ⟨w.heap.size, 0, none⟩ = some (.func (.func 76) #[] #[.pointer (some p)]) ∧ w'.cell? ⟨b, off + j, none⟩ = some z ∧ w'.cell? ⟨b, off + (j + 1), none⟩ = some z')
          (first | exact ⟨HCX.out, hcy, hcy'⟩ | exact ⟨((show Below wr.heap.size wr.drew w1 from HB1.out).cell (by exact hbx)).trans HCX.out, ((show Below wr.heap.size wr.drew w1 from HB1.out).cell (by exact hbb)).trans hcy, ((show Below wr.heap.size wr.drew w1 from HB1.out).cell (by exact hbb)).trans hcy'⟩ | go_keep | fail)
          (first
            | (go_at_call 44; refine (leadTo_any p m _ _ l l' _ ?_ ?_ ?_ HFL.out HFL'.out).mono ?_; (exact HCP1.out); (exact HZ.out.below (Below.refl _ _).drew); (exact HZ'.out.below (Below.refl _ _).drew); rintro e w1 ⟨rfl, hb1⟩; rw [HQQ.out]; have HB1 := hid hb1; clear hb1)
            | fail)
        all_goals
          go_wp2_with fail
          go_returns
          exact ⟨ret_bool (allTo_no hlt (by rw [HNK.out]; exact HQQ.out)).symm, Below_chain HBEL.out ((Below.refl _ _).drew.trans HB1.out)⟩
    · have HFI := hid (show allTo L.length (ldAt m L) = true from allTo_mono HNB.out (by omega))
      clear hnb hcp hcx hsit hbel
      go_wp2_with fail
      go_returns
      exact ⟨ret_bool HFI.out.symm, HBEL.out⟩
end Go.Proofs.Ytkphbelgamfmnaa
