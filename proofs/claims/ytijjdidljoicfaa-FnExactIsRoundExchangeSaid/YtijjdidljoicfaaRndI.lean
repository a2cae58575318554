/- Contract: impl.IsRoundExchange. Conditions: the slice is not nil, nor are its rows, and it reads as a list of lists. -/
import Derived.Test.YtijjdidljoicfaaEx3
import Derived.Test.YtijjdidljoicfaaRnd
namespace Go.Proofs.Ytijjdidljoicfaa
open Go.RowKit
set_option linter.unusedVariables false

set_option maxHeartbeats 1000000 in
theorem impl_IsRoundExchange_any (n k : Int) (v : Value) (L : List (List Int)) (w : World) (h : SitsL w v L) :
    Calls Try.prog 41 #[.int .i64 n, .int .i64 k, v] w fun e w' => e = .returned (.tuple #[.bool (rdV n k L), .bool (chOk n k L)]) ∧ Below w.heap.size w w' := by
  have HIS := hid (impl_IsExchangeList_any n k v L w h)
  have HS := hid h
  cases hv : chV farN n k L with
  | false =>
    have HV := hid hv
    have HR := hid (show rdV n k L = false by rw [rdV, hv]; rfl)
    clear hv h
    go_enter Try.func41, Try.ntmps41
    go_wp2_with (first | (go_at_call 39; refine (HIS.out).mono ?_; rintro e w1 ⟨rfl, hb1⟩; rw [HV.out]; have HB1 := hid hb1; clear hb1) | fail)
    go_ret2
    exact ⟨ret_bb3 HR.out.symm rfl, HB1.out⟩
  | true =>
    have HV := hid hv
    have HO := hid (show chOk n k L = true by rw [chV, Bool.and_eq_true] at hv; exact hv.1)
    have HR := hid (show rdV n k L = rdB n L by rw [rdV, hv]; rfl)
    obtain ⟨b, off, c, rfl, hc1, hm, hb0, hc⟩ := h
    by_cases h1 : L.length = 1
    · have HR1 := hid (show rdV n k L = true by rw [HR.out, rdB, decide_eq_true h1]; rfl)
      have hbn : ((L.length : Int) == 1) = true := by rw [h1]; rfl
      rw [h1] at HIS ⊢
      have HX := hid HIS.out
      clear hv h1 hc HS HIS hbn
      go_enter Try.func41, Try.ntmps41
      go_wp2_with (first | (go_at_call 39; refine (HX.out).mono ?_; rintro e w1 ⟨rfl, hb1⟩; rw [HV.out, HO.out]; have HB1 := hid hb1; clear hb1) | fail)
      refine wp_region_any (by kernel_rfl) ?_
      (try (change wpAny _ _ _ _ _ _ _ (World.drew _)))
      refine wpAny_take (i := 0) (v := .slice (some ⟨b, off, none⟩) 1 c) rfl (by kernel_rfl) (by kernel_rfl) (by kernel_rfl) (fun _ _ _ h => h) (Or.inl ⟨by kernel_rfl, fun w => by go_simp⟩) ?_
      refine wpAny_take (i := 1) (v := .int .i64 1) rfl (by kernel_rfl) (by kernel_rfl) (by kernel_rfl) (fun _ _ _ h => h) (Or.inl ⟨by kernel_rfl, fun w => by go_simp⟩) ?_
      refine wpAny_take (i := 2) (v := .bool true) rfl (by kernel_rfl) (by kernel_rfl) (by kernel_rfl) (fun _ _ _ h => h) (Or.inl ⟨by kernel_rfl, fun w => by go_simp⟩) ?_
      refine wpAny_take (i := 3) (v := .bool true) rfl (by kernel_rfl) (by kernel_rfl) (by kernel_rfl) (fun _ _ _ h => h) (Or.inl ⟨by kernel_rfl, fun w => by go_simp⟩) ?_
      refine wpAny_take (i := 4) (v := undef) rfl (by kernel_rfl) (by kernel_rfl) (by kernel_rfl) (fun _ _ _ h => h) (Or.inr ⟨by kernel_rfl, rfl⟩) ?_
      refine wpAny_take (i := 5) (v := undef) rfl (by kernel_rfl) (by kernel_rfl) (by kernel_rfl) (fun _ _ _ h => h) (Or.inr ⟨by kernel_rfl, rfl⟩) ?_
      refine wpAny_take (i := 6) (v := undef) rfl (by kernel_rfl) (by kernel_rfl) (by kernel_rfl) (fun _ _ _ h => h) (Or.inr ⟨by kernel_rfl, rfl⟩) ?_
      refine wpAny_take (i := 7) (v := undef) rfl (by kernel_rfl) (by kernel_rfl) (by kernel_rfl) (fun _ _ _ h => h) (Or.inr ⟨by kernel_rfl, rfl⟩) ?_
      refine wpAny_take (i := 8) (v := undef) rfl (by kernel_rfl) (by kernel_rfl) (by kernel_rfl) (fun _ _ _ h => h) (Or.inr ⟨by kernel_rfl, rfl⟩) ?_
      refine wpAny_take (i := 9) (v := undef) rfl (by kernel_rfl) (by kernel_rfl) (by kernel_rfl) (fun _ _ _ h => h) (Or.inr ⟨by kernel_rfl, rfl⟩) ?_
      refine wpAny_take (i := 10) (v := undef) rfl (by kernel_rfl) (by kernel_rfl) (by kernel_rfl) (fun _ _ _ h => h) (Or.inr ⟨by kernel_rfl, rfl⟩) ?_
      refine wpAny_take (i := 11) (v := undef) rfl (by kernel_rfl) (by kernel_rfl) (by kernel_rfl) (fun _ _ _ h => h) (Or.inr ⟨by kernel_rfl, rfl⟩) ?_
      refine wpAny_take (i := 12) (v := undef) rfl (by kernel_rfl) (by kernel_rfl) (by kernel_rfl) (fun _ _ _ h => h) (Or.inr ⟨by kernel_rfl, rfl⟩) ?_
      refine wpAny_take (i := 13) (v := undef) rfl (by kernel_rfl) (by kernel_rfl) (by kernel_rfl) (fun _ _ _ h => h) (Or.inr ⟨by kernel_rfl, rfl⟩) ?_
      refine wpAny_take (i := 14) (v := undef) rfl (by kernel_rfl) (by kernel_rfl) (by kernel_rfl) (fun _ _ _ h => h) (Or.inr ⟨by kernel_rfl, rfl⟩) ?_
      refine wpAny_take (i := 15) (v := .bool true) rfl (by kernel_rfl) (by kernel_rfl) (by kernel_rfl) (fun _ _ _ h => h) (Or.inl ⟨by kernel_rfl, fun w => by go_simp⟩) ?_
      refine wpAny_take (i := 16) (v := .bool true) rfl (by kernel_rfl) (by kernel_rfl) (by kernel_rfl) (fun _ _ _ h => h) (Or.inl ⟨by kernel_rfl, fun w => by go_simp⟩) ?_
      refine wpAny_take (i := 17) (v := .bool true) rfl (by kernel_rfl) (by kernel_rfl) (by kernel_rfl) (fun _ _ _ h => h) (Or.inl ⟨by kernel_rfl, fun w => by go_simp⟩) ?_
      refine wpAny_done (by kernel_rfl) ?_ _
      refine exit_ofR (b := { tmps := #[.int .i64 n, .int .i64 k, .slice (some ⟨b, off, none⟩) 1 c, undef, undef, undef, .bool true, .bool true, .bool true, .bool true, .tuple #[.bool true, .bool true], .int .i64 n, .int .i64 k, .slice (some ⟨b, off, none⟩) 1 c, .tuple #[.bool true, .bool true], .bool true, .bool true, .bool true, .bool false, undef, .slice (some ⟨b, off, none⟩) 1 c, .int .i64 1, .bool true, .bool true, undef, undef, undef, undef, undef, undef, undef, undef, undef, undef, undef, .bool true], defers := [] }) (by kernel_rfl) ?_
      go_wp2_with fail
      go_ret2
      exact ⟨ret_bb3 HR1.out.symm HO.out.symm, Below_chain HB1.out (Below.refl _ _).drew⟩
    · have hv2 := hv
      simp only [chV, Bool.and_eq_true] at hv2
      obtain ⟨ho, ha, _⟩ := hv2
      rw [chOk, Bool.and_eq_true] at ho
      obtain ⟨N, K, rfl, rfl, hN, hK⟩ := szB_nat ho.1
      have HFE := hid (few_of_chl ho.2)
      have hcl := ho.2
      simp only [chlB, Bool.and_eq_true, decide_eq_true_eq] at hcl
      have hcb := (allTo_iff _ _).1 hcl.1
      rw [Int.toNat_natCast, Int.toNat_natCast, chaB, Bool.and_eq_true, decide_eq_true_eq] at ha
      have hlen2 : 2 ≤ L.length := by
        have := ha.2
        have := binom_one N hN K hK
        omega
      have hlen1 : L.length ≤ 1100 := hcl.2.2
      obtain ⟨j, hj⟩ : ∃ j, L.length = j + 1 := ⟨L.length - 1, by omega⟩
      have hjl : j < L.length := by omega
      have h0l : 0 < L.length := by omega
      obtain ⟨z, hz, hzo⟩ := hc j hjl
      obtain ⟨z', hz', hzo'⟩ := hc 0 h0l
      rw [Nat.add_zero] at hz'
      obtain ⟨la, hla⟩ : ∃ la, la = L[j] := ⟨_, rfl⟩
      obtain ⟨lb, hlb⟩ : ∃ lb, lb = L[0] := ⟨_, rfl⟩
      rw [← hla] at hzo
      rw [← hlb] at hzo'
      obtain ⟨q, hq⟩ : ∃ q, q = nearP (N : Int) la lb := ⟨_, rfl⟩
      have HR1 := hid (show rdV (N : Int) (K : Int) L = q by
        rw [HR.out, rdB, decide_eq_false h1, hj, show j + 1 - 1 = j from rfl, getDL2 hjl, getDL2 h0l, ← hla, ← hlb, ← hq]; rfl)
      have hfa : fewL la := by rw [hla]; exact HFE.out _ (List.getElem_mem _)
      have hfb : fewL lb := by rw [hlb]; exact HFE.out _ (List.getElem_mem _)
      have HLD := hid (show ldP 12 la lb = q by
        have h1 := hcb j hjl
        have h2 := hcb 0 h0l
        rw [combAt, getDL2 hjl, ← hla] at h1
        rw [combAt, getDL2 h0l, ← hlb] at h2
        rw [hq]
        exact ld_nearN (by omega) h1 h2)
      have HZ := hid hzo.reads
      have HZ' := hid hzo'.reads
      have HFA := hid hfa
      have HFB := hid hfb
      have hbn : ((L.length : Int) == 1) = false := beq_false_of_ne (by omega)
      have hww : IntKind.i64.wrap ((L.length : Int) - 1) = (j : Int) := by rw [show (L.length : Int) - 1 = (j : Int) by omega]; exact IntWalk.i64_in _ (by omega)
      have hwj : IntKind.i64.wrap (j : Int) = (j : Int) := IntWalk.i64_in _ (by omega)
      have e0 : (0 : Int) ≤ (j : Int) := by omega
      have e1 : (j : Int) < (L.length : Int) := by omega
      have e2 : (0 : Int) < (L.length : Int) := by omega
      clear hv ho ha hcl hcb hc hzo hzo' hla hlb h1 hfa hfb hj hq
      go_enter Try.func41, Try.ntmps41
      go_wp2_with (first | (go_at_call 39; refine (HIS.out).mono ?_; rintro e w1 ⟨rfl, hb1⟩; rw [HV.out, HO.out]; have hcx := (hb1.cell (by exact hb0)).trans hz; have hcy := (hb1.cell (by exact hb0)).trans hz'; have HB1 := hid hb1; clear hb1) | fail)
      go_region_held3 (fun w' => w'.cell? ⟨b, off + j, none⟩ = some z ∧ w'.cell? ⟨b, off, none⟩ = some z')
        (first | exact ⟨hcx, hcy⟩ | exact ⟨(HB2.out.cell (by exact hb0)).trans hz, (HB2.out.cell (by exact hb0)).trans hz'⟩ | exact ⟨(HB3.out.cell (by exact hb0)).trans hz, (HB3.out.cell (by exact hb0)).trans hz'⟩ | go_keep | fail)
        (first
          | (go_at_call 76; refine (anyExchanges_any _).mono ?_; rintro e w2 ⟨p, rfl, hc2, hb2⟩; have HC2 := hid hc2; have HB2 := hid (Below_chain HB1.out ((Below.refl _ _).drew.trans hb2)); clear hc2 hb2)
          | (go_at_call 78; refine (leadTo_any p 12 _ _ la lb _ HC2.out (HZ.out.below HB2.out) (HZ'.out.below HB2.out) HFA.out HFB.out).mono ?_; rintro e w3 ⟨rfl, hb3⟩; rw [HLD.out]; have HB3 := hid (Below_chain HB2.out hb3); clear hb3)
          | fail)
      all_goals
        go_wp2_with fail
        go_ret2
        exact ⟨ret_bb3 HR1.out.symm HO.out.symm, HB3.out⟩
end Go.Proofs.Ytijjdidljoicfaa
