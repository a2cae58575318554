/- Contracts: spec.IsRoundExchange and impl.IsRoundExchange (Rnd and RndI in one text: a claim has at most 60 files). Conditions: as there. -/
import Derived.Test.YtkphbelgamfmnaaLit3
import Derived.Test.YtkphbelgamfmnaaEx3
namespace Go.Proofs.Ytkphbelgamfmnaa
open Go.RowKit
set_option linter.unusedVariables false

/-- IsRoundExchange: one list alone, or the last one and the first are near -/
def rdB (n : Int) (L : List (List Int)) : Bool := decide (L.length = 1) || nearP n (L.getD (L.length - 1) []) (L.getD 0 [])
def rdV (n k : Int) (L : List (List Int)) : Bool := chV farN n k L && rdB n L
theorem near_twoF (far : Int) (a b : List Int) : nearL far [a, b] = nearP far a b := by
  have h1 : nearAt far [a, b] 0 = true := rfl
  have h2 : nearAt far [a, b] 1 = nearP far a b := rfl
  show allTo 2 (nearAt far [a, b]) = _
  rw [allTo_succ, allTo_succ, allTo_zero, h1, h2]
  rfl
theorem binom_one : ∀ n ≤ 12, ∀ k ≤ n, 0 < binom n k := by decide
theorem exit_ofR {Q : Exit → Act → World → Prop} {a b : Act} {w : World} (h : b = a) (hq : Q .normal b w) : Q .normal a w := h ▸ hq
set_option maxHeartbeats 2000000 in
theorem spec_IsRoundExchange_any (n k : Int) (v : Value) (L : List (List Int)) (base : Nat) (w : World) (h : Lists w base v L) :
    Calls Try.prog 19 #[.int .i64 n, .int .i64 k, v] w fun e w' => e = .returned (.tuple #[.bool (rdV n k L), .bool (chOk n k L)]) ∧ Below w.heap.size w w' := by
  have HIS := hid (spec_IsExchangeList_any n k v L base w h)
  cases hs : chOk n k L with
  | false =>
    have HO := hid hs
    have HV := hid (show chV farN n k L = false by rw [chV, hs]; rfl)
    have HR := hid (show rdV n k L = false by rw [rdV, HV.out]; rfl)
    clear hs h
    go_enter Try.func19, Try.ntmps19
    go_wp2_with (first | (go_at_call 17; refine (HIS.out).mono ?_; rintro e w1 ⟨rfl, hb1⟩; rw [HV.out, HO.out]; have HB1 := hid hb1; clear hb1) | fail)
    go_ret2
    exact ⟨ret_bb3 HR.out.symm rfl, HB1.out⟩
  | true =>
    have HO := hid hs
    cases hv : chV farN n k L with
    | false =>
      have HV := hid hv
      have HR := hid (show rdV n k L = false by rw [rdV, hv]; rfl)
      clear hs hv h
      go_enter Try.func19, Try.ntmps19
      go_wp2_with (first | (go_at_call 17; refine (HIS.out).mono ?_; rintro e w1 ⟨rfl, hb1⟩; rw [HV.out, HO.out]; have HB1 := hid hb1; clear hb1) | fail)
      refine wp_region_any (by kernel_rfl) ?_
      (try (change wpAny _ _ _ _ _ _ _ (World.drew _)))
      refine wpAny_take (i := 0) (v := .bool false) rfl (by kernel_rfl) (by kernel_rfl) (by kernel_rfl) (fun _ _ _ h => h) (Or.inl ⟨by kernel_rfl, fun w => by go_simp⟩) ?_
      refine wpAny_take (i := 1) (v := .bool false) rfl (by kernel_rfl) (by kernel_rfl) (by kernel_rfl) (fun _ _ _ h => h) (Or.inl ⟨by kernel_rfl, fun w => by go_simp⟩) ?_
      refine wpAny_take (i := 2) (v := undef) rfl (by kernel_rfl) (by kernel_rfl) (by kernel_rfl) (fun _ _ _ h => h) (Or.inr ⟨by kernel_rfl, rfl⟩) ?_
      refine wpAny_take (i := 3) (v := undef) rfl (by kernel_rfl) (by kernel_rfl) (by kernel_rfl) (fun _ _ _ h => h) (Or.inr ⟨by kernel_rfl, rfl⟩) ?_
      refine wpAny_take (i := 4) (v := undef) rfl (by kernel_rfl) (by kernel_rfl) (by kernel_rfl) (fun _ _ _ h => h) (Or.inr ⟨by kernel_rfl, rfl⟩) ?_
      refine wpAny_take (i := 5) (v := undef) rfl (by kernel_rfl) (by kernel_rfl) (by kernel_rfl) (fun _ _ _ h => h) (Or.inr ⟨by kernel_rfl, rfl⟩) ?_
      refine wpAny_take (i := 6) (v := undef) rfl (by kernel_rfl) (by kernel_rfl) (by kernel_rfl) (fun _ _ _ h => h) (Or.inr ⟨by kernel_rfl, rfl⟩) ?_
      refine wpAny_take (i := 7) (v := undef) rfl (by kernel_rfl) (by kernel_rfl) (by kernel_rfl) (fun _ _ _ h => h) (Or.inr ⟨by kernel_rfl, rfl⟩) ?_
      refine wpAny_take (i := 8) (v := undef) rfl (by kernel_rfl) (by kernel_rfl) (by kernel_rfl) (fun _ _ _ h => h) (Or.inr ⟨by kernel_rfl, rfl⟩) ?_
      refine wpAny_take (i := 9) (v := undef) rfl (by kernel_rfl) (by kernel_rfl) (by kernel_rfl) (fun _ _ _ h => h) (Or.inr ⟨by kernel_rfl, rfl⟩) ?_
      refine wpAny_take (i := 10) (v := undef) rfl (by kernel_rfl) (by kernel_rfl) (by kernel_rfl) (fun _ _ _ h => h) (Or.inr ⟨by kernel_rfl, rfl⟩) ?_
      refine wpAny_take (i := 11) (v := undef) rfl (by kernel_rfl) (by kernel_rfl) (by kernel_rfl) (fun _ _ _ h => h) (Or.inr ⟨by kernel_rfl, rfl⟩) ?_
      refine wpAny_take (i := 12) (v := undef) rfl (by kernel_rfl) (by kernel_rfl) (by kernel_rfl) (fun _ _ _ h => h) (Or.inr ⟨by kernel_rfl, rfl⟩) ?_
      refine wpAny_take (i := 13) (v := undef) rfl (by kernel_rfl) (by kernel_rfl) (by kernel_rfl) (fun _ _ _ h => h) (Or.inr ⟨by kernel_rfl, rfl⟩) ?_
      refine wpAny_take (i := 14) (v := undef) rfl (by kernel_rfl) (by kernel_rfl) (by kernel_rfl) (fun _ _ _ h => h) (Or.inr ⟨by kernel_rfl, rfl⟩) ?_
      refine wpAny_take (i := 15) (v := undef) rfl (by kernel_rfl) (by kernel_rfl) (by kernel_rfl) (fun _ _ _ h => h) (Or.inr ⟨by kernel_rfl, rfl⟩) ?_
      refine wpAny_take (i := 16) (v := undef) rfl (by kernel_rfl) (by kernel_rfl) (by kernel_rfl) (fun _ _ _ h => h) (Or.inr ⟨by kernel_rfl, rfl⟩) ?_
      refine wpAny_take (i := 17) (v := undef) rfl (by kernel_rfl) (by kernel_rfl) (by kernel_rfl) (fun _ _ _ h => h) (Or.inr ⟨by kernel_rfl, rfl⟩) ?_
      refine wpAny_take (i := 18) (v := undef) rfl (by kernel_rfl) (by kernel_rfl) (by kernel_rfl) (fun _ _ _ h => h) (Or.inr ⟨by kernel_rfl, rfl⟩) ?_
      refine wpAny_take (i := 19) (v := .bool false) rfl (by kernel_rfl) (by kernel_rfl) (by kernel_rfl) (fun _ _ _ h => h) (Or.inl ⟨by kernel_rfl, fun w => by go_simp⟩) ?_
      refine wpAny_take (i := 20) (v := .bool false) rfl (by kernel_rfl) (by kernel_rfl) (by kernel_rfl) (fun _ _ _ h => h) (Or.inl ⟨by kernel_rfl, fun w => by go_simp⟩) ?_
      refine wpAny_take (i := 21) (v := .bool true) rfl (by kernel_rfl) (by kernel_rfl) (by kernel_rfl) (fun _ _ _ h => h) (Or.inl ⟨by kernel_rfl, fun w => by go_simp⟩) ?_
      refine wpAny_done (by kernel_rfl) ?_ _
      refine exit_ofR (b := { tmps := #[.int .i64 n, .int .i64 k, v, undef, undef, undef, .bool false, .bool true, .bool false, .bool true, .tuple #[.bool false, .bool true], .int .i64 n, .int .i64 k, v, .tuple #[.bool false, .bool true], .bool false, .bool true, .bool true, .bool false, .bool false, .bool false, undef, undef, undef, undef, undef, undef, undef, undef, undef, undef, undef, undef, undef, undef, undef, undef, undef, .bool false], defers := [] }) (by kernel_rfl) ?_
      go_wp2_with fail
      go_ret2
      exact ⟨ret_bb3 HR.out.symm rfl, Below_chain HB1.out (Below.refl _ _).drew⟩
    | true =>
      have HV := hid hv
      have HR := hid (show rdV n k L = rdB n L by rw [rdV, hv]; rfl)
      by_cases h1 : L.length = 1
      · have HR1 := hid (show rdV n k L = true by rw [HR.out, rdB, decide_eq_true h1]; rfl)
        obtain ⟨ao, c, rfl⟩ := h.slice3
        rw [h1] at HIS ⊢
        have HX := hid HIS.out
        clear hs hv h h1 HIS
        go_enter Try.func19, Try.ntmps19
        go_wp2_with (first | (go_at_call 17; refine (HX.out).mono ?_; rintro e w1 ⟨rfl, hb1⟩; rw [HV.out, HO.out]; have HB1 := hid hb1; clear hb1) | fail)
        refine wp_region_any (by kernel_rfl) ?_
        (try (change wpAny _ _ _ _ _ _ _ (World.drew _)))
        refine wpAny_take (i := 0) (v := .bool true) rfl (by kernel_rfl) (by kernel_rfl) (by kernel_rfl) (fun _ _ _ h => h) (Or.inl ⟨by kernel_rfl, fun w => by go_simp⟩) ?_
        refine wpAny_take (i := 1) (v := .bool true) rfl (by kernel_rfl) (by kernel_rfl) (by kernel_rfl) (fun _ _ _ h => h) (Or.inl ⟨by kernel_rfl, fun w => by go_simp⟩) ?_
        refine wpAny_take (i := 2) (v := .slice ao 1 c) rfl (by kernel_rfl) (by kernel_rfl) (by kernel_rfl) (fun _ _ _ h => h) (Or.inl ⟨by kernel_rfl, fun w => by go_simp⟩) ?_
        refine wpAny_take (i := 3) (v := .int .i64 1) rfl (by kernel_rfl) (by kernel_rfl) (by kernel_rfl) (fun _ _ _ h => h) (Or.inl ⟨by kernel_rfl, fun w => by go_simp⟩) ?_
        refine wpAny_take (i := 4) (v := .bool true) rfl (by kernel_rfl) (by kernel_rfl) (by kernel_rfl) (fun _ _ _ h => h) (Or.inl ⟨by kernel_rfl, fun w => by go_simp⟩) ?_
        refine wpAny_take (i := 5) (v := .bool true) rfl (by kernel_rfl) (by kernel_rfl) (by kernel_rfl) (fun _ _ _ h => h) (Or.inl ⟨by kernel_rfl, fun w => by go_simp⟩) ?_
        refine wpAny_take (i := 6) (v := undef) rfl (by kernel_rfl) (by kernel_rfl) (by kernel_rfl) (fun _ _ _ h => h) (Or.inr ⟨by kernel_rfl, rfl⟩) ?_
        refine wpAny_take (i := 7) (v := undef) rfl (by kernel_rfl) (by kernel_rfl) (by kernel_rfl) (fun _ _ _ h => h) (Or.inr ⟨by kernel_rfl, rfl⟩) ?_
        refine wpAny_take (i := 8) (v := undef) rfl (by kernel_rfl) (by kernel_rfl) (by kernel_rfl) (fun _ _ _ h => h) (Or.inr ⟨by kernel_rfl, rfl⟩) ?_
        refine wpAny_take (i := 9) (v := undef) rfl (by kernel_rfl) (by kernel_rfl) (by kernel_rfl) (fun _ _ _ h => h) (Or.inr ⟨by kernel_rfl, rfl⟩) ?_
        refine wpAny_take (i := 10) (v := undef) rfl (by kernel_rfl) (by kernel_rfl) (by kernel_rfl) (fun _ _ _ h => h) (Or.inr ⟨by kernel_rfl, rfl⟩) ?_
        refine wpAny_take (i := 11) (v := undef) rfl (by kernel_rfl) (by kernel_rfl) (by kernel_rfl) (fun _ _ _ h => h) (Or.inr ⟨by kernel_rfl, rfl⟩) ?_
        refine wpAny_take (i := 12) (v := undef) rfl (by kernel_rfl) (by kernel_rfl) (by kernel_rfl) (fun _ _ _ h => h) (Or.inr ⟨by kernel_rfl, rfl⟩) ?_
        refine wpAny_take (i := 13) (v := undef) rfl (by kernel_rfl) (by kernel_rfl) (by kernel_rfl) (fun _ _ _ h => h) (Or.inr ⟨by kernel_rfl, rfl⟩) ?_
        refine wpAny_take (i := 14) (v := undef) rfl (by kernel_rfl) (by kernel_rfl) (by kernel_rfl) (fun _ _ _ h => h) (Or.inr ⟨by kernel_rfl, rfl⟩) ?_
        refine wpAny_take (i := 15) (v := undef) rfl (by kernel_rfl) (by kernel_rfl) (by kernel_rfl) (fun _ _ _ h => h) (Or.inr ⟨by kernel_rfl, rfl⟩) ?_
        refine wpAny_take (i := 16) (v := undef) rfl (by kernel_rfl) (by kernel_rfl) (by kernel_rfl) (fun _ _ _ h => h) (Or.inr ⟨by kernel_rfl, rfl⟩) ?_
        refine wpAny_take (i := 17) (v := undef) rfl (by kernel_rfl) (by kernel_rfl) (by kernel_rfl) (fun _ _ _ h => h) (Or.inr ⟨by kernel_rfl, rfl⟩) ?_
        refine wpAny_take (i := 18) (v := .bool true) rfl (by kernel_rfl) (by kernel_rfl) (by kernel_rfl) (fun _ _ _ h => h) (Or.inl ⟨by kernel_rfl, fun w => by go_simp⟩) ?_
        refine wpAny_take (i := 19) (v := .bool true) rfl (by kernel_rfl) (by kernel_rfl) (by kernel_rfl) (fun _ _ _ h => h) (Or.inl ⟨by kernel_rfl, fun w => by go_simp⟩) ?_
        refine wpAny_take (i := 20) (v := .bool true) rfl (by kernel_rfl) (by kernel_rfl) (by kernel_rfl) (fun _ _ _ h => h) (Or.inl ⟨by kernel_rfl, fun w => by go_simp⟩) ?_
        refine wpAny_take (i := 21) (v := .bool true) rfl (by kernel_rfl) (by kernel_rfl) (by kernel_rfl) (fun _ _ _ h => h) (Or.inl ⟨by kernel_rfl, fun w => by go_simp⟩) ?_
        refine wpAny_done (by kernel_rfl) ?_ _
        refine exit_ofR (b := { tmps := #[.int .i64 n, .int .i64 k, .slice ao 1 c, undef, undef, undef, .bool true, .bool true, .bool true, .bool true, .tuple #[.bool true, .bool true], .int .i64 n, .int .i64 k, .slice ao 1 c, .tuple #[.bool true, .bool true], .bool true, .bool true, .bool true, .bool false, .bool true, .bool true, .slice ao 1 c, .int .i64 1, .bool true, .bool true, undef, undef, undef, undef, undef, undef, undef, undef, undef, undef, undef, undef, .bool true, .bool true], defers := [] }) (by kernel_rfl) ?_
        go_wp2_with fail
        go_ret2
        exact ⟨ret_bb3 HR1.out.symm rfl, Below_chain HB1.out (Below.refl _ _).drew⟩
      · have hv2 := hv
        simp only [chV, Bool.and_eq_true] at hv2
        obtain ⟨ho, ha, _⟩ := hv2
        rw [chOk, Bool.and_eq_true] at ho
        obtain ⟨N, K, rfl, rfl, hN, hK⟩ := szB_nat ho.1
        have HFE := hid (few_of_chl ho.2)
        rw [Int.toNat_natCast, Int.toNat_natCast, chaB, Bool.and_eq_true, decide_eq_true_eq] at ha
        have hlen2 : 2 ≤ L.length := by
          have := ha.2
          have := binom_one N hN K hK
          omega
        have hlen1 : L.length ≤ 2000 := by
          have h2 := binom_le N (by omega) K (by omega)
          omega
        rcases h.form with ⟨_, hn⟩ | ⟨g, cap, rfl, _, hg, hc1, hcm, hc⟩
        · rw [hn] at hlen2; simp at hlen2
        obtain ⟨j, hj⟩ : ∃ j, L.length = j + 1 := ⟨L.length - 1, by omega⟩
        have hjl : j < L.length := by omega
        have h0l : 0 < L.length := by omega
        obtain ⟨z, hz, hzo⟩ := hc j hjl
        obtain ⟨z', hz', hzo'⟩ := hc 0 h0l
        obtain ⟨la, hla⟩ : ∃ la, la = L[j] := ⟨_, rfl⟩
        obtain ⟨lb, hlb⟩ : ∃ lb, lb = L[0] := ⟨_, rfl⟩
        rw [← hla] at hzo
        rw [← hlb] at hzo'
        obtain ⟨az, cz, hzs⟩ := hzo.slice2
        obtain ⟨az', cz', hzs'⟩ := hzo'.slice2
        subst hzs hzs'
        obtain ⟨r, hr⟩ : ∃ r, r = nearP (N : Int) la lb := ⟨_, rfl⟩
        have HR1 := hid (show rdV (N : Int) (K : Int) L = r by
          rw [HR.out, rdB, decide_eq_false h1, hj, show j + 1 - 1 = j from rfl, getDL2 hjl, getDL2 h0l, ← hla, ← hlb, ← hr]; rfl)
        have HNT := hid (show nearL (N : Int) [la, lb] = r by rw [near_twoF, hr])
        have hfa : fewL la := by rw [hla]; exact HFE.out _ (List.getElem_mem _)
        have hfb : fewL lb := by rw [hlb]; exact HFE.out _ (List.getElem_mem _)
        have HFEW := hid (show ∀ x ∈ [la, lb], fewL x from fun x hx => by
          simp only [List.mem_cons, List.not_mem_nil, or_false] at hx
          rcases hx with rfl | rfl
          · exact hfa
          · exact hfb)
        have HZ := hid hzo
        have HZ' := hid hzo'
        have hbn : ((L.length : Int) == 1) = false := beq_false_of_ne (by omega)
        have hww : IntKind.i64.wrap ((L.length : Int) - 1) = (j : Int) := by rw [show (L.length : Int) - 1 = (j : Int) by omega]; exact IntWalk.i64_in _ (by omega)
        have hwj : IntKind.i64.wrap (j : Int) = (j : Int) := IntWalk.i64_in _ (by omega)
        have e0 : (0 : Int) ≤ (j : Int) := by omega
        have e1 : (j : Int) < (L.length : Int) := by omega
        have e2 : (0 : Int) < (L.length : Int) := by omega
        clear hs hv h ho ha hc hzo hzo' hla hlb hr h1 hfa hfb hj
        go_enter Try.func19, Try.ntmps19
        go_wp2_with (first | (go_at_call 17; refine (HIS.out).mono ?_; rintro e w1 ⟨rfl, hb1⟩; rw [HV.out, HO.out]; have hcx := (hb1.drew.cell (by exact hg)).trans hz; have hcy := (hb1.drew.cell (by exact hg)).trans hz'; have hal := (hb1.alloc hb1.size (.cells #[.slice az la.length cz, .slice az' lb.length cz'] 22)).drew; have HB1 := hid hal; have hcx2 := (hal.cell (by exact hg)).trans hz; have hcy2 := (hal.cell (by exact hg)).trans hz'; have HL2 := hid ((Lists_lit3 ((HZ.out.mono (Nat.zero_le _)).below hb1) ((HZ'.out.mono (Nat.zero_le _)).below hb1) (Nat.zero_le _)).below (Below.refl _ _).drew); clear hal hb1) | fail)
        go_region_held3 (fun w' => w'.cell? ⟨g, j, none⟩ = some (.slice az la.length cz) ∧ w'.cell? ⟨g, 0, none⟩ = some (.slice az' lb.length cz'))
          (first | exact ⟨hcx, hcy⟩ | exact ⟨hcx2, hcy2⟩ | exact ⟨(HB2.out.cell (by exact hg)).trans hz, (HB2.out.cell (by exact hg)).trans hz'⟩ | go_keep | fail)
          (first
            | (go_at_call 41; refine (chNear_any _ [la, lb] _ _ _ HL2.out HFEW.out (by simp)).mono ?_; rintro e w2 ⟨rfl, hb2⟩; rw [HNT.out]; have HB2 := hid (Below_chain HB1.out hb2); clear hb2)
            | fail)
        all_goals
          go_wp2_with fail
          go_ret2
          exact ⟨ret_bb3 HR1.out.symm rfl, HB2.out⟩
end Go.Proofs.Ytkphbelgamfmnaa
namespace Go.Proofs.Ytkphbelgamfmnaa
open Go.RowKit
set_option linter.unusedVariables false

set_option maxHeartbeats 1000000 in
theorem impl_IsRoundExchange_any (n k : Int) (v : Value) (L : List (List Int)) (w : World) (h : SitsL w v L) :
    Calls Try.prog 20 #[.int .i64 n, .int .i64 k, v] w fun e w' => e = .returned (.tuple #[.bool (rdV n k L), .bool (chOk n k L)]) ∧ Below w.heap.size w w' := by
  have HIS := hid (impl_IsExchangeList_any n k v L w h)
  have HS := hid h
  cases hv : chV farN n k L with
  | false =>
    have HV := hid hv
    have HR := hid (show rdV n k L = false by rw [rdV, hv]; rfl)
    clear hv h
    go_enter Try.func20, Try.ntmps20
    go_wp2_with (first | (go_at_call 18; refine (HIS.out).mono ?_; rintro e w1 ⟨rfl, hb1⟩; rw [HV.out]; have HB1 := hid hb1; clear hb1) | fail)
    go_ret2
    exact ⟨ret_bb3 HR.out.symm rfl, HB1.out⟩
  | true =>
    have HV := hid hv
    have HO := hid (show chOk n k L = true by rw [chV, Bool.and_eq_true] at hv; exact hv.1)
    have HR := hid (show rdV n k L = rdB n L by rw [rdV, hv]; rfl)
    obtain ⟨b, off, c, rfl, hc1, hm, hb0, hc⟩ := h
    by_cases h1 : L.length = 1
    · have HR1 := hid (show rdV n k L = true by rw [HR.out, rdB, decide_eq_true h1]; rfl)
      have hbn : ((L.length : Int) == 1) = true := by rw [h1]; rfl
      rw [h1] at HIS ⊢
      have HX := hid HIS.out
      clear hv h1 hc HS HIS hbn
      go_enter Try.func20, Try.ntmps20
      go_wp2_with (first | (go_at_call 18; refine (HX.out).mono ?_; rintro e w1 ⟨rfl, hb1⟩; rw [HV.out, HO.out]; have HB1 := hid hb1; clear hb1) | fail)
      refine wp_region_any (by kernel_rfl) ?_
      (try (change wpAny _ _ _ _ _ _ _ (World.drew _)))
      refine wpAny_take (i := 0) (v := .slice (some ⟨b, off, none⟩) 1 c) rfl (by kernel_rfl) (by kernel_rfl) (by kernel_rfl) (fun _ _ _ h => h) (Or.inl ⟨by kernel_rfl, fun w => by go_simp⟩) ?_
      refine wpAny_take (i := 1) (v := .int .i64 1) rfl (by kernel_rfl) (by kernel_rfl) (by kernel_rfl) (fun _ _ _ h => h) (Or.inl ⟨by kernel_rfl, fun w => by go_simp⟩) ?_
      refine wpAny_take (i := 2) (v := .bool true) rfl (by kernel_rfl) (by kernel_rfl) (by kernel_rfl) (fun _ _ _ h => h) (Or.inl ⟨by kernel_rfl, fun w => by go_simp⟩) ?_
      refine wpAny_take (i := 3) (v := .bool true) rfl (by kernel_rfl) (by kernel_rfl) (by kernel_rfl) (fun _ _ _ h => h) (Or.inl ⟨by kernel_rfl, fun w => by go_simp⟩) ?_
      refine wpAny_take (i := 4) (v := undef) rfl (by kernel_rfl) (by kernel_rfl) (by kernel_rfl) (fun _ _ _ h => h) (Or.inr ⟨by kernel_rfl, rfl⟩) ?_
      refine wpAny_take (i := 5) (v := undef) rfl (by kernel_rfl) (by kernel_rfl) (by kernel_rfl) (fun _ _ _ h => h) (Or.inr ⟨by kernel_rfl, rfl⟩) ?_
      refine wpAny_take (i := 6) (v := undef) rfl (by kernel_rfl) (by kernel_rfl) (by kernel_rfl) (fun _ _ _ h => h) (Or.inr ⟨by kernel_rfl, rfl⟩) ?_
      refine wpAny_take (i := 7) (v := undef) rfl (by kernel_rfl) (by kernel_rfl) (by kernel_rfl) (fun _ _ _ h => h) (Or.inr ⟨by kernel_rfl, rfl⟩) ?_
      refine wpAny_take (i := 8) (v := undef) rfl (by kernel_rfl) (by kernel_rfl) (by kernel_rfl) (fun _ _ _ h => h) (Or.inr ⟨by kernel_rfl, rfl⟩) ?_
      refine wpAny_take (i := 9) (v := undef) rfl (by kernel_rfl) (by kernel_rfl) (by kernel_rfl) (fun _ _ _ h => h) (Or.inr ⟨by kernel_rfl, rfl⟩) ?_
      refine wpAny_take (i := 10) (v := undef) rfl (by kernel_rfl) (by kernel_rfl) (by kernel_rfl) (fun _ _ _ h => h) (Or.inr ⟨by kernel_rfl, rfl⟩) ?_
      refine wpAny_take (i := 11) (v := undef) rfl (by kernel_rfl) (by kernel_rfl) (by kernel_rfl) (fun _ _ _ h => h) (Or.inr ⟨by kernel_rfl, rfl⟩) ?_
      refine wpAny_take (i := 12) (v := undef) rfl (by kernel_rfl) (by kernel_rfl) (by kernel_rfl) (fun _ _ _ h => h) (Or.inr ⟨by kernel_rfl, rfl⟩) ?_
      refine wpAny_take (i := 13) (v := undef) rfl (by kernel_rfl) (by kernel_rfl) (by kernel_rfl) (fun _ _ _ h => h) (Or.inr ⟨by kernel_rfl, rfl⟩) ?_
      refine wpAny_take (i := 14) (v := undef) rfl (by kernel_rfl) (by kernel_rfl) (by kernel_rfl) (fun _ _ _ h => h) (Or.inr ⟨by kernel_rfl, rfl⟩) ?_
      refine wpAny_take (i := 15) (v := .bool true) rfl (by kernel_rfl) (by kernel_rfl) (by kernel_rfl) (fun _ _ _ h => h) (Or.inl ⟨by kernel_rfl, fun w => by go_simp⟩) ?_
      refine wpAny_take (i := 16) (v := .bool true) rfl (by kernel_rfl) (by kernel_rfl) (by kernel_rfl) (fun _ _ _ h => h) (Or.inl ⟨by kernel_rfl, fun w => by go_simp⟩) ?_
      refine wpAny_take (i := 17) (v := .bool true) rfl (by kernel_rfl) (by kernel_rfl) (by kernel_rfl) (fun _ _ _ h => h) (Or.inl ⟨by kernel_rfl, fun w => by go_simp⟩) ?_
      refine wpAny_done (by kernel_rfl) ?_ _
      refine exit_ofR (b := { tmps := #[.int .i64 n, .int .i64 k, .slice (some ⟨b, off, none⟩) 1 c, undef, undef, undef, .bool true, .bool true, .bool true, .bool true, .tuple #[.bool true, .bool true], .int .i64 n, .int .i64 k, .slice (some ⟨b, off, none⟩) 1 c, .tuple #[.bool true, .bool true], .bool true, .bool true, .bool true, .bool false, undef, .slice (some ⟨b, off, none⟩) 1 c, .int .i64 1, .bool true, .bool true, undef, undef, undef, undef, undef, undef, undef, undef, undef, undef, undef, .bool true], defers := [] }) (by kernel_rfl) ?_
      go_wp2_with fail
      go_ret2
      exact ⟨ret_bb3 HR1.out.symm HO.out.symm, Below_chain HB1.out (Below.refl _ _).drew⟩
    · have hv2 := hv
      simp only [chV, Bool.and_eq_true] at hv2
      obtain ⟨ho, ha, _⟩ := hv2
      rw [chOk, Bool.and_eq_true] at ho
      obtain ⟨N, K, rfl, rfl, hN, hK⟩ := szB_nat ho.1
      have HFE := hid (few_of_chl ho.2)
      have hcl := ho.2
      simp only [chlB, Bool.and_eq_true, decide_eq_true_eq] at hcl
      have hcb := (allTo_iff _ _).1 hcl.1
      rw [Int.toNat_natCast, Int.toNat_natCast, chaB, Bool.and_eq_true, decide_eq_true_eq] at ha
      have hlen2 : 2 ≤ L.length := by
        have := ha.2
        have := binom_one N hN K hK
        omega
      have hlen1 : L.length ≤ 1100 := hcl.2.2
      obtain ⟨j, hj⟩ : ∃ j, L.length = j + 1 := ⟨L.length - 1, by omega⟩
      have hjl : j < L.length := by omega
      have h0l : 0 < L.length := by omega
      obtain ⟨z, hz, hzo⟩ := hc j hjl
      obtain ⟨z', hz', hzo'⟩ := hc 0 h0l
      rw [Nat.add_zero] at hz'
      obtain ⟨la, hla⟩ : ∃ la, la = L[j] := ⟨_, rfl⟩
      obtain ⟨lb, hlb⟩ : ∃ lb, lb = L[0] := ⟨_, rfl⟩
      rw [← hla] at hzo
      rw [← hlb] at hzo'
      obtain ⟨q, hq⟩ : ∃ q, q = nearP (N : Int) la lb := ⟨_, rfl⟩
      have HR1 := hid (show rdV (N : Int) (K : Int) L = q by
        rw [HR.out, rdB, decide_eq_false h1, hj, show j + 1 - 1 = j from rfl, getDL2 hjl, getDL2 h0l, ← hla, ← hlb, ← hq]; rfl)
      have hfa : fewL la := by rw [hla]; exact HFE.out _ (List.getElem_mem _)
      have hfb : fewL lb := by rw [hlb]; exact HFE.out _ (List.getElem_mem _)
      have HLD := hid (show ldP 12 la lb = q by
        have h1 := hcb j hjl
        have h2 := hcb 0 h0l
        rw [combAt, getDL2 hjl, ← hla] at h1
        rw [combAt, getDL2 h0l, ← hlb] at h2
        rw [hq]
        exact ld_nearN (by omega) h1 h2)
      have HZ := hid hzo.reads
      have HZ' := hid hzo'.reads
      have HFA := hid hfa
      have HFB := hid hfb
      have hbn : ((L.length : Int) == 1) = false := beq_false_of_ne (by omega)
      have hww : IntKind.i64.wrap ((L.length : Int) - 1) = (j : Int) := by rw [show (L.length : Int) - 1 = (j : Int) by omega]; exact IntWalk.i64_in _ (by omega)
      have hwj : IntKind.i64.wrap (j : Int) = (j : Int) := IntWalk.i64_in _ (by omega)
      have e0 : (0 : Int) ≤ (j : Int) := by omega
      have e1 : (j : Int) < (L.length : Int) := by omega
      have e2 : (0 : Int) < (L.length : Int) := by omega
      clear hv ho ha hcl hcb hc hzo hzo' hla hlb h1 hfa hfb hj hq
      go_enter Try.func20, Try.ntmps20
      go_wp2_with (first | (go_at_call 18; refine (HIS.out).mono ?_; rintro e w1 ⟨rfl, hb1⟩; rw [HV.out, HO.out]; have hcx := (hb1.cell (by exact hb0)).trans hz; have hcy := (hb1.cell (by exact hb0)).trans hz'; have HB1 := hid hb1; clear hb1) | fail)
      go_region_held3 (fun w' => w'.cell? ⟨b, off + j, none⟩ = some z ∧ w'.cell? ⟨b, off, none⟩ = some z')
        (first | exact ⟨hcx, hcy⟩ | exact ⟨(HB2.out.cell (by exact hb0)).trans hz, (HB2.out.cell (by exact hb0)).trans hz'⟩ | exact ⟨(HB3.out.cell (by exact hb0)).trans hz, (HB3.out.cell (by exact hb0)).trans hz'⟩ | go_keep | fail)
        (first
          | (go_at_call 42; refine (anyExchanges_any _).mono ?_; rintro e w2 ⟨p, rfl, hc2, hb2⟩; have HC2 := hid hc2; have HB2 := hid (Below_chain HB1.out ((Below.refl _ _).drew.trans hb2)); clear hc2 hb2)
          | (go_at_call 44; refine (leadTo_any p 12 _ _ la lb _ HC2.out (HZ.out.below HB2.out) (HZ'.out.below HB2.out) HFA.out HFB.out).mono ?_; rintro e w3 ⟨rfl, hb3⟩; rw [HLD.out]; have HB3 := hid (Below_chain HB2.out hb3); clear hb3)
          | fail)
      all_goals
        go_wp2_with fail
        go_ret2
        exact ⟨ret_bb3 HR1.out.symm HO.out.symm, HB3.out⟩
end Go.Proofs.Ytkphbelgamfmnaa
