/- Contracts: both IsSuper and both WastedIn functions. Conditions: slices that are not nil and read as lists. -/
import Derived.Test.YtlkhkecnghpokabSu2
namespace Go.Proofs.Ytlkhkecnghpokab
open Go.RowKit
set_option linter.unusedVariables false
set_option maxRecDepth 4000

theorem Reads.view4 {w : World} {v : Value} {xs : List Int} (h : Reads w v xs) : ∃ ao c, v = .slice ao xs.length c ∧ xs.length ≤ c ∧ c ≤ 9223372036854775807 := by
  obtain ⟨ao, c, rfl, h1, h2, _⟩ := h.view
  exact ⟨ao, c, rfl, h1, h2⟩
theorem bound_RanksIn (n : Int) (xs : List Int) : (firRes n xs).length ≤ 1048576 := by
  cases h : suOk n xs with
  | false => rw [firRes_no h]; simp
  | true =>
    rw [firRes_yes h]
    have h1 := firL_le n.toNat xs (wnN n xs)
    unfold suOk at h
    rw [Bool.and_eq_true] at h
    have h2 := suWB_len h.2
    unfold wnN at h1 ⊢
    omega
def isuB (n : Int) (xs : List Int) : Bool := suOk n xs && decide ((firRes n xs).length = fact n.toNat)
def wasR (n : Int) (xs : List Int) : Int := if suOk n xs = true then ((wnN n xs : Nat) : Int) - ((firRes n xs).length : Nat) else 0
theorem isuB_no {n : Int} {xs : List Int} (h : suOk n xs = false) : isuB n xs = false := by unfold isuB; rw [h]; rfl
theorem isuB_yes {m : Nat} {xs : List Int} (h : suOk (m : Int) xs = true) : isuB (m : Int) xs = (((firRes (m : Int) xs).length : Int) == (fact m : Int)) := by
  unfold isuB
  rw [h, Bool.true_and, Int.toNat_natCast, Bool.eq_iff_iff, decide_eq_true_eq, beq_iff_eq]
  omega
theorem wasR_no {n : Int} {xs : List Int} (h : suOk n xs = false) : wasR n xs = 0 := by unfold wasR; rw [if_neg (by rw [h]; simp)]
theorem wasR_yes {n : Int} {xs : List Int} (h : suOk n xs = true) : wasR n xs = ((wnN n xs : Nat) : Int) - ((firRes n xs).length : Nat) := by unfold wasR; rw [if_pos h]
theorem ret_bb3 {a a' b b' : Bool} (h : a = a') (h2 : b = b') : Ending.returned (.tuple #[.bool a, .bool b]) = .returned (.tuple #[.bool a', .bool b']) := by rw [h, h2]
theorem suOk_parts {n : Int} {xs : List Int} (h : suOk n xs = true) : suNB n = true ∧ suWB xs = true := by
  unfold suOk at h
  rwa [Bool.and_eq_true] at h
theorem suSuper_any (m : Nat) (v : Value) (xs : List Int) (w : World) (h : Sits w v xs) (h1 : 1 ≤ m) (h5 : m ≤ 5) (hl : xs.length ≤ 200) :
    Calls Try.prog 47 #[.int .i64 (m : Int), v] w fun e w' => e = .returned (.bool (((firL m xs (wnN m xs)).length : Int) == (fact m : Int))) ∧ Below w.heap.size w w' := by
  have HS := hid h
  clear h
  have hm13 : m < 13 := by omega
  go_enter Try.func47, Try.ntmps47
  go_wp2_with (first
    | (go_at_call 49; (refine (suFirsts_any m _ xs _ HS.out h1 h5 hl).mono ?_); (rintro e w1 ⟨u, rfl, ho, hb⟩); (obtain ⟨ao, cc, rfl, hcc, hcm⟩ := ho.shp9); (have HB := hid hb); (obtain ⟨L, hL⟩ : ∃ L, L = (firL m xs (wnN m xs)).length := ⟨_, rfl⟩); (rw [← hL]); (have HL := hid hL); (clear ho hb hL hcc hcm))
    | (go_at_call 57; (refine (raFactorial_any m _ hm13).mono ?_); (rintro e w2 ⟨rfl, rfl⟩))
    | fail)
  go_ret
  exact ⟨ret_bool (by rw [← HL.out]), HB.out⟩
theorem spec_IsSuper_any (n : Int) (v : Value) (xs : List Int) (w : World) (_hn : (Lit.int .i64 n).wf = true) (h : Sits w v xs) (_hl : xs.length ≤ 1048576) (_hwf : ∀ n ∈ xs, (Lit.int .i64 n).wf = true) :
    Calls Try.prog 14 #[.int .i64 n, v] w fun e w' => e = .returned (.tuple #[.bool (isuB n xs), .bool (suOk n xs)]) ∧ Below w.heap.size w w' := by
  have HS := hid h
  clear h
  cases hn : suNB n with
  | false =>
    have HK := hid (suOk_l (xs := xs) hn)
    have HR := hid (isuB_no HK.out)
    go_enter Try.func14, Try.ntmps14
    go_wp2_with (first | (go_at_call 45; (refine (suSize_any _ _).mono ?_); (rintro e w' ⟨rfl, rfl⟩); (rw [hn])) | fail)
    go_ret2
    exact ⟨ret_bb3 HR.out.symm HK.out.symm, Below.refl _ _⟩
  | true =>
    have HK := hid (suOk_r (xs := xs) hn)
    cases hw : suWB xs with
    | false =>
      have HK2 := hid (HK.out.trans hw)
      have HR := hid (isuB_no HK2.out)
      go_enter Try.func14, Try.ntmps14
      go_wp2_with (first | (go_at_call 45; (refine (suSize_any _ _).mono ?_); (rintro e w' ⟨rfl, rfl⟩); (rw [hn])) | (go_at_call 46; (refine (suWord_any _ xs _ HS.out).mono ?_); (rintro e w' ⟨rfl, rfl⟩); (rw [hw])) | fail)
      go_ret2
      exact ⟨ret_bb3 HR.out.symm HK2.out.symm, Below.refl _ _⟩
    | true =>
      have HK2 := hid (HK.out.trans hw)
      have HLN := hid (suWB_len hw)
      obtain ⟨m, rfl, h1, h5⟩ := suNB_nat hn
      have HR := hid ((isuB_yes HK2.out).trans (by rw [firRes_yes HK2.out, Int.toNat_natCast]))
      go_enter Try.func14, Try.ntmps14
      go_wp2_with (first | (go_at_call 45; (refine (suSize_any _ _).mono ?_); (rintro e w' ⟨rfl, rfl⟩); (rw [hn])) | (go_at_call 46; (refine (suWord_any _ xs _ HS.out).mono ?_); (rintro e w' ⟨rfl, rfl⟩); (rw [hw])) | (go_at_call 47; (refine (suSuper_any m _ xs _ HS.out h1 h5 HLN.out).mono ?_); (rintro e w1 ⟨rfl, hb⟩); (have HB := hid hb); (rw [← HR.out]); (clear hb)) | fail)
      go_ret2
      exact ⟨ret_bb3 rfl HK2.out.symm, HB.out⟩
theorem impl_IsSuper_any (n : Int) (v : Value) (xs : List Int) (w : World) (hn : (Lit.int .i64 n).wf = true) (h : Sits w v xs) (hl : xs.length ≤ 1048576) (hwf : ∀ n ∈ xs, (Lit.int .i64 n).wf = true) :
    Calls Try.prog 16 #[.int .i64 n, v] w fun e w' => e = .returned (.tuple #[.bool (isuB n xs), .bool (suOk n xs)]) ∧ Below w.heap.size w w' := by
  have HS := hid h
  have HWF := hid hwf
  clear h hwf
  cases hk : suOk n xs with
  | false =>
    have HR := hid (isuB_no hk)
    go_enter Try.func16, Try.ntmps16
    go_wp2_with (first | (go_at_call 19; (refine (impl_RanksIn_any n _ xs _ hn HS.out hl HWF.out).mono ?_); (rintro e w1 ⟨u, rfl, ho, hb⟩); (have HB := hid hb); (rw [hk]); (clear ho hb)) | fail)
    go_ret2
    exact ⟨ret_bb3 HR.out.symm rfl, HB.out⟩
  | true =>
    have hp := suOk_parts hk
    obtain ⟨m, rfl, h1, h5⟩ := suNB_nat hp.1
    have hm13 : m < 13 := by omega
    have HR := hid (isuB_yes hk)
    clear hp
    go_enter Try.func16, Try.ntmps16
    go_wp2_with (first
      | (go_at_call 19; (refine (impl_RanksIn_any m _ xs _ hn HS.out hl HWF.out).mono ?_); (rintro e w1 ⟨u, rfl, ho, hb⟩); (obtain ⟨ao, cc, rfl, hcc, hcm⟩ := ho.reads.view4); (obtain ⟨L, hL⟩ : ∃ L, L = (firRes (m : Int) xs).length := ⟨_, rfl⟩); (rw [← hL, hk]); (have HL := hid hL); (have HB := hid hb); (clear ho hb hcc hcm hL))
      | (go_at_call 48; (refine (factorial_any m _ hm13).mono ?_); (rintro e w2 ⟨rfl, rfl⟩))
      | fail)
    go_ret2
    exact ⟨ret_bb3 (by rw [HR.out, HL.out]) rfl, HB.out⟩
theorem spec_WastedIn_any (n : Int) (v : Value) (xs : List Int) (w : World) (_hn : (Lit.int .i64 n).wf = true) (h : Sits w v xs) (_hl : xs.length ≤ 1048576) (_hwf : ∀ n ∈ xs, (Lit.int .i64 n).wf = true) :
    Calls Try.prog 22 #[.int .i64 n, v] w fun e w' => e = .returned (.tuple #[.int .i64 (wasR n xs), .bool (suOk n xs)]) ∧ Below w.heap.size w w' := by
  have HS := hid h
  clear h
  cases hn : suNB n with
  | false =>
    have HK := hid (suOk_l (xs := xs) hn)
    have HR := hid (wasR_no HK.out)
    go_enter Try.func22, Try.ntmps22
    go_wp2_with (first | (go_at_call 45; (refine (suSize_any _ _).mono ?_); (rintro e w' ⟨rfl, rfl⟩); (rw [hn])) | fail)
    go_ret2
    exact ⟨ret_nb2 HR.out.symm HK.out.symm, Below.refl _ _⟩
  | true =>
    have HK := hid (suOk_r (xs := xs) hn)
    cases hw : suWB xs with
    | false =>
      have HK2 := hid (HK.out.trans hw)
      have HR := hid (wasR_no HK2.out)
      go_enter Try.func22, Try.ntmps22
      go_wp2_with (first | (go_at_call 45; (refine (suSize_any _ _).mono ?_); (rintro e w' ⟨rfl, rfl⟩); (rw [hn])) | (go_at_call 46; (refine (suWord_any _ xs _ HS.out).mono ?_); (rintro e w' ⟨rfl, rfl⟩); (rw [hw])) | fail)
      go_ret2
      exact ⟨ret_nb2 HR.out.symm HK2.out.symm, Below.refl _ _⟩
    | true =>
      have HK2 := hid (HK.out.trans hw)
      have HLN := hid (suWB_len hw)
      obtain ⟨m, rfl, h1, h5⟩ := suNB_nat hn
      have HR := hid ((wasR_yes HK2.out).trans (by rw [firRes_yes HK2.out, Int.toNat_natCast]))
      go_enter Try.func22, Try.ntmps22
      go_wp2_with (first | (go_at_call 45; (refine (suSize_any _ _).mono ?_); (rintro e w' ⟨rfl, rfl⟩); (rw [hn])) | (go_at_call 46; (refine (suWord_any _ xs _ HS.out).mono ?_); (rintro e w' ⟨rfl, rfl⟩); (rw [hw])) | (go_at_call 49; (refine (suFirsts_any m _ xs _ HS.out h1 h5 HLN.out).mono ?_); (rintro e w1 ⟨u, rfl, ho, hb⟩); (rw [← HR.out]); (have HB := hid hb); (clear hb ho)) | fail)
      go_ret2
      exact ⟨ret_nb2 rfl HK2.out.symm, HB.out⟩
theorem impl_WastedIn_any (n : Int) (v : Value) (xs : List Int) (w : World) (hn : (Lit.int .i64 n).wf = true) (h : Sits w v xs) (hl : xs.length ≤ 1048576) (hwf : ∀ n ∈ xs, (Lit.int .i64 n).wf = true) :
    Calls Try.prog 23 #[.int .i64 n, v] w fun e w' => e = .returned (.tuple #[.int .i64 (wasR n xs), .bool (suOk n xs)]) ∧ Below w.heap.size w w' := by
  have HS := hid h
  have HWF := hid hwf
  have hsit := h
  obtain ⟨b, off, c, rfl, hc1, hm, hb, hc⟩ := hsit
  clear h hwf hc
  cases hk : suOk n xs with
  | false =>
    have HR := hid (wasR_no hk)
    go_enter Try.func23, Try.ntmps23
    go_wp2_with (first | (go_at_call 19; (refine (impl_RanksIn_any n _ xs _ hn HS.out hl HWF.out).mono ?_); (rintro e w1 ⟨u, rfl, ho, hb⟩); (have HB := hid hb); (rw [hk]); (clear ho hb)) | fail)
    go_ret2
    exact ⟨ret_nb2 HR.out.symm rfl, HB.out⟩
  | true =>
    have hp := suOk_parts hk
    obtain ⟨m, rfl, h1, h5⟩ := suNB_nat hp.1
    have hlen := suWB_len hp.2
    have hb9 := bound_RanksIn (m : Int) xs
    have HR := hid ((wasR_yes hk).trans (by rw [wnN_nat]))
    obtain ⟨L, hL⟩ : ∃ L, L = (firRes (m : Int) xs).length := ⟨_, rfl⟩
    rw [← hL] at hb9 HR
    have HL := hid hL
    obtain ⟨q, hq⟩ : ∃ q, q = xs.length + 1 - m := ⟨_, rfl⟩
    rw [← hq] at HR
    have HMX := hid (show max ((xs.length : Int) - (m : Int) + 1) 0 = (q : Int) by omega)
    clear hp hL hq
    go_enter Try.func23, Try.ntmps23
    go_wp2_with (first
      | (go_at_call 19; (refine (impl_RanksIn_any m _ xs _ hn HS.out hl HWF.out).mono ?_); (rintro e w1 ⟨u, rfl, ho, hb⟩); (obtain ⟨ao, cc, rfl, hcc, hcm⟩ := ho.reads.view4); (rw [← HL.out, hk]); (have HB := hid hb); (clear ho hb hcc hcm))
      | fail)
    go_ret2
    exact ⟨ret_nb2 (by rw [HR.out, HMX.out]) rfl, HB.out⟩
end Go.Proofs.Ytlkhkecnghpokab
