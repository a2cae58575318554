/- Contracts of IsFullRegister and of its model, as the law calls them. Conditions: slices that are not nil and read as lists of at most 2^20 numbers. -/
import Derived.Test.YtaajfpjekfmddabRg2
import Derived.Test.YtaajfpjekfmddabBr6
namespace Go.Proofs.Ytaajfpjekfmddab
open Go.RowKit
set_option linter.unusedVariables false
set_option maxRecDepth 4000

def frR (ts : List Int) (n : Int) : Bool := atB (tapsB ts n) false (decide (((regR ts n.toNat).length : Int) = ((2 ^ n.toNat : Nat) : Int) - 1))
theorem frR_no {ts : List Int} {n : Int} (h : tapsB ts n = false) : frR ts n = false := atB_no h
theorem frR_yes {ts : List Int} {n : Nat} (h : tapsB ts n = true) : frR ts n = decide (((regR ts n).length : Int) = ((2 ^ n : Nat) : Int) - 1) := by unfold frR; rw [atB_yes h, Int.toNat_natCast]
theorem ret_bb9 {a a' b b' : Bool} (h : a = a') (h' : b = b') : Ending.returned (.tuple #[.bool a, .bool b]) = .returned (.tuple #[.bool a', .bool b']) := by rw [h, h']
theorem ownE_len9 {w : World} {B : Nat} {v : Value} {L : List Int} (h : OwnE w B v L) : ∃ a cap, v = .slice a L.length cap := by
  rcases h.form with ⟨e, e2⟩ | ⟨g, cap, e, _⟩
  · exact ⟨none, 0, by rw [e, e2]; rfl⟩
  · exact ⟨_, cap, e⟩
theorem law_spec_IsFullRegister (v : Value) (ts : List Int) (n : Int) (w : World) (h : Sits w v ts) (hl : ts.length ≤ 1048576) (_hwf : ∀ x ∈ ts, (Lit.int .i64 x).wf = true) (_wn : (Lit.int .i64 n).wf = true) :
    Calls Try.prog 32 #[v, .int .i64 n] w fun e w' => e = .returned (.tuple #[.bool (frR ts n), .bool (tapsB ts n)]) ∧ Below w.heap.size w w' := by
  have HS := hid h
  cases h1 : tapsB ts n with
  | false =>
    have HF := hid (frR_no h1)
    go_enter Try.func32, Try.ntmps32
    go_wp2_with (first | (go_at_call 65; (refine (brTaps_any _ ts _ _ HS.out).mono ?_); (rintro e w1 ⟨rfl, rfl⟩); (rw [h1])) | fail)
    go_ret2
    exact ⟨ret_bb9 HF.out.symm rfl, Below.refl _ _⟩
  | true =>
    obtain ⟨a, rfl, hT⟩ := tapsB_nat h1
    have HT := hid hT
    have HR := hid (frR_yes h1)
    have hp : 2 ^ a ≤ 1024 := Nat.pow_le_pow_right (by omega) hT.2.1
    have ha := hT.2.1
    obtain ⟨P, hP⟩ : ∃ P, P = 2 ^ a := ⟨_, rfl⟩
    have HP := hid (show pwI 2 a = (P : Int) by rw [pwI_pow, hP])
    rw [← hP] at hp HR
    obtain ⟨L, hL⟩ : ∃ L, L = regR ts a := ⟨_, rfl⟩
    have HL := hid hL.symm
    rw [← hL] at HR
    clear hT hP hL
    have hp2 : (P : Int) ≤ 1024 := by omega
    go_enter Try.func32, Try.ntmps32
    go_wp2_with (first
      | (go_at_call 65; (refine (brTaps_any _ ts _ _ HS.out).mono ?_); (rintro e w1 ⟨rfl, rfl⟩); (rw [h1]))
      | (go_at_call 66; (refine (brRegister_any _ ts a _ HS.out HT.out).mono ?_); (rintro e w2 ⟨u, rfl, ho, hb⟩); (rw [HL.out] at ho); (obtain ⟨ag, cap, rfl⟩ := ownE_len9 ho.e); (have HB := hid hb); (clear ho hb))
      | (go_at_call 41; (refine (lyPower_any 2 a _ (by omega) (by omega)).mono ?_); (rintro e w4 ⟨rfl, rfl⟩); (rw [HP.out]))
      | fail)
    go_ret2
    exact ⟨ret_bb9 (by rw [HR.out]; first | rfl | simp) rfl, HB.out⟩
theorem law_impl_IsFullRegister (v : Value) (ts : List Int) (n : Int) (w : World) (h : Sits w v ts) (hl : ts.length ≤ 1048576) (_hwf : ∀ x ∈ ts, (Lit.int .i64 x).wf = true) (_wn : (Lit.int .i64 n).wf = true) :
    Calls Try.prog 33 #[v, .int .i64 n] w fun e w' => e = .returned (.tuple #[.bool (frR ts n), .bool (tapsB ts n)]) ∧ Below w.heap.size w w' := by
  have HS := hid h
  cases h1 : tapsB ts n with
  | false =>
    have HF := hid (frR_no h1)
    go_enter Try.func33, Try.ntmps33
    go_wp2_with (first | (go_at_call 67; (refine (areTaps_any _ ts _ _ HS.out).mono ?_); (rintro e w1 ⟨rfl, hb1⟩); (have HB1 := hid hb1); (clear hb1); (rw [h1])) | fail)
    go_ret2
    exact ⟨ret_bb9 HF.out.symm rfl, HB1.out⟩
  | true =>
    obtain ⟨a, rfl, hT⟩ := tapsB_nat h1
    have HT := hid hT
    have HR := hid (frR_yes h1)
    have hp : 2 ^ a ≤ 1024 := Nat.pow_le_pow_right (by omega) hT.2.1
    have ha := hT.2.1
    obtain ⟨P, hP⟩ : ∃ P, P = 2 ^ a := ⟨_, rfl⟩
    rw [← hP] at hp HR
    obtain ⟨L, hL⟩ : ∃ L, L = regR ts a := ⟨_, rfl⟩
    have HL := hid hL.symm
    rw [← hL] at HR
    have hsh : (1 : Int) * 2 ^ a = (P : Int) := by rw [hP]; simp
    have hsh2 : (2 : Int) ^ a = (P : Int) := by rw [hP]; simp
    have ha2 : (0 : Int) ≤ (a : Int) := by omega
    have ha3 : ¬ (a : Int) < 0 := by omega
    have ham : min a 64 = a := by omega
    have hw1 : IntKind.i64.wrap (P : Int) = (P : Int) := IntWalk.i64_in _ (by omega)
    have hw2 : IntKind.i64.wrap ((P : Int) - 1) = (P : Int) - 1 := IntWalk.i64_in _ (by omega)
    clear hT hP hL
    go_enter Try.func33, Try.ntmps33
    go_wp2_with (first
      | (go_at_call 67; (refine (areTaps_any _ ts _ _ HS.out).mono ?_); (rintro e w1 ⟨rfl, hb1⟩); (have HB1 := hid hb1.drew); (have HS1 := hid (HS.out.below hb1.drew)); (clear hb1); (rw [h1]))
      | fail)
    go_region_held3 (fun w' => Below w.heap.size w w')
      (first | exact HB1.out | exact HB2.out | go_keep | fail)
      (first
        | (go_at_call 68; (refine (registerWord_any _ ts a _ HS1.out HT.out).mono ?_); (rintro e w2 ⟨u, rfl, ho, hb⟩); (rw [HL.out] at ho); (obtain ⟨ag, cap, rfl⟩ := ownE_len9 ho); (have HB2 := hid (Below_chain HB1.out hb)); (clear ho hb))
        | fail)
    all_goals
      go_wp2_with fail
      go_ret2
      exact ⟨ret_bb9 (by rw [HR.out]; first | rfl | simp) rfl, HB2.out⟩
end Go.Proofs.Ytaajfpjekfmddab
