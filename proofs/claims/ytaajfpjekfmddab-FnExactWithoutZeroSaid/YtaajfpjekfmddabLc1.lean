/- Contracts on the counts of Lyndon words, necklaces and bracelets: lyPower, powerOf, divisorsOf, lyCount, countLyndon, lyNecklaces, countNecklaces, countLyndonUpTo, countMirrored. Conditions: at most 6 letters, lengths 1 to 12. -/
import Derived.Test.YtaajfpjekfmddabLcM
import Derived.Test.YtaajfpjekfmddabLy1
namespace Go.Proofs.Ytaajfpjekfmddab
open Go.RowKit
set_option linter.unusedVariables false
set_option maxRecDepth 4000

theorem rem_nat {a b r : Nat} (h : r = a % b) : ((a : Int) % (b : Int) = (r : Int)) ∧ (a : Int).tmod (b : Int) = (r : Int) := by
  have h1 : (a : Int) % (b : Int) = (r : Int) := by rw [h]; simp
  exact ⟨h1, by rw [Int.tmod_eq_emod_of_nonneg (by omega)]; exact h1⟩
theorem lyPower_any (k e : Nat) (w : World) (hk : k < 7) (he : e < 13) :
    Calls Try.prog 41 #[.int .i64 (k : Int), .int .i64 (e : Int)] w fun x w' => x = .returned (.int .i64 (pwI k e)) ∧ w = w' := by
  go_enter Try.func41, Try.ntmps41
  go_wp2_with fail
  go_loop [1, 5] (fun ev pv => ∃ j q : Nat, ev = .int .i64 (q : Int) ∧ pv = .int .i64 (pwI k j) ∧ q + j = e) (fun ev _ => (intOf ev).toNat)
  case atStart => exact ⟨0, e, rfl, rfl, rfl⟩
  case round =>
    obtain ⟨j, q, rfl, rfl, hqj⟩ := hrel
    by_cases hlt : 0 < q
    · have q1 : (0 : Int) < (q : Int) := by omega
      have h1 := pw_tab k hk j (by omega)
      have h2 := pw_tab k hk (j + 1) (by omega)
      rw [pwI] at h2
      have HE := hid (show pwI k (j + 1) = pwI k j * (k : Int) from rfl)
      obtain ⟨P, hP⟩ : ∃ P, P = pwI k j := ⟨_, rfl⟩
      have HQJ := hid hqj
      rw [← hP] at h1 h2 HE ⊢
      have h3 := h2.1
      have h4 := h2.2
      have hq13 : q < 13 := by omega
      clear hP hqj h2
      go_wp2_with fail
      go_round
      case rel => exact ⟨j + 1, q - 1, by go_num, by rw [HE.out], by have := HQJ.out; omega⟩
      case measure => simp [intOf]; omega
    · have hq : q = 0 := by omega
      subst hq
      have hje : j = e := by omega
      subst hje
      go_wp2_with fail
      go_ret
      exact ⟨rfl, rfl⟩
theorem powerOf_any (k e : Nat) (w : World) (hk : k < 7) (he : e < 13) :
    Calls Try.prog 49 #[.int .i64 (k : Int), .int .i64 (e : Int)] w fun x w' => x = .returned (.int .i64 (pwI k e)) ∧ w = w' := by
  go_enter Try.func49, Try.ntmps49
  go_wp2_with fail
  go_loop [5, 7] (fun pv iv => ∃ j : Nat, iv = .int .i64 (j : Int) ∧ pv = .int .i64 (pwI k j) ∧ j ≤ e) (fun _ iv => e - (intOf iv).toNat)
  case atStart => exact ⟨0, rfl, rfl, Nat.zero_le _⟩
  case round =>
    obtain ⟨j, rfl, rfl, hj⟩ := hrel
    by_cases hlt : j < e
    · have q1 : (j : Int) < (e : Int) := by omega
      have h1 := pw_tab k hk j (by omega)
      have h2 := pw_tab k hk (j + 1) (by omega)
      rw [pwI] at h2
      have HE := hid (show pwI k (j + 1) = pwI k j * (k : Int) from rfl)
      obtain ⟨P, hP⟩ : ∃ P, P = pwI k j := ⟨_, rfl⟩
      rw [← hP] at h1 h2 HE ⊢
      have h3 := h2.1
      have h4 := h2.2
      clear hP h2
      go_wp2_with fail
      go_round
      case rel => exact ⟨j + 1, by go_num, by rw [HE.out], by omega⟩
      case measure => simp [intOf]; omega
    · obtain rfl : j = e := by omega
      go_wp2_with fail
      go_ret
      exact ⟨rfl, rfl⟩
end Go.Proofs.Ytaajfpjekfmddab
