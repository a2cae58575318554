/- Contracts on the counts of Lyndon words, necklaces and bracelets: lyPower, powerOf, divisorsOf, lyCount, countLyndon, lyNecklaces, countNecklaces, countLyndonUpTo, countMirrored. Conditions: at most 6 letters, lengths 1 to 12. -/
import Derived.Test.YtaajfpjekfmddaaLcM
import Derived.Test.YtaajfpjekfmddaaLy1
namespace Go.Proofs.Ytaajfpjekfmddaa
open Go.RowKit
set_option linter.unusedVariables false
set_option maxRecDepth 4000

theorem rem_nat {a b r : Nat} (h : r = a % b) : ((a : Int) % (b : Int) = (r : Int)) ∧ (a : Int).tmod (b : Int) = (r : Int) := by
  have h1 : (a : Int) % (b : Int) = (r : Int) := by rw [h]; simp
  exact ⟨h1, by rw [Int.tmod_eq_emod_of_nonneg (by omega)]; exact h1⟩
theorem lyPower_any (k e : Nat) (w : World) (hk : k < 7) (he : e < 13) :
    Calls Try.prog 73 #[.int .i64 (k : Int), .int .i64 (e : Int)] w fun x w' => x = .returned (.int .i64 (pwI k e)) ∧ w = w' := by
  go_enter Try.func73, Try.ntmps73
  go_wp2_with fail
  go_loop [1, 5] (fun ev pv => ∃ j q : Nat, ev = .int .i64 (q : Int) ∧ pv = .int .i64 (pwI k j) ∧ q + j = e) (fun ev _ => (intOf ev).toNat)
  case atStart => exact ⟨0, e, rfl, rfl, rfl⟩
  case round =>
    obtain ⟨j, q, rfl, rfl, hqj⟩ := hrel
    by_cases hlt : 0 < q
    · have q1 : (0 : Int) < (q : Int) := by omega
      have h1 := pw_tab k hk j (by omega)
      have h2 := pw_tab k hk (j + 1) (by omega)
      rw [pwI] at h2
      have HE := hid (show pwI k (j + 1) = pwI k j * (k : Int) from rfl)
      obtain ⟨P, hP⟩ : ∃ P, P = pwI k j := ⟨_, rfl⟩
      have HQJ := hid hqj
      rw [← hP] at h1 h2 HE ⊢
      have h3 := h2.1
      have h4 := h2.2
      have hq13 : q < 13 := by omega
      clear hP hqj h2
      go_wp2_with fail
      go_round
      case rel => exact ⟨j + 1, q - 1, by go_num, by rw [HE.out], by have := HQJ.out; omega⟩
      case measure => simp [intOf]; omega
    · have hq : q = 0 := by omega
      subst hq
      have hje : j = e := by omega
      subst hje
      go_wp2_with fail
      go_ret
      exact ⟨rfl, rfl⟩
theorem powerOf_any (k e : Nat) (w : World) (hk : k < 7) (he : e < 13) :
    Calls Try.prog 96 #[.int .i64 (k : Int), .int .i64 (e : Int)] w fun x w' => x = .returned (.int .i64 (pwI k e)) ∧ w = w' := by
  go_enter Try.func96, Try.ntmps96
  go_wp2_with fail
  go_loop [5, 7] (fun pv iv => ∃ j : Nat, iv = .int .i64 (j : Int) ∧ pv = .int .i64 (pwI k j) ∧ j ≤ e) (fun _ iv => e - (intOf iv).toNat)
  case atStart => exact ⟨0, rfl, rfl, Nat.zero_le _⟩
  case round =>
    obtain ⟨j, rfl, rfl, hj⟩ := hrel
    by_cases hlt : j < e
    · have q1 : (j : Int) < (e : Int) := by omega
      have h1 := pw_tab k hk j (by omega)
      have h2 := pw_tab k hk (j + 1) (by omega)
      rw [pwI] at h2
      have HE := hid (show pwI k (j + 1) = pwI k j * (k : Int) from rfl)
      obtain ⟨P, hP⟩ : ∃ P, P = pwI k j := ⟨_, rfl⟩
      rw [← hP] at h1 h2 HE ⊢
      have h3 := h2.1
      have h4 := h2.2
      clear hP h2
      go_wp2_with fail
      go_round
      case rel => exact ⟨j + 1, by go_num, by rw [HE.out], by omega⟩
      case measure => simp [intOf]; omega
    · obtain rfl : j = e := by omega
      go_wp2_with fail
      go_ret
      exact ⟨rfl, rfl⟩
theorem divisorsOf_any (n : Nat) (w : World) (h1 : 1 ≤ n) (hn : n < 13) :
    Calls Try.prog 86 #[.int .i64 (n : Int)] w fun x w' => ∃ g c, x = .returned (.slice (some ⟨g, 0, none⟩) (divTo n n).length c) ∧ Own w' w.heap.size (.slice (some ⟨g, 0, none⟩) (divTo n n).length c) (divTo n n) ∧ Below w.heap.size w w' := by
  obtain ⟨i0, hi, hz0, hz1, hz2⟩ := info_parts Try.info3
  go_enter Try.func86, Try.ntmps86
  go_wp2_with fail
  go_loopw [3, 4] (fun vp iv wr => ∃ j d : Nat, iv = .int .i64 (d : Int) ∧ d = j + 1 ∧ j ≤ n ∧ Own wr w.heap.size vp (divTo n j) ∧ Below w.heap.size w wr) (fun _ i _ => n + 1 - (intOf i).toNat)
  case atStart => exact ⟨0, 1, rfl, rfl, Nat.zero_le _, Own.nil _ _, Below.refl _ _⟩
  case round =>
    obtain ⟨j, d, rfl, hd, hj, hown, hbel⟩ := hrel
    have HO := hid hown
    have HB := hid hbel
    by_cases hlt : j < n
    · have hd0 : 1 ≤ d := by omega
      obtain ⟨r, hr⟩ : ∃ r, r = n % d := ⟨_, rfl⟩
      obtain ⟨u1, u2⟩ := rem_nat hr
      have u3 : ((d : Int) == 0) = false := beq_eq_false_iff_ne.2 (by omega)
      have q1 : (d : Int) ≤ (n : Int) := by omega
      have hrl : r < 13 := by rw [hr]; have := Nat.mod_lt n (show d > 0 by omega); omega
      obtain ⟨ao, cc, rfl, hcc, _⟩ := hown.view3
      have HLE := hid (divTo_le n j)
      have HDE := hid (show divTo n d = if n % d = 0 then divTo n j ++ [(d : Int)] else divTo n j by rw [hd]; rfl)
      have HD := hid hd
      have HRE := hid hr
      have hd13 : d < 14 := by omega
      have HDN := hid (show d ≤ n by omega)
      clear hown hbel hd hr hlt hj
      by_cases hr0 : r = 0
      · subst hr0
        have HX := hid (show divTo n d = divTo n j ++ [(d : Int)] by rw [HDE.out, if_pos HRE.out.symm])
        have hlj : (divTo n j).length ≤ 1048576 := by have := HLE.out; have := HD.out; omega
        obtain ⟨L, hL⟩ : ∃ L, L = divTo n j := ⟨_, rfl⟩
        rw [← hL] at HO HX hlj ⊢
        have HLL := hid hL
        clear hL
        go_wp2_with (first
          | (at_builtin; (refine wpList_push _ rfl _ _ 22 rfl w.heap.size i0 Try.underlying22 hi hz0 hz1 hz2 ao L.length cc L rfl HO.out (d : Int) wr.heap.size rfl rfl hlj HB.out.size ?_); (intro g5 c5 w5 hp5); (have HO5 := hid (show Own w5 w.heap.size (.slice (some ⟨g5, 0, none⟩) (L.length + 1) c5) (divTo n d) by rw [HX.out]; exact hp5.own)); (have HB5 := hid (hp5.below w rfl HB.out)); (clear hp5))
          | fail)
        go_roundw
        case rel => exact ⟨d, d + 1, by go_num, rfl, HDN.out, HO5.out, HB5.out⟩
        case measure => simp [intOf]; have := HD.out; have := HDN.out; omega
      · have HX := hid (show divTo n d = divTo n j by rw [HDE.out, if_neg (by rw [← HRE.out]; exact hr0)])
        have u4 : ((r : Int) == 0) = false := beq_eq_false_iff_ne.2 (by omega)
        clear hr0
        go_wp2_with fail
        go_roundw
        case rel => exact ⟨d, d + 1, by go_num, rfl, HDN.out, by rw [HX.out]; exact HO.out, HB.out⟩
        case measure => simp [intOf]; have := HD.out; have := HDN.out; omega
    · obtain rfl : j = n := by omega
      have q1 : ¬ (d : Int) ≤ (j : Int) := by omega
      have HPOS := hid (div_tab j hn)
      have HNE := hid (show divTo j j ≠ [] by
        intro e
        have : divTo j j = (if j % j = 0 then divTo j (j - 1) ++ [(j : Int)] else divTo j (j - 1)) := by
          obtain ⟨m, rfl⟩ : ∃ m, j = m + 1 := ⟨j - 1, by omega⟩
          rfl
        rw [if_pos (Nat.mod_self j)] at this
        rw [this] at e
        simp at e)
      rcases hown.form with ⟨_, e⟩ | ⟨g, cap, rfl, _⟩
      · exact absurd e HNE.out
      · clear hown hbel hd
        go_wp2_with fail
        go_ret
        exact ⟨_, _, rfl, HO.out, HB.out⟩
end Go.Proofs.Ytaajfpjekfmddaa
