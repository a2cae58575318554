/- Contracts: both PairCycle functions. Conditions: none. -/
import Derived.Test.YteimfdpkodcfbaaPcyU
namespace Go.Proofs.Yteimfdpkodcfbaa
open Go.RowKit Go.Maps
set_option linter.unusedVariables false
set_option maxRecDepth 4000

def pcR (n : Int) : List Int := if pcB n = true then trW n.toNat else []
theorem pcR_yes {m : Nat} (h : pcB (m : Int) = true) : pcR (m : Int) = trW m := by unfold pcR; rw [if_pos h]; rfl
theorem pcR_no {n : Int} (h : pcB n = false) : pcR n = [] := by unfold pcR; rw [if_neg (by rw [h]; simp)]
theorem trW_len (n : Nat) : (trW n).length ≤ n * (n - 1) / 2 := by
  unfold trW
  rw [List.length_take]
  exact Nat.min_le_left _ _
theorem bound_PairCycle (n : Int) : (pcR n).length ≤ 1048576 := by
  cases h : pcB n with
  | false => rw [pcR_no h]; simp
  | true =>
    have h1 := h
    unfold pcB at h1
    rw [Bool.and_eq_true] at h1
    have h2 := inB_iff.1 h1.1
    obtain ⟨m, rfl⟩ : ∃ m : Nat, n = (m : Int) := ⟨n.toNat, by omega⟩
    rw [pcR_yes h]
    have h3 := trW_len m
    have h4 := (chooseZ_two m (by omega) (by omega)).2.2
    omega
theorem ret_sbP {u : Value} {b b' : Bool} (h : b = b') : Ending.returned (.tuple #[u, .bool b]) = .returned (.tuple #[u, .bool b']) := by rw [h]
theorem pcB_l {n : Int} (h : inB n 2 11 = false) : pcB n = false := by unfold pcB; rw [h]; rfl
theorem pcB_r {n : Int} (h : inB n 2 11 = true) : pcB n = !(n % 2 == 0) := by unfold pcB; rw [h]; rfl
theorem spec_PairCycle_any (n : Int) (w : World) (_hn : (Lit.int .i64 n).wf = true) :
    Calls Try.prog 36 #[.int .i64 n] w fun e w' => ∃ u, e = .returned (.tuple #[u, .bool (pcB n)]) ∧ Own w' w.heap.size u (pcR n) ∧ Below w.heap.size w w' := by
  cases hn : inB n 2 11 with
  | false =>
    have HB := hid (pcB_l hn)
    have HR := hid (pcR_no HB.out)
    have HN := hid hn
    clear hn
    go_enter Try.func36, Try.ntmps36
    go_wp2_with (first
      | (go_at_call 85; (refine (suPairSize_any _ _).mono ?_); (rintro e w' ⟨rfl, rfl⟩); (rw [HN.out]))
      | fail)
    go_ret2
    exact ⟨_, ret_sbP HB.out.symm, by rw [HR.out]; exact Own.nil _ _, Below.refl _ _⟩
  | true =>
    have h0 := inB_iff.1 hn
    obtain ⟨m, rfl⟩ : ∃ m : Nat, n = (m : Int) := ⟨n.toNat, by omega⟩
    have HN := hid hn
    have HBE := hid (pcB_r hn)
    clear hn
    cases he : ((m : Int) % 2 == 0) with
    | true =>
      have HB := hid (show pcB (m : Int) = false by rw [HBE.out, he]; rfl)
      have HR := hid (pcR_no HB.out)
      go_enter Try.func36, Try.ntmps36
      go_wp2_with (first
        | (go_at_call 85; (refine (suPairSize_any _ _).mono ?_); (rintro e w' ⟨rfl, rfl⟩); (rw [HN.out]))
        | fail)
      go_ret2
      exact ⟨_, ret_sbP HB.out.symm, by rw [HR.out]; exact Own.nil _ _, Below.refl _ _⟩
    | false =>
      have HB := hid (show pcB (m : Int) = true by rw [HBE.out, he]; rfl)
      have HR := hid (pcR_yes HB.out)
      go_enter Try.func36, Try.ntmps36
      go_wp2_with (first
        | (go_at_call 85; (refine (suPairSize_any _ _).mono ?_); (rintro e w' ⟨rfl, rfl⟩); (rw [HN.out]))
        | (go_at_call 92; (refine (suTour_any m _ HB.out).mono ?_); (rintro e w1 ⟨u, rfl, ho, hb⟩); (have HO := hid ho); (have HB1 := hid hb); (clear ho hb))
        | fail)
      go_ret2
      exact ⟨_, ret_sbP HB.out.symm, by rw [HR.out]; exact HO.out, HB1.out⟩
theorem impl_PairCycle_any (n : Int) (w : World) (_hn : (Lit.int .i64 n).wf = true) :
    Calls Try.prog 37 #[.int .i64 n] w fun e w' => ∃ u, e = .returned (.tuple #[u, .bool (pcB n)]) ∧ Own w' w.heap.size u (pcR n) ∧ Below w.heap.size w w' := by
  cases hn : inB n 2 11 with
  | false =>
    have HB := hid (pcB_l hn)
    have HR := hid (pcR_no HB.out)
    have HN := hid hn
    clear hn
    go_enter Try.func37, Try.ntmps37
    go_wp2_with (first
      | (go_at_call 88; (refine (isPairSize_any _ _).mono ?_); (rintro e w' ⟨rfl, rfl⟩); (rw [HN.out]))
      | fail)
    go_ret2
    exact ⟨_, ret_sbP HB.out.symm, by rw [HR.out]; exact Own.nil _ _, Below.refl _ _⟩
  | true =>
    have h0 := inB_iff.1 hn
    obtain ⟨m, rfl⟩ : ∃ m : Nat, n = (m : Int) := ⟨n.toNat, by omega⟩
    have HN := hid hn
    have HBE := hid (pcB_r hn)
    have HNW := hid _hn
    clear hn
    cases he : ((m : Int) % 2 == 0) with
    | true =>
      have HB := hid (show pcB (m : Int) = false by rw [HBE.out, he]; rfl)
      have HR := hid (pcR_no HB.out)
      go_enter Try.func37, Try.ntmps37
      go_wp2_with (first
        | (go_at_call 88; (refine (isPairSize_any _ _).mono ?_); (rintro e w' ⟨rfl, rfl⟩); (rw [HN.out]))
        | fail)
      go_ret2
      exact ⟨_, ret_sbP HB.out.symm, by rw [HR.out]; exact Own.nil _ _, Below.refl _ _⟩
    | false =>
      have HB := hid (show pcB (m : Int) = true by rw [HBE.out, he]; rfl)
      have HR := hid (pcR_yes HB.out)
      obtain ⟨N, hN⟩ : ∃ N, N = m * (m - 1) / 2 := ⟨_, rfl⟩
      have HNN := hid hN
      have hct := (chooseZ_two m (by omega) (by omega)).2
      rw [← hN] at hct
      have ht := pc_tab HB.out
      have hN2 : 2 ≤ N := by
        have : 3 * 2 ≤ m * (m - 1) := Nat.mul_le_mul ht.2.2.1 (by have := ht.2.2.1; omega)
        omega
      have hsrc := pc_src HB.out hN hN2
      have hlw := fun (w1 : World) (g b0 : Nat) (hl1 : SitsL w1 (.slice (some ⟨g, 0, none⟩) N N) (winL (upTo N) 2)) (hc1 : w1.cell? ⟨b0, 0, none⟩ = some (.int .i64 (m : Int))) (hs1 : b0 < w1.heap.size) => least_P (rkP m) (okP m) g N m (winL (upTo N) 2) ⟨b0, 0, none⟩ w1 (by rw [winL_len, upTo_length]) hl1 (by omega) (by omega) (win_placed (by omega) (by omega) (by omega)) (fun l => rkP_wf HN.out l)
        (fun W x B ys hys ho hb => by
          obtain ⟨l, hl, ws, hws, e⟩ := hys
          exact pair_clo (ws := ws) (w1 := w1) (fun z hz => WalkArith.wf_i64 (by have := hws z hz; omega)) HNW.out hc1 hs1 W x B ys ⟨l, hl, e⟩ ho hb)
      rw [hsrc] at hlw
      have HLW := hid hlw
      clear hsrc hlw hN hct ht hN2
      go_enter Try.func37, Try.ntmps37
      go_wp2_with (first
        | (go_at_call 88; (refine (isPairSize_any _ _).mono ?_); (rintro e w' ⟨rfl, rfl⟩); (rw [HN.out]))
        | (go_at_call 93; (refine (HLW.out w1 g w.heap.size HL1.out HC1.out HS1.out).mono ?_); (rintro e w2 ⟨u, rfl, ho2, hb2⟩); (have HO2 := hid ho2); (have HB2 := hid (Below_chain HB1.out hb2)); (clear ho2 hb2))
        | (go_at_call 90; (refine (pairsOf_any m N _ HN.out HNN.out).mono ?_); (rintro e w1 ⟨g, rfl, hl1, hc1, hs1, hb1⟩); (have HL1 := hid hl1); (have HC1 := hid hc1); (have HS1 := hid hs1); (have HB1 := hid hb1); (clear hl1 hc1 hs1 hb1))
        | fail)
      go_ret2
      exact ⟨_, ret_sbP HB.out.symm, by rw [HR.out]; exact HO2.out.mono HB1.out.size, HB2.out⟩
end Go.Proofs.Yteimfdpkodcfbaa
