/- Contracts of MendWindow and of its model, as the law calls them. Conditions: slices that are not nil and read as lists of at most 2^20 numbers. -/
import Derived.Test.YtaajfpjekfmddabBr3
namespace Go.Proofs.Ytaajfpjekfmddab
open Go.RowKit
set_option linter.unusedVariables false
set_option maxRecDepth 4000

theorem tapB_len5 {xs : List Int} {lo : Int} (h : tapB xs lo = true) : 1 ≤ xs.length ∧ xs.length ≤ 64 := by
  unfold tapB at h
  simp only [Bool.and_eq_true] at h
  have h1 := cycB_len h.1
  have h2 := inB_iff.1 h.2
  omega
/-- there is just one place near the window -/
def mdB (xs ys : List Int) : Bool := tapB xs 1 && (cycB ys 6 && decide ((nearL xs ys 1).length = 1))
def mdP (xs ys : List Int) : Int := atB (mdB xs ys) 0 ((nearL xs ys 1).headD 0)
def mdL (xs ys : List Int) : List Int := atB (mdB xs ys) [] (arL xs ((nearL xs ys 1).headD 0).toNat ys.length)
theorem mdB_0 {xs ys : List Int} (h : tapB xs 1 = false) : mdB xs ys = false := by unfold mdB; rw [h]; rfl
theorem mdB_1 {xs ys : List Int} (h : cycB ys 6 = false) : mdB xs ys = false := by unfold mdB; rw [h, Bool.false_and, Bool.and_false]
theorem mdB_2 {xs ys : List Int} (h : ¬ (nearL xs ys 1).length = 1) : mdB xs ys = false := by unfold mdB; rw [decide_eq_false h, Bool.and_false, Bool.and_false]
theorem mdB_3 {xs ys : List Int} (h : tapB xs 1 = true) (h1 : cycB ys 6 = true) (h2 : (nearL xs ys 1).length = 1) : mdB xs ys = true := by unfold mdB; rw [h, h1, decide_eq_true h2]; rfl
theorem mdP_no {xs ys : List Int} (h : mdB xs ys = false) : mdP xs ys = 0 := atB_no h
theorem mdL_no {xs ys : List Int} (h : mdB xs ys = false) : mdL xs ys = [] := atB_no h
theorem near_one {xs ys : List Int} {p : Nat} (h : nearL xs ys 1 = [(p : Int)]) (h1 : tapB xs 1 = true) (h2 : cycB ys 6 = true) : mdB xs ys = true ∧ mdP xs ys = (p : Int) ∧ mdL xs ys = arL xs p ys.length := by
  have hb := mdB_3 h1 h2 (by rw [h]; rfl)
  refine ⟨hb, ?_, ?_⟩
  · unfold mdP; rw [atB_yes hb, h]; rfl
  · unfold mdL; rw [atB_yes hb, h]; rfl
theorem bound_MendWindow (xs ys : List Int) : (mdL xs ys).length ≤ 1048576 := by
  cases h : mdB xs ys with
  | false => rw [mdL_no h]; simp
  | true =>
    unfold mdL
    rw [atB_yes h, arL_len]
    unfold mdB at h
    simp only [Bool.and_eq_true] at h
    have := cycB_len h.2.1
    omega
theorem ret_nsb5 {a a' : Int} {u : Value} {b b' : Bool} (h : a = a') (h' : b = b') : Ending.returned (.tuple #[.int .i64 a, u, .bool b]) = .returned (.tuple #[.int .i64 a', u, .bool b']) := by rw [h, h']
theorem nearT_grow (xs ys : List Int) (m : Nat) {j k : Nat} (h : j ≤ k) : (nearT xs ys m j).length ≤ (nearT xs ys m k).length := by
  induction k with
  | zero => obtain rfl : j = 0 := by omega
            exact Nat.le_refl _
  | succ k ih =>
    by_cases e : j = k + 1
    · rw [e]; exact Nat.le_refl _
    · have := ih (by omega)
      rw [nearT, List.length_append]; omega
/-- what the model has found among the first places -/
def fndI (L : List Int) : Int := if L = [] then -1 else L.headD 0
theorem fndI_nil : fndI [] = -1 := rfl
theorem fndI_one (p : Nat) : fndI [(p : Int)] = (p : Int) := rfl
theorem ownE_len {w : World} {B : Nat} {v : Value} {L : List Int} (h : OwnE w B v L) : ∃ a cap, v = .slice a L.length cap := by
  rcases h.form with ⟨e, e2⟩ | ⟨g, cap, e, _⟩
  · exact ⟨none, 0, by rw [e, e2]; rfl⟩
  · exact ⟨_, cap, e⟩
theorem ownE_one {w : World} {B : Nat} {v : Value} {x : Int} (h : OwnE w B v [x]) : ∃ g cap, v = .slice (some ⟨g, 0, none⟩) 1 cap ∧ w.cell? ⟨g, 0, none⟩ = some (.int .i64 x) ∧ g < w.heap.size := by
  rcases h.form with ⟨e, e2⟩ | ⟨g, cap, e, _, h1, _, _, h2, _⟩
  · cases e2
  · exact ⟨g, cap, e, by simpa using h2 0 (by simp), h1⟩
theorem law_spec_MendWindow (v : Value) (xs : List Int) (u : Value) (ys : List Int) (w : World) (h : Sits w v xs) (hl : xs.length ≤ 1048576) (_hwf : ∀ x ∈ xs, (Lit.int .i64 x).wf = true) (h' : Sits w u ys) (hl' : ys.length ≤ 1048576) (_hwf' : ∀ x ∈ ys, (Lit.int .i64 x).wf = true) :
    Calls Try.prog 38 #[v, u] w fun e w' => ∃ r, e = .returned (.tuple #[.int .i64 (mdP xs ys), r, .bool (mdB xs ys)]) ∧ Own w' w.heap.size r (mdL xs ys) ∧ Below w.heap.size w w' := by
  have HS := hid h
  have HS' := hid h'
  obtain ⟨b, off, c, rfl, hc1, hm, hb, hc⟩ := h
  obtain ⟨b', off', c', rfl, hc1', hm', hb', hc'⟩ := h'
  have HC := hid hc
  have HC' := hid hc'
  clear hc hc'
  cases h1 : tapB xs 1 with
  | false =>
    have HF := hid (mdB_0 (ys := ys) h1)
    go_enter Try.func38, Try.ntmps38
    go_wp2_with (first | (go_at_call 69; (refine (brTape_any _ xs _ _ HS.out).mono ?_); (rintro e w1 ⟨rfl, rfl⟩); (rw [h1])) | fail)
    go_ret3
    exact ⟨_, ret_nsb5 (mdP_no HF.out).symm HF.out.symm, by rw [mdL_no HF.out]; exact Own.nil _ _, Below.refl _ _⟩
  | true =>
    have hlen := tapB_len5 h1
    cases h2 : cycB ys 6 with
    | false =>
      have HF := hid (mdB_1 (xs := xs) h2)
      go_enter Try.func38, Try.ntmps38
      go_wp2_with (first
        | (go_at_call 69; (refine (brTape_any _ xs _ _ HS.out).mono ?_); (rintro e w1 ⟨rfl, rfl⟩); (rw [h1]))
        | (go_at_call 55; (refine (brCycle_any _ ys _ _ HS'.out).mono ?_); (rintro e w1 ⟨rfl, rfl⟩); (rw [h2]))
        | fail)
      go_ret3
      exact ⟨_, ret_nsb5 (mdP_no HF.out).symm HF.out.symm, by rw [mdL_no HF.out]; exact Own.nil _ _, Below.refl _ _⟩
    | true =>
      have hlen2 := cycB_len h2
      go_enter Try.func38, Try.ntmps38
      go_wp2_with (first
        | (go_at_call 69; (refine (brTape_any _ xs _ _ HS.out).mono ?_); (rintro e w1 ⟨rfl, rfl⟩); (rw [h1]))
        | (go_at_call 55; (refine (brCycle_any _ ys _ _ HS'.out).mono ?_); (rintro e w1 ⟨rfl, rfl⟩); (rw [h2]))
        | fail)
      have HT1 := hid h1
      have HT2 := hid h2
      clear h1 h2
      go_loop [7, 8, 9, 10, 11, 22] (fun f _ _ _ _ i => ∃ j : Nat, j ≤ xs.length ∧ i = .int .i64 (j : Int) ∧ (nearT xs ys 1 j).length ≤ 1 ∧ f = .int .i64 (fndI (nearT xs ys 1 j))) (fun _ _ _ _ _ i => xs.length - (intOf i).toNat)
      case atStart => exact ⟨0, Nat.zero_le _, rfl, Nat.zero_le _, rfl⟩
      case round =>
        obtain ⟨j, hj, rfl, hone, rfl⟩ := hrel
        have HONE := hid hone
        by_cases hlt : j < xs.length
        · obtain ⟨fd, hfd⟩ : ∃ fd, fd = fndI (nearT xs ys 1 j) := ⟨_, rfl⟩
          rw [← hfd]
          have HFD := hid hfd.symm
          clear hfd hone
          go_wp2_with fail
          go_loop [9, 10, 11, 27] (fun q _ _ i => ∃ k : Nat, k ≤ ys.length ∧ i = .int .i64 (k : Int) ∧ q = .int .i64 (difT ys (arL xs j ys.length) k : Nat)) (fun _ _ _ i => ys.length - (intOf i).toNat)
          case atStart => exact ⟨0, Nat.zero_le _, rfl, rfl⟩
          case round =>
            obtain ⟨k, hk, rfl, rfl⟩ := hrel
            have hd := difT_le ys (arL xs j ys.length) k
            by_cases hlt2 : k < ys.length
            · have hcy := HC'.out k hlt2
              obtain ⟨q, hq⟩ : ∃ q, q = (j + k) % xs.length := ⟨_, rfl⟩
              have hq1 : q < xs.length := by rw [hq]; exact Nat.mod_lt _ (by omega)
              have hcx := HC.out q hq1
              have u1 : ((j : Int) + (k : Int)) % (xs.length : Int) = (q : Int) := by rw [hq]; simp
              have u2 : ((j : Int) + (k : Int)).tmod (xs.length : Int) = (q : Int) := by rw [Int.tmod_eq_emod_of_nonneg (by omega)]; exact u1
              have u3 : ((xs.length : Int) == 0) = false := beq_eq_false_iff_ne.2 (by omega)
              have u6 : IntKind.i64.wrap (q : Int) = (q : Int) := IntWalk.i64_in _ (by omega)
              have HA := hid (show (arL xs j ys.length).getD k 0 = xs[q] by rw [arL_at hlt2, ← hq, getD_at hq1])
              clear hq
              by_cases e : xs[q] = ys[k]
              · have HF := hid (show difT ys (arL xs j ys.length) (k + 1) = difT ys (arL xs j ys.length) k by rw [difT, HA.out, getD_at hlt2, if_pos e.symm]; rfl)
                have hb2 : (xs[q] != ys[k]) = false := by simp [e]
                go_wp2
                go_round
                case rel => exact ⟨k + 1, by omega, by go_num, by rw [HF.out]⟩
                case measure => simp [intOf]; omega
              · have HF := hid (show difT ys (arL xs j ys.length) (k + 1) = difT ys (arL xs j ys.length) k + 1 by rw [difT, HA.out, getD_at hlt2, if_neg (fun e2 => e e2.symm)])
                have hb2 : (xs[q] != ys[k]) = true := by simp [e]
                go_wp2
                go_round
                case rel => exact ⟨k + 1, by omega, by go_num, by rw [HF.out]; go_num⟩
                case measure => simp [intOf]; omega
            · obtain rfl : k = ys.length := by omega
              by_cases hle : farP xs ys j ≤ 1
              · have HN := hid (nearT_yes (xs := xs) (ys := ys) (m := 1) (k := j) hle)
                obtain ⟨D, hD⟩ : ∃ D, D = difT ys (arL xs j ys.length) ys.length := ⟨_, rfl⟩
                rw [← hD]
                have hD2 : ¬ (1 : Int) < (D : Int) := by
                  have : D = farP xs ys j := hD
                  omega
                clear hD hle hd
                by_cases hnil : nearT xs ys 1 j = []
                · have hf2 : fd = -1 := by rw [← HFD.out, hnil]; rfl
                  have HN2 := hid (show nearT xs ys 1 (j + 1) = [(j : Int)] by rw [HN.out, hnil]; rfl)
                  subst hf2
                  clear hnil
                  go_wp2_with fail
                  go_round
                  case rel => exact ⟨j + 1, by omega, by go_num, by rw [HN2.out]; simp, by rw [HN2.out]; rfl⟩
                  case measure => simp [intOf]; omega
                · have HX := hid (show mdB xs ys = false by
                    refine mdB_2 ?_
                    have h3 := nearT_grow xs ys 1 (show j + 1 ≤ xs.length by omega)
                    rw [HN.out, List.length_append] at h3
                    have h4 : (nearT xs ys 1 j).length ≠ 0 := fun e => hnil (List.eq_nil_of_length_eq_zero e)
                    unfold nearL
                    simp at h3
                    omega)
                  have hf2 : (0 : Int) ≤ fd := by
                    rw [← HFD.out]
                    unfold fndI
                    rw [if_neg hnil]
                    obtain ⟨y, L, hL⟩ : ∃ y L, nearT xs ys 1 j = y :: L := by
                      cases hh : nearT xs ys 1 j with
                      | nil => exact absurd hh hnil
                      | cons y L => exact ⟨y, L, rfl⟩
                    obtain ⟨p, hp, _⟩ := nearT_mem (x := y) (xs := xs) (ys := ys) (m := 1) (k := j) (by rw [hL]; exact List.mem_cons_self)
                    rw [hL, hp]
                    simp
                  clear hnil
                  go_wp2_with fail
                  go_ret3
                  exact ⟨_, ret_nsb5 (mdP_no HX.out).symm HX.out.symm, by rw [mdL_no HX.out]; exact Own.nil _ _, Below.refl _ _⟩
              · have HN := hid (nearT_no (xs := xs) (ys := ys) (m := 1) (k := j) hle)
                obtain ⟨D, hD⟩ : ∃ D, D = difT ys (arL xs j ys.length) ys.length := ⟨_, rfl⟩
                rw [← hD]
                have hD2 : (1 : Int) < (D : Int) := by
                  have : D = farP xs ys j := hD
                  omega
                clear hD hle hd
                go_wp2_with fail
                go_round
                case rel => exact ⟨j + 1, by omega, by go_num, by rw [HN.out]; exact HONE.out, by rw [HN.out, HFD.out]⟩
                case measure => simp [intOf]; omega
        · obtain rfl : j = xs.length := by omega
          by_cases hnil : nearT xs ys 1 xs.length = []
          · have HX := hid (show mdB xs ys = false by refine mdB_2 ?_; unfold nearL; rw [hnil]; simp)
            rw [hnil, fndI_nil]
            clear hnil hone
            go_wp2_with fail
            go_ret3
            exact ⟨_, ret_nsb5 (mdP_no HX.out).symm HX.out.symm, by rw [mdL_no HX.out]; exact Own.nil _ _, Below.refl _ _⟩
          · obtain ⟨p, hp, hp2⟩ : ∃ p : Nat, nearT xs ys 1 xs.length = [(p : Int)] ∧ p < xs.length := by
              cases hh : nearT xs ys 1 xs.length with
              | nil => exact absurd hh hnil
              | cons y L =>
                rw [hh] at hone
                have hL : L = [] := by simpa using hone
                subst hL
                obtain ⟨p, hp, hp2, _⟩ := nearT_mem (x := y) (xs := xs) (ys := ys) (m := 1) (k := xs.length) (by rw [hh]; exact List.mem_cons_self)
                exact ⟨p, by rw [hp], hp2⟩
            obtain ⟨m1, m2, m3⟩ := near_one (xs := xs) (ys := ys) (p := p) hp HT1.out HT2.out
            have HM1 := hid m1
            have HM2 := hid m2
            have HM3 := hid m3
            rw [hp, fndI_one]
            have hp3 : (0 : Int) ≤ (p : Int) := by omega
            have hpm : p ≤ 1048576 := by omega
            clear hnil hone hp m1 m2 m3
            go_wp2_with (first
              | (go_at_call 74; (refine (brWindow_any _ xs ys.length p _ HS.out hpm hl' hlen.1 hl).mono ?_); (rintro e w1 ⟨u, rfl, ho, hb1⟩); (have HO := hid ho); (have HB := hid hb1); (clear ho hb1))
              | fail)
            go_ret3
            exact ⟨_, ret_nsb5 HM2.out.symm HM1.out.symm, by rw [HM3.out]; exact HO.out, HB.out⟩
theorem law_impl_MendWindow (v : Value) (xs : List Int) (u : Value) (ys : List Int) (w : World) (h : Sits w v xs) (hl : xs.length ≤ 1048576) (_hwf : ∀ x ∈ xs, (Lit.int .i64 x).wf = true) (h' : Sits w u ys) (hl' : ys.length ≤ 1048576) (_hwf' : ∀ x ∈ ys, (Lit.int .i64 x).wf = true) :
    Calls Try.prog 39 #[v, u] w fun e w' => ∃ r, e = .returned (.tuple #[.int .i64 (mdP xs ys), r, .bool (mdB xs ys)]) ∧ Own w' w.heap.size r (mdL xs ys) ∧ Below w.heap.size w w' := by
  have HS := hid h
  have HS' := hid h'
  obtain ⟨b, off, c, rfl, hc1, hm, hb, hc⟩ := h
  obtain ⟨b', off', c', rfl, hc1', hm', hb', hc'⟩ := h'
  clear hc hc'
  cases h1 : tapB xs 1 with
  | false =>
    have HF := hid (mdB_0 (ys := ys) h1)
    go_enter Try.func39, Try.ntmps39
    go_wp2_with (first | (go_at_call 75; (refine (isTape_any _ xs _ HS.out.reads).mono ?_); (rintro e w1 ⟨rfl, rfl⟩); (rw [h1])) | fail)
    go_ret3
    exact ⟨_, ret_nsb5 (mdP_no HF.out).symm HF.out.symm, by rw [mdL_no HF.out]; exact Own.nil _ _, Below.refl _ _⟩
  | true =>
    have hlen := tapB_len5 h1
    cases h2 : cycB ys 6 with
    | false =>
      have HF := hid (mdB_1 (xs := xs) h2)
      go_enter Try.func39, Try.ntmps39
      go_wp2_with (first
        | (go_at_call 75; (refine (isTape_any _ xs _ HS.out.reads).mono ?_); (rintro e w1 ⟨rfl, rfl⟩); (rw [h1]))
        | (go_at_call 76; (refine (isAnyCycle_any _ ys _ HS'.out.reads).mono ?_); (rintro e w1 ⟨rfl, rfl⟩); (rw [h2]))
        | fail)
      go_ret3
      exact ⟨_, ret_nsb5 (mdP_no HF.out).symm HF.out.symm, by rw [mdL_no HF.out]; exact Own.nil _ _, Below.refl _ _⟩
    | true =>
      have hlen2 := cycB_len h2
      have hx2 : xs.length ≤ 2048 := by omega
      have hy2 : ys.length ≤ 2048 := by omega
      have hNE := hid (nearT_len xs ys 1 xs.length)
      by_cases h3 : (nearL xs ys 1).length = 1
      · obtain ⟨p, hp, hp2⟩ : ∃ p : Nat, nearL xs ys 1 = [(p : Int)] ∧ p < xs.length := by
          cases hh : nearL xs ys 1 with
          | nil => rw [hh] at h3; simp at h3
          | cons y L =>
            rw [hh] at h3
            have hL : L = [] := by simpa using h3
            subst hL
            obtain ⟨p, hp, hp2, _⟩ := nearT_mem (x := y) (xs := xs) (ys := ys) (m := 1) (k := xs.length) (by unfold nearL at hh; rw [hh]; exact List.mem_cons_self)
            exact ⟨p, by rw [hp], hp2⟩
        obtain ⟨m1, m2, m3⟩ := near_one (xs := xs) (ys := ys) (p := p) hp h1 h2
        have HM1 := hid m1
        have HM2 := hid m2
        have HM3 := hid m3
        have HP := hid hp
        have hpm : p ≤ 1048576 := by omega
        clear m1 m2 m3 hp h3
        go_enter Try.func39, Try.ntmps39
        go_wp2_with (first
          | (go_at_call 75; (refine (isTape_any _ xs _ HS.out.reads).mono ?_); (rintro e w1 ⟨rfl, rfl⟩); (rw [h1]))
          | (go_at_call 76; (refine (isAnyCycle_any _ ys _ HS'.out.reads).mono ?_); (rintro e w1 ⟨rfl, rfl⟩); (rw [h2]))
          | (go_at_call 77; (refine (placesNear_any _ _ xs ys 1 _ HS.out HS'.out hlen.1 hx2 hy2 (by omega)).mono ?_); (rintro e w1 ⟨r, rfl, ho, hb1⟩); (rw [HP.out] at ho); (obtain ⟨g, cap, rfl, hcg, hlt⟩ := ownE_one ho); (have HB := hid hb1); (have HSX := hid (HS.out.below (hb1.drew))); (clear ho hb1))
          | fail)
        have hcg' : w1.drew.cell? ⟨g, 0, none⟩ = some (.int .i64 (p : Int)) := hcg
        go_region_held3 (fun w' => w'.cell? ⟨g, 0, none⟩ = some (.int .i64 (p : Int)))
          (first | exact hcg' | exact (HB2.out.cell (by exact hlt)).trans hcg' | go_keep | fail)
          (first
            | (go_at_call 78; (refine (around_any _ xs p ys.length _ HSX.out hpm hl' hlen.1 hl).mono ?_); (rintro e w2 ⟨rfl, ho2, hb2⟩); (have HO := hid ho2); (have HB2 := hid hb2); (clear ho2 hb2))
            | fail)
        all_goals
          go_wp2_with fail
          go_ret3
          exact ⟨_, ret_nsb5 HM2.out.symm HM1.out.symm, by rw [HM3.out]; exact HO.out.mono HB.out.drew.size, Below_chain HB.out.drew HB2.out⟩
      · have HF := hid (mdB_2 h3)
        have hbb : (((nearL xs ys 1).length : Int) != 1) = true := by simp; omega
        obtain ⟨L, hL⟩ : ∃ L, L = nearL xs ys 1 := ⟨_, rfl⟩
        have HL := hid hL.symm
        rw [← hL] at hbb
        clear h3 hL
        go_enter Try.func39, Try.ntmps39
        go_wp2_with (first
          | (go_at_call 75; (refine (isTape_any _ xs _ HS.out.reads).mono ?_); (rintro e w1 ⟨rfl, rfl⟩); (rw [h1]))
          | (go_at_call 76; (refine (isAnyCycle_any _ ys _ HS'.out.reads).mono ?_); (rintro e w1 ⟨rfl, rfl⟩); (rw [h2]))
          | (go_at_call 77; (refine (placesNear_any _ _ xs ys 1 _ HS.out HS'.out hlen.1 hx2 hy2 (by omega)).mono ?_); (rintro e w1 ⟨r, rfl, ho, hb1⟩); (rw [HL.out] at ho); (obtain ⟨ag, cap, rfl⟩ := ownE_len ho); (have HB := hid hb1); (clear ho hb1))
          | fail)
        go_ret3
        exact ⟨_, ret_nsb5 (mdP_no HF.out).symm HF.out.symm, by rw [mdL_no HF.out]; exact Own.nil _ _, HB.out⟩
end Go.Proofs.Ytaajfpjekfmddab
