/- Contracts of IsCycle, WindowAt and PlacesOf and of their models, as the laws call them. Conditions: slices that are not nil and read as lists of at most 2^20 numbers. -/
import Derived.Test.YtaajfpjekfmddaaBr2
namespace Go.Proofs.Ytaajfpjekfmddaa
open Go.RowKit
set_option linter.unusedVariables false
set_option maxRecDepth 4000

theorem law_spec_IsCycle (v : Value) (xs : List Int) (k : Int) (w : World) (h : Sits w v xs) (hl : xs.length ≤ 1048576) (_hwf : ∀ x ∈ xs, (Lit.int .i64 x).wf = true) (_wk : (Lit.int .i64 k).wf = true) :
    Calls Try.prog 28 #[v, .int .i64 k] w fun e w' => e = .returned (.bool (cycB xs k)) ∧ Below w.heap.size w w' :=
  (spec_IsCycle_any v xs k w h).mono fun e w' hh => ⟨hh.1, by rw [← hh.2]; exact Below.refl _ _⟩
theorem law_impl_IsCycle (v : Value) (xs : List Int) (k : Int) (w : World) (h : Sits w v xs) (hl : xs.length ≤ 1048576) (_hwf : ∀ x ∈ xs, (Lit.int .i64 x).wf = true) (_wk : (Lit.int .i64 k).wf = true) :
    Calls Try.prog 29 #[v, .int .i64 k] w fun e w' => e = .returned (.bool (cycB xs k)) ∧ Below w.heap.size w w' :=
  (impl_IsCycle_any v xs k w h.reads).mono fun e w' hh => ⟨hh.1, by rw [← hh.2]; exact Below.refl _ _⟩
theorem brWindow_any (v : Value) (xs : List Int) (n p : Nat) (w : World) (h : Sits w v xs) (hp : p ≤ 1048576) (hn : n ≤ 1048576) (h1 : 1 ≤ xs.length) (hl : xs.length ≤ 1048576) :
    Calls Try.prog 59 #[v, .int .i64 (n : Int), .int .i64 (p : Int)] w fun e w' => ∃ u, e = .returned u ∧ Own w' w.heap.size u (arL xs p n) ∧ Below w.heap.size w w' := by
  obtain ⟨b, off, c, rfl, hc1, hm, hb, hc⟩ := h
  obtain ⟨i0, hi, hz0, hz1, hz2⟩ := info_parts Try.info3
  have HC := hid hc
  clear hc
  go_enter Try.func59, Try.ntmps59
  go_wp2_with fail
  go_loopw [7, 8] (fun vp i wr => ∃ j : Nat, i = .int .i64 (j : Int) ∧ j ≤ n ∧ Own wr w.heap.size vp (arL xs p j) ∧ Below w.heap.size w wr) (fun _ i _ => n - (intOf i).toNat)
  case atStart => exact ⟨0, rfl, Nat.zero_le _, Own.nil _ _, Below.refl _ _⟩
  case round =>
    obtain ⟨j, rfl, hj, hown, hbel⟩ := hrel
    have HO := hid hown
    have HB := hid hbel
    by_cases hlt : j < n
    · obtain ⟨q, hq⟩ : ∃ q, q = (p + j) % xs.length := ⟨_, rfl⟩
      have hq1 : q < xs.length := by rw [hq]; exact Nat.mod_lt _ (by omega)
      obtain ⟨x, hx⟩ : ∃ x, x = xs[q] := ⟨_, rfl⟩
      have hcx : wr.cell? ⟨b, off + q, none⟩ = some (.int .i64 x) := by rw [hx]; exact (hbel.cell (by exact hb)).trans (HC.out q hq1)
      have u1 : ((p : Int) + (j : Int)) % (xs.length : Int) = (q : Int) := by rw [hq]; simp
      have u2 : ((p : Int) + (j : Int)).tmod (xs.length : Int) = (q : Int) := by rw [Int.tmod_eq_emod_of_nonneg (by omega)]; exact u1
      have u3 : ((xs.length : Int) == 0) = false := beq_eq_false_iff_ne.2 (by omega)
      have u4 : (0 : Int) ≤ (q : Int) := by omega
      have u5 : (q : Int) < (xs.length : Int) := by omega
      have u6 : IntKind.i64.wrap (q : Int) = (q : Int) := IntWalk.i64_in _ (by omega)
      have HD := hid (show arL xs p (j + 1) = arL xs p j ++ [x] by rw [arL_succ, ← hq, getD_at hq1, hx])
      obtain ⟨ao, cc, rfl, hcc, _⟩ := hown.view3
      have HLN := hid (arL_len xs p j)
      rw [HLN.out] at HO ⊢
      have hjb : j ≤ 1048576 := by omega
      clear hown hbel hq hx
      go_wp2_with (first
        | (at_builtin; (refine wpList_push _ rfl _ _ 22 rfl w.heap.size i0 Try.underlying22 hi hz0 hz1 hz2 ao j cc (arL xs p j) rfl HO.out x wr.heap.size rfl rfl hjb HB.out.size ?_); (intro g5 c5 w5 hp5); (have HO5 := hid (show Own w5 w.heap.size (.slice (some ⟨g5, 0, none⟩) (j + 1) c5) (arL xs p (j + 1)) by rw [HD.out]; exact hp5.own)); (have HB5 := hid (hp5.below w rfl HB.out)); (clear hp5))
        | fail)
      go_roundw
      case rel => exact ⟨j + 1, by go_num, by omega, HO5.out, HB5.out⟩
      case measure => simp [intOf]; omega
    · obtain rfl : j = n := by omega
      clear hown hbel
      go_wp2_with fail
      go_ret
      exact ⟨_, rfl, HO.out, HB.out⟩
/-- there is a window of the length n at the place p -/
def wnB (xs : List Int) (n p : Int) : Bool := cycB xs 6 && (inB n 1 1024 && inB p 0 ((xs.length : Int) - 1))
theorem wnB_0 {xs : List Int} {n p : Int} (h : cycB xs 6 = false) : wnB xs n p = false := by unfold wnB; rw [h]; rfl
theorem wnB_1 {xs : List Int} {n p : Int} (h : inB n 1 1024 = false) : wnB xs n p = false := by unfold wnB; rw [h, Bool.false_and, Bool.and_false]
theorem wnB_2 {xs : List Int} {n p : Int} (h : inB p 0 ((xs.length : Int) - 1) = false) : wnB xs n p = false := by unfold wnB; rw [h, Bool.and_false, Bool.and_false]
theorem wnB_3 {xs : List Int} {n p : Int} (h : cycB xs 6 = true) (h1 : inB n 1 1024 = true) (h2 : inB p 0 ((xs.length : Int) - 1) = true) : wnB xs n p = true := by unfold wnB; rw [h, h1, h2]; rfl
def wnL (xs : List Int) (n p : Int) : List Int := atB (wnB xs n p) [] (arL xs p.toNat n.toNat)
theorem wnL_no {xs : List Int} {n p : Int} (h : wnB xs n p = false) : wnL xs n p = [] := atB_no h
theorem wnL_yes {xs : List Int} {n p : Int} (h : wnB xs n p = true) : wnL xs n p = arL xs p.toNat n.toNat := atB_yes h
theorem bound_WindowAt (xs : List Int) (n p : Int) : (wnL xs n p).length ≤ 1048576 := by
  cases h : wnB xs n p with
  | false => rw [wnL_no h]; simp
  | true =>
    rw [wnL_yes h, arL_len]
    unfold wnB at h
    simp only [Bool.and_eq_true, inB_iff] at h
    omega
theorem law_spec_WindowAt (v : Value) (xs : List Int) (n p : Int) (w : World) (h : Sits w v xs) (hl : xs.length ≤ 1048576) (_hwf : ∀ x ∈ xs, (Lit.int .i64 x).wf = true) (_wn : (Lit.int .i64 n).wf = true) (_wp : (Lit.int .i64 p).wf = true) :
    Calls Try.prog 30 #[v, .int .i64 n, .int .i64 p] w fun e w' => ∃ u, e = .returned (.tuple #[u, .bool (wnB xs n p)]) ∧ Own w' w.heap.size u (wnL xs n p) ∧ Below w.heap.size w w' := by
  have HS := hid h
  obtain ⟨b, off, c, rfl, hc1, hm, hb, hc⟩ := h
  clear hc
  cases h1 : cycB xs 6 with
  | false =>
    have HF := hid (wnB_0 (n := n) (p := p) h1)
    go_enter Try.func30, Try.ntmps30
    go_wp2_with (first | (go_at_call 56; (refine (brCycle_any _ xs _ _ HS.out).mono ?_); (rintro e w1 ⟨rfl, rfl⟩); (rw [h1])) | fail)
    go_ret2
    exact ⟨_, ret_sb7 HF.out.symm, by rw [wnL_no HF.out]; exact Own.nil _ _, Below.refl _ _⟩
  | true =>
    have hlen := cycB_len h1
    cases h2 : inB n 1 1024 with
    | false =>
      have HF := hid (wnB_1 (xs := xs) (p := p) h2)
      go_enter Try.func30, Try.ntmps30
      go_wp2_with (first
        | (go_at_call 56; (refine (brCycle_any _ xs _ _ HS.out).mono ?_); (rintro e w1 ⟨rfl, rfl⟩); (rw [h1]))
        | (go_at_call 58; (refine (l1In_any _ _ _ _).mono ?_); (rintro e w1 ⟨rfl, rfl⟩); (rw [h2]))
        | fail)
      go_ret2
      exact ⟨_, ret_sb7 HF.out.symm, by rw [wnL_no HF.out]; exact Own.nil _ _, Below.refl _ _⟩
    | true =>
      cases h3 : inB p 0 ((xs.length : Int) - 1) with
      | false =>
        have HF := hid (wnB_2 (n := n) h3)
        go_enter Try.func30, Try.ntmps30
        go_wp2_with (first
          | (go_at_call 56; (refine (brCycle_any _ xs _ _ HS.out).mono ?_); (rintro e w1 ⟨rfl, rfl⟩); (rw [h1]))
          | (go_at_call 58; (have HX := HF1); (refine (l1In_any _ _ _ _).mono ?_); (rintro e w1 ⟨rfl, rfl⟩); (rw [h3]))
          | (go_at_call 58; (refine (l1In_any _ _ _ _).mono ?_); (rintro e w1 ⟨rfl, rfl⟩); (rw [h2]); (have HF1 := hid trivial))
          | fail)
        go_ret2
        exact ⟨_, ret_sb7 HF.out.symm, by rw [wnL_no HF.out]; exact Own.nil _ _, Below.refl _ _⟩
      | true =>
        have HF := hid (wnB_3 h1 h2 h3)
        have hn := inB_iff.1 h2
        have hp := inB_iff.1 h3
        obtain ⟨a, rfl⟩ : ∃ a : Nat, n = (a : Int) := ⟨n.toNat, by omega⟩
        obtain ⟨q, rfl⟩ : ∃ q : Nat, p = (q : Int) := ⟨p.toNat, by omega⟩
        have HL := hid (wnL_yes HF.out)
        rw [Int.toNat_natCast, Int.toNat_natCast] at HL
        have hq1 : q ≤ 1048576 := by omega
        have ha1 : a ≤ 1048576 := by omega
        go_enter Try.func30, Try.ntmps30
        go_wp2_with (first
          | (go_at_call 56; (refine (brCycle_any _ xs _ _ HS.out).mono ?_); (rintro e w1 ⟨rfl, rfl⟩); (rw [h1]))
          | (go_at_call 58; (have HX := HF1); (refine (l1In_any _ _ _ _).mono ?_); (rintro e w1 ⟨rfl, rfl⟩); (rw [h3]))
          | (go_at_call 58; (refine (l1In_any _ _ _ _).mono ?_); (rintro e w1 ⟨rfl, rfl⟩); (rw [h2]); (have HF1 := hid trivial))
          | (go_at_call 59; (refine (brWindow_any _ xs a q _ HS.out hq1 ha1 hlen.1 hl).mono ?_); (rintro e w1 ⟨u, rfl, ho, hb1⟩); (have HO := hid ho); (have HB := hid hb1); (clear ho hb1))
          | fail)
        go_ret2
        exact ⟨_, ret_sb7 HF.out.symm, by rw [HL.out]; exact HO.out, HB.out⟩
theorem law_impl_WindowAt (v : Value) (xs : List Int) (n p : Int) (w : World) (h : Sits w v xs) (hl : xs.length ≤ 1048576) (_hwf : ∀ x ∈ xs, (Lit.int .i64 x).wf = true) (_wn : (Lit.int .i64 n).wf = true) (_wp : (Lit.int .i64 p).wf = true) :
    Calls Try.prog 31 #[v, .int .i64 n, .int .i64 p] w fun e w' => ∃ u, e = .returned (.tuple #[u, .bool (wnB xs n p)]) ∧ Own w' w.heap.size u (wnL xs n p) ∧ Below w.heap.size w w' := by
  have HS := hid h
  obtain ⟨b, off, c, rfl, hc1, hm, hb, hc⟩ := h
  clear hc
  cases h1 : cycB xs 6 with
  | false =>
    have HF := hid (wnB_0 (n := n) (p := p) h1)
    go_enter Try.func31, Try.ntmps31
    go_wp2_with (first | (go_at_call 60; (refine (isAnyCycle_any _ xs _ HS.out.reads).mono ?_); (rintro e w1 ⟨rfl, rfl⟩); (rw [h1])) | fail)
    go_ret2
    exact ⟨_, ret_sb7 HF.out.symm, by rw [wnL_no HF.out]; exact Own.nil _ _, Below.refl _ _⟩
  | true =>
    have hlen := cycB_len h1
    by_cases h2 : n < 1
    · have HF := hid (wnB_1 (xs := xs) (p := p) (show inB n 1 1024 = false by simp [inB]; omega))
      go_enter Try.func31, Try.ntmps31
      go_wp2_with (first | (go_at_call 60; (refine (isAnyCycle_any _ xs _ HS.out.reads).mono ?_); (rintro e w1 ⟨rfl, rfl⟩); (rw [h1])) | fail)
      go_ret2
      exact ⟨_, ret_sb7 HF.out.symm, by rw [wnL_no HF.out]; exact Own.nil _ _, Below.refl _ _⟩
    · by_cases h3 : 1024 < n
      · have HF := hid (wnB_1 (xs := xs) (p := p) (show inB n 1 1024 = false by simp [inB]; omega))
        go_enter Try.func31, Try.ntmps31
        go_wp2_with (first | (go_at_call 60; (refine (isAnyCycle_any _ xs _ HS.out.reads).mono ?_); (rintro e w1 ⟨rfl, rfl⟩); (rw [h1])) | fail)
        go_ret2
        exact ⟨_, ret_sb7 HF.out.symm, by rw [wnL_no HF.out]; exact Own.nil _ _, Below.refl _ _⟩
      · by_cases h4 : p < 0
        · have HF := hid (wnB_2 (n := n) (show inB p 0 ((xs.length : Int) - 1) = false by simp [inB]; omega))
          go_enter Try.func31, Try.ntmps31
          go_wp2_with (first | (go_at_call 60; (refine (isAnyCycle_any _ xs _ HS.out.reads).mono ?_); (rintro e w1 ⟨rfl, rfl⟩); (rw [h1])) | fail)
          go_ret2
          exact ⟨_, ret_sb7 HF.out.symm, by rw [wnL_no HF.out]; exact Own.nil _ _, Below.refl _ _⟩
        · by_cases h5 : (xs.length : Int) ≤ p
          · have HF := hid (wnB_2 (n := n) (show inB p 0 ((xs.length : Int) - 1) = false by simp [inB]; omega))
            go_enter Try.func31, Try.ntmps31
            go_wp2_with (first | (go_at_call 60; (refine (isAnyCycle_any _ xs _ HS.out.reads).mono ?_); (rintro e w1 ⟨rfl, rfl⟩); (rw [h1])) | fail)
            go_ret2
            exact ⟨_, ret_sb7 HF.out.symm, by rw [wnL_no HF.out]; exact Own.nil _ _, Below.refl _ _⟩
          · have HF := hid (wnB_3 h1 (show inB n 1 1024 = true from inB_iff.2 (by omega)) (show inB p 0 ((xs.length : Int) - 1) = true from inB_iff.2 (by omega)))
            obtain ⟨a, rfl⟩ : ∃ a : Nat, n = (a : Int) := ⟨n.toNat, by omega⟩
            obtain ⟨q, rfl⟩ : ∃ q : Nat, p = (q : Int) := ⟨p.toNat, by omega⟩
            have HL := hid (wnL_yes HF.out)
            rw [Int.toNat_natCast, Int.toNat_natCast] at HL
            have hq1 : q ≤ 1048576 := by omega
            have ha1 : a ≤ 1048576 := by omega
            go_enter Try.func31, Try.ntmps31
            go_wp2_with (first
              | (go_at_call 60; (refine (isAnyCycle_any _ xs _ HS.out.reads).mono ?_); (rintro e w1 ⟨rfl, rfl⟩); (rw [h1]))
              | (go_at_call 52; (refine (around_any _ xs q a _ HS.out hq1 ha1 hlen.1 hl).mono ?_); (rintro e w1 ⟨rfl, ho, hb1⟩); (have HO := hid ho); (have HB := hid hb1); (clear ho hb1))
              | fail)
            go_ret2
            exact ⟨_, ret_sb7 HF.out.symm, by rw [HL.out]; exact HO.out, HB.out⟩
/-- there are places to be told -/
def plB (xs ys : List Int) : Bool := cycB xs 6 && cycB ys 6
def plL (xs ys : List Int) : List Int := atB (plB xs ys) [] (nearL xs ys 0)
theorem plB_0 {xs ys : List Int} (h : cycB xs 6 = false) : plB xs ys = false := by unfold plB; rw [h]; rfl
theorem plB_1 {xs ys : List Int} (h : cycB xs 6 = true) : plB xs ys = cycB ys 6 := by unfold plB; rw [h]; rfl
theorem plL_no {xs ys : List Int} (h : plB xs ys = false) : plL xs ys = [] := atB_no h
theorem plL_yes {xs ys : List Int} (h : plB xs ys = true) : plL xs ys = nearL xs ys 0 := atB_yes h
theorem bound_PlacesOf (xs ys : List Int) : (plL xs ys).length ≤ 1048576 := by
  cases h : plB xs ys with
  | false => rw [plL_no h]; simp
  | true =>
    rw [plL_yes h]
    have h1 := nearT_len xs ys 0 xs.length
    unfold plB at h
    simp only [Bool.and_eq_true] at h
    have := cycB_len h.1
    unfold nearL
    omega
theorem law_spec_PlacesOf (v : Value) (xs : List Int) (u : Value) (ys : List Int) (w : World) (h : Sits w v xs) (hl : xs.length ≤ 1048576) (_hwf : ∀ x ∈ xs, (Lit.int .i64 x).wf = true) (h' : Sits w u ys) (hl' : ys.length ≤ 1048576) (_hwf' : ∀ x ∈ ys, (Lit.int .i64 x).wf = true) :
    Calls Try.prog 32 #[v, u] w fun e w' => ∃ r, e = .returned (.tuple #[r, .bool (plB xs ys)]) ∧ OwnE w' w.heap.size r (plL xs ys) ∧ Below w.heap.size w w' := by
  have HS := hid h
  have HS' := hid h'
  obtain ⟨b, off, c, rfl, hc1, hm, hb, hc⟩ := h
  obtain ⟨b', off', c', rfl, hc1', hm', hb', hc'⟩ := h'
  clear hc hc'
  obtain ⟨i0, hi, hz0, hz1, hz2⟩ := info_parts Try.info3
  cases h1 : cycB xs 6 with
  | false =>
    have HF := hid (plB_0 (ys := ys) h1)
    go_enter Try.func32, Try.ntmps32
    go_wp2_with (first | (go_at_call 56; (refine (brCycle_any _ xs _ _ HS.out).mono ?_); (rintro e w1 ⟨rfl, rfl⟩); (rw [h1])) | fail)
    go_ret2
    exact ⟨_, ret_sb7 HF.out.symm, by rw [plL_no HF.out]; exact (Own.nil _ _).e, Below.refl _ _⟩
  | true =>
    have hlen := cycB_len h1
    cases h2 : cycB ys 6 with
    | false =>
      have HF := hid ((plB_1 (ys := ys) h1).trans h2)
      go_enter Try.func32, Try.ntmps32
      go_wp2_with (first
        | (go_at_call 56; (have HX := HF1); (refine (brCycle_any _ ys _ _ HS'.out).mono ?_); (rintro e w1 ⟨rfl, rfl⟩); (rw [h2]))
        | (go_at_call 56; (refine (brCycle_any _ xs _ _ HS.out).mono ?_); (rintro e w1 ⟨rfl, rfl⟩); (rw [h1]); (have HF1 := hid trivial))
        | fail)
      go_ret2
      exact ⟨_, ret_sb7 HF.out.symm, by rw [plL_no HF.out]; exact (Own.nil _ _).e, Below.refl _ _⟩
    | true =>
      have hlen2 := cycB_len h2
      have HF := hid ((plB_1 (ys := ys) h1).trans h2)
      go_enter Try.func32, Try.ntmps32
      go_wp2_with (first
        | (go_at_call 56; (have HX := HF1); (refine (brCycle_any _ ys _ _ HS'.out).mono ?_); (rintro e w1 ⟨rfl, rfl⟩); (rw [h2]))
        | (go_at_call 56; (refine (brCycle_any _ xs _ _ HS.out).mono ?_); (rintro e w1 ⟨rfl, rfl⟩); (rw [h1]); (have HF1 := hid trivial))
        | fail)
      clear HF1
      go_loopw [6, 7, 18] (fun vp _ i wr => ∃ j : Nat, i = .int .i64 (j : Int) ∧ j ≤ xs.length ∧ Own wr w.heap.size vp (nearT xs ys 0 j) ∧ Below w.heap.size w wr) (fun _ _ i _ => xs.length - (intOf i).toNat)
      case atStart => exact ⟨0, rfl, Nat.zero_le _, Own.nil _ _, Below.refl _ _⟩
      case round =>
        obtain ⟨j, rfl, hj, hown, hbel⟩ := hrel
        have HO := hid hown
        have HB := hid hbel
        have HLE := hid (nearT_len xs ys 0 j)
        by_cases hlt : j < xs.length
        · have HX := hid (HS.out.below hbel)
          have HY := hid (HS'.out.below hbel)
          obtain ⟨ao, cc, rfl, hcc, _⟩ := hown.view3
          clear hown hbel
          by_cases hle : farP xs ys j ≤ 0
          · have HN := hid (nearT_yes (xs := xs) (ys := ys) (m := 0) (k := j) hle)
            have HT := hid (stB_yes hle)
            obtain ⟨L, hL⟩ : ∃ L, L = nearT xs ys 0 j := ⟨_, rfl⟩
            rw [← hL] at HO HN HLE ⊢
            have hL2 := HLE.out
            have hL3 : L.length ≤ 1048576 := by omega
            clear hle hL
            go_wp2_with (first
              | (go_at_call 61; (refine (brStands_any _ _ xs ys j _ HX.out HY.out hlt hl hl').mono ?_); (rintro e w2 ⟨rfl, rfl⟩); (rw [HT.out]))
              | (at_builtin; (refine wpList_push _ rfl _ _ 22 rfl w.heap.size i0 Try.underlying22 hi hz0 hz1 hz2 ao L.length cc L rfl HO.out (j : Int) wr.heap.size rfl rfl hL3 HB.out.size ?_); (intro g5 c5 w5 hp5); (have HO5 := hid (show Own w5 w.heap.size (.slice (some ⟨g5, 0, none⟩) (L.length + 1) c5) (nearT xs ys 0 (j + 1)) by rw [HN.out]; exact hp5.own)); (have HB5 := hid (hp5.below w rfl HB.out)); (clear hp5))
              | fail)
            go_roundw
            case rel => exact ⟨j + 1, by go_num, by omega, HO5.out, HB5.out⟩
            case measure => simp [intOf]; omega
          · have HN := hid (nearT_no (xs := xs) (ys := ys) (m := 0) (k := j) hle)
            have HT := hid (stB_no hle)
            obtain ⟨L, hL⟩ : ∃ L, L = nearT xs ys 0 j := ⟨_, rfl⟩
            rw [← hL] at HO HN HLE ⊢
            clear hle hL
            go_wp2_with (first
              | (go_at_call 61; (refine (brStands_any _ _ xs ys j _ HX.out HY.out hlt hl hl').mono ?_); (rintro e w2 ⟨rfl, rfl⟩); (rw [HT.out]))
              | fail)
            go_roundw
            case rel => exact ⟨j + 1, by go_num, by omega, by rw [HN.out]; exact HO.out, HB.out⟩
            case measure => simp [intOf]; omega
        · obtain rfl : j = xs.length := by omega
          have HL := hid (plL_yes HF.out)
          clear hown hbel
          go_wp2_with fail
          go_ret2
          exact ⟨_, ret_sb7 HF.out.symm, by rw [HL.out]; exact HO.out.e, HB.out⟩
theorem law_impl_PlacesOf (v : Value) (xs : List Int) (u : Value) (ys : List Int) (w : World) (h : Sits w v xs) (hl : xs.length ≤ 1048576) (_hwf : ∀ x ∈ xs, (Lit.int .i64 x).wf = true) (h' : Sits w u ys) (hl' : ys.length ≤ 1048576) (_hwf' : ∀ x ∈ ys, (Lit.int .i64 x).wf = true) :
    Calls Try.prog 33 #[v, u] w fun e w' => ∃ r, e = .returned (.tuple #[r, .bool (plB xs ys)]) ∧ OwnE w' w.heap.size r (plL xs ys) ∧ Below w.heap.size w w' := by
  have HS := hid h
  have HS' := hid h'
  cases h1 : cycB xs 6 with
  | false =>
    have HF := hid (plB_0 (ys := ys) h1)
    go_enter Try.func33, Try.ntmps33
    go_wp2_with (first | (go_at_call 60; (refine (isAnyCycle_any _ xs _ HS.out.reads).mono ?_); (rintro e w1 ⟨rfl, rfl⟩); (rw [h1])) | fail)
    go_ret2
    exact ⟨_, ret_sb7 HF.out.symm, by rw [plL_no HF.out]; exact (Own.nil _ _).e, Below.refl _ _⟩
  | true =>
    have hlen := cycB_len h1
    cases h2 : cycB ys 6 with
    | false =>
      have HF := hid ((plB_1 (ys := ys) h1).trans h2)
      go_enter Try.func33, Try.ntmps33
      go_wp2_with (first
        | (go_at_call 60; (have HX := HF1); (refine (isAnyCycle_any _ ys _ HS'.out.reads).mono ?_); (rintro e w1 ⟨rfl, rfl⟩); (rw [h2]))
        | (go_at_call 60; (refine (isAnyCycle_any _ xs _ HS.out.reads).mono ?_); (rintro e w1 ⟨rfl, rfl⟩); (rw [h1]); (have HF1 := hid trivial))
        | fail)
      go_ret2
      exact ⟨_, ret_sb7 HF.out.symm, by rw [plL_no HF.out]; exact (Own.nil _ _).e, Below.refl _ _⟩
    | true =>
      have hlen2 := cycB_len h2
      have HF := hid ((plB_1 (ys := ys) h1).trans h2)
      have HL := hid (plL_yes HF.out)
      have hx2 : xs.length ≤ 2048 := by omega
      have hy2 : ys.length ≤ 2048 := by omega
      go_enter Try.func33, Try.ntmps33
      go_wp2_with (first
        | (go_at_call 60; (have HX := HF1); (refine (isAnyCycle_any _ ys _ HS'.out.reads).mono ?_); (rintro e w1 ⟨rfl, rfl⟩); (rw [h2]))
        | (go_at_call 60; (refine (isAnyCycle_any _ xs _ HS.out.reads).mono ?_); (rintro e w1 ⟨rfl, rfl⟩); (rw [h1]); (have HF1 := hid trivial))
        | (go_at_call 62; (refine (placesNear_any _ _ xs ys 0 _ HS.out HS'.out hlen.1 hx2 hy2 (by omega)).mono ?_); (rintro e w1 ⟨r, rfl, ho, hb1⟩); (have HO := hid ho); (have HB := hid hb1); (clear ho hb1))
        | fail)
      go_ret2
      exact ⟨_, ret_sb7 HF.out.symm, by rw [HL.out]; exact HO.out, HB.out⟩
end Go.Proofs.Ytaajfpjekfmddaa
