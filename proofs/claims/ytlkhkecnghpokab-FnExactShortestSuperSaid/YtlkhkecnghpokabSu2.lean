/- Contracts: suFirsts; both RanksIn functions. Conditions: slices that are not nil and read as lists. -/
import Derived.Test.YtlkhkecnghpokabSu1
namespace Go.Proofs.Ytlkhkecnghpokab
open Go.RowKit
set_option linter.unusedVariables false
set_option maxRecDepth 4000

theorem Sits_row {w : World} {b off n c : Nat} {xs : List Int} (k m : Nat) (h : Sits w (.slice (some ⟨b, off, none⟩) n c) xs) (hk : k + m ≤ xs.length) : Sits w (.slice (some ⟨b, off + k, none⟩) m (c - k)) (rowD m xs k) := by
  obtain ⟨b', off', c', e, hc1, hm, hb, hc⟩ := h
  simp only [Value.slice.injEq, Option.some.injEq, Addr.mk.injEq, and_true] at e
  obtain ⟨⟨rfl, rfl⟩, -, rfl⟩ := e
  obtain ⟨b2, off2, c2, e, h1, h2, h3, h4⟩ := Sits_drop (w := w) (off := off) k (by omega) hc1 hm hb hc
  simp only [Value.slice.injEq, Option.some.injEq, Addr.mk.injEq, and_true] at e
  obtain ⟨⟨rfl, rfl⟩, -, rfl⟩ := e
  exact Sits_take m (by rw [List.length_drop]; omega) h1 h2 h3 h4
theorem ret_sn {u : Value} {n n' : Int} (h : n = n') : Ending.returned (.tuple #[u, .int .i64 n]) = .returned (.tuple #[u, .int .i64 n']) := by rw [h]
theorem suOk_l {n : Int} {xs : List Int} (h : suNB n = false) : suOk n xs = false := by unfold suOk; rw [h]; rfl
theorem suOk_r {n : Int} {xs : List Int} (h : suNB n = true) : suOk n xs = suWB xs := by unfold suOk; rw [h]; rfl
theorem rowD_mem {m : Nat} {xs : List Int} {k : Nat} {x : Int} (h : x ∈ rowD m xs k) : x ∈ xs := List.mem_of_mem_drop (List.mem_of_mem_take h)
theorem wnN_nat (m : Nat) (xs : List Int) : wnN (m : Int) xs = xs.length + 1 - m := by unfold wnN; rw [Int.toNat_natCast]
theorem suFirsts_any (m : Nat) (v : Value) (xs : List Int) (w : World) (h : Sits w v xs) (h1 : 1 ≤ m) (h5 : m ≤ 5) (hl : xs.length ≤ 200) :
    Calls Try.prog 49 #[.int .i64 (m : Int), v] w fun e w' => ∃ u, e = .returned (.tuple #[u, .int .i64 (((wnN m xs : Nat) : Int) - ((firL m xs (wnN m xs)).length : Nat))]) ∧ Own w' w.heap.size u (firL m xs (wnN m xs)) ∧ Below w.heap.size w w' := by
  have HS := hid h
  obtain ⟨b, off, c, rfl, hc1, hm, hb, hc⟩ := h
  clear hc
  obtain ⟨i0, hi, hz0, hz1, hz2⟩ := info_parts Try.info3
  rw [wnN_nat]
  go_enter Try.func49, Try.ntmps49
  go_wp2_with fail
  go_loopw [6, 7, 8] (fun vp s i wr => ∃ k e : Nat, i = .int .i64 (e : Int) ∧ e + 1 = m + k ∧ k ≤ xs.length + 1 - m ∧ s = .int .i64 ((k : Int) - ((firL m xs k).length : Nat)) ∧ Own wr w.heap.size vp (firL m xs k) ∧ Below w.heap.size w wr) (fun _ _ i _ => xs.length - (intOf i).toNat)
  case atStart => exact ⟨0, m - 1, by go_num, by omega, Nat.zero_le _, rfl, Own.nil _ _, Below.refl _ _⟩
  case round =>
    obtain ⟨k, e, rfl, he, hk, rfl, hown, hbel⟩ := hrel
    have HO := hid hown
    have HB := hid hbel
    have HE := hid he
    have hle := firL_le m xs k
    obtain ⟨ao, cc, rfl, _, hcc⟩ := hown.shp9
    obtain ⟨L, hL⟩ : ∃ L, L = (firL m xs k).length := ⟨_, rfl⟩
    have HL := hid hL
    rw [← hL] at hle HO ⊢
    have hk2 : k ≤ 200 := by omega
    by_cases hlt : e < xs.length
    · have hkc : ¬ c = k := by omega
      have q0 : (k : Int) < (c : Int) := by omega
      have q1 : (e : Int) - (m : Int) + 1 = (k : Int) := by omega
      have q2 : (e : Int) - (m : Int) = (k : Int) - 1 := by omega
      have q3 : (e + 1 : Nat) - k = m := by omega
      have hW := HS.out.below hbel
      have HW := hid (Sits_row k m hW (by omega))
      have HRL := hid (rowD_length (n := m) (xs := xs) (i := k) (by omega))
      have hbb : b < wr.heap.size := Nat.lt_of_lt_of_le hb hbel.size
      clear hown hbel he hL hW
      cases hp : permB (rowD m xs k) with
      | false =>
        have HF := hid (firL_none hp)
        go_wp2_with (first
          | (go_at_call 80; (refine (raPermutation_any _ (rowD m xs k) _ HW.out.reads).mono ?_); (rintro e w1 ⟨rfl, rfl⟩); (rw [hp]))
          | fail)
        go_roundw
        case rel => exact ⟨k + 1, e + 1, by go_num, by have := HE.out; omega, by omega, by rw [HF.out, ← HL.out]; go_num, by rw [HF.out]; exact HO.out, HB.out⟩
        case measure => simp [intOf]; omega
      | true =>
        obtain ⟨R, hR⟩ : ∃ R, R = rankR (rowD m xs k) := ⟨_, rfl⟩
        have HR := hid hR
        have hR2 : R < 121 := by
          have := rankR_lt (rowD m xs k)
          have h3 := (sumF_le m (by omega)).2
          rw [HRL.out] at this
          omega
        clear hR
        cases hh : hasB (firL m xs k) (R : Int) with
        | true =>
          have HF := hid (firL_again (by rw [← HR.out]; exact hh))
          go_wp2_with (first
            | (go_at_call 80; (refine (raPermutation_any _ (rowD m xs k) _ HW.out.reads).mono ?_); (rintro e w1 ⟨rfl, rfl⟩); (rw [hp]))
            | (go_at_call 82; (refine (raRank_any (rowD m xs k) _ _ (by rw [HRL.out]; omega) HW.out).mono ?_); (rintro e w1 ⟨rfl, hq⟩); (rw [← HR.out]); (have HO1 := hid (HO.out.below (Drew.below hq _))); (have HB1 := hid (Below_chain HB.out (Drew.below hq _))); (clear hq))
            | (go_at_call 81; (refine (l1Has_any _ (firL m xs k) _ _ HO1.out.reads).mono ?_); (rintro e w2 ⟨rfl, rfl⟩); (rw [hh]))
            | fail)
          go_roundw
          case rel => exact ⟨k + 1, e + 1, by go_num, by have := HE.out; omega, by omega, by rw [HF.out, ← HL.out]; go_num, by rw [HF.out]; exact HO1.out, HB1.out⟩
          case measure => simp [intOf]; omega
        | false =>
          have HF := hid (show firL m xs (k + 1) = firL m xs k ++ [(R : Int)] by rw [HR.out]; exact firL_new hp (by rw [← HR.out]; exact hh))
          have hL6 : L ≤ 1048576 := by omega
          go_wp2_with (first
            | (go_at_call 80; (refine (raPermutation_any _ (rowD m xs k) _ HW.out.reads).mono ?_); (rintro e w1 ⟨rfl, rfl⟩); (rw [hp]))
            | (go_at_call 82; (refine (raRank_any (rowD m xs k) _ _ (by rw [HRL.out]; omega) HW1.out).mono ?_); (rintro e w2 ⟨rfl, hq⟩); (rw [← HR.out]); (have HO2 := hid (HO1.out.below (Drew.below hq _))); (have HB2 := hid (Below_chain HB1.out (Drew.below hq _))); (clear hq))
            | (go_at_call 82; (refine (raRank_any (rowD m xs k) _ _ (by rw [HRL.out]; omega) HW.out).mono ?_); (rintro e w1 ⟨rfl, hq⟩); (rw [← HR.out]); (have HO1 := hid (HO.out.below (Drew.below hq _))); (have HW1 := hid (HW.out.below (Drew.below hq _))); (have HB1 := hid (Below_chain HB.out (Drew.below hq _))); (clear hq))
            | (go_at_call 81; (refine (l1Has_any _ (firL m xs k) _ _ HO1.out.reads).mono ?_); (rintro e w2 ⟨rfl, rfl⟩); (rw [hh]))
            | (at_builtin; (refine wpList_push _ rfl _ _ 22 rfl w.heap.size i0 Try.underlying22 hi hz0 hz1 hz2 ao L cc (firL m xs k) rfl HO2.out (R : Int) w2.heap.size rfl rfl hL6 HB2.out.size ?_); (intro g5 c5 w5 hp5); (have HO5 := hid (show Own w5 w.heap.size (.slice (some ⟨g5, 0, none⟩) (L + 1) c5) (firL m xs (k + 1)) by rw [HF.out]; exact hp5.own)); (have HB5 := hid (hp5.below w rfl HB2.out)); (clear hp5))
            | fail)
          go_roundw
          case rel => exact ⟨k + 1, e + 1, by go_num, by have := HE.out; omega, by omega, by rw [HF.out, List.length_append, ← HL.out]; go_num, HO5.out, HB5.out⟩
          case measure => simp [intOf]; omega
    · have HK := hid (show k = xs.length + 1 - m by omega)
      clear hown hbel
      go_wp2_with fail
      go_ret2
      exact ⟨_, ret_sn (by rw [← HK.out, ← HL.out]), by rw [← HK.out]; exact HO.out, HB.out⟩
theorem spec_RanksIn_any (n : Int) (v : Value) (xs : List Int) (w : World) (_hn : (Lit.int .i64 n).wf = true) (h : Sits w v xs) (_hl : xs.length ≤ 1048576) (_hwf : ∀ n ∈ xs, (Lit.int .i64 n).wf = true) :
    Calls Try.prog 18 #[.int .i64 n, v] w fun e w' => ∃ u, e = .returned (.tuple #[u, .bool (suOk n xs)]) ∧ Own w' w.heap.size u (firRes n xs) ∧ Below w.heap.size w w' := by
  have HS := hid h
  clear h
  cases hn : suNB n with
  | false =>
    have HK := hid (suOk_l (xs := xs) hn)
    have HR := hid (firRes_no HK.out)
    go_enter Try.func18, Try.ntmps18
    go_wp2_with (first | (go_at_call 45; (refine (suSize_any _ _).mono ?_); (rintro e w' ⟨rfl, rfl⟩); (rw [hn])) | fail)
    go_ret2
    exact ⟨_, ret_sb HK.out.symm, by rw [HR.out]; exact Own.nil _ _, Below.refl _ _⟩
  | true =>
    have HK := hid (suOk_r (xs := xs) hn)
    cases hw : suWB xs with
    | false =>
      have HR := hid (firRes_no (HK.out.trans hw))
      have HK2 := hid (HK.out.trans hw)
      go_enter Try.func18, Try.ntmps18
      go_wp2_with (first | (go_at_call 45; (refine (suSize_any _ _).mono ?_); (rintro e w' ⟨rfl, rfl⟩); (rw [hn])) | (go_at_call 46; (refine (suWord_any _ xs _ HS.out).mono ?_); (rintro e w' ⟨rfl, rfl⟩); (rw [hw])) | fail)
      go_ret2
      exact ⟨_, ret_sb HK2.out.symm, by rw [HR.out]; exact Own.nil _ _, Below.refl _ _⟩
    | true =>
      have HR := hid (firRes_yes (HK.out.trans hw))
      have HK2 := hid (HK.out.trans hw)
      have HLN := hid (suWB_len hw)
      obtain ⟨m, rfl, h1, h5⟩ := suNB_nat hn
      go_enter Try.func18, Try.ntmps18
      go_wp2_with (first | (go_at_call 45; (refine (suSize_any _ _).mono ?_); (rintro e w' ⟨rfl, rfl⟩); (rw [hn])) | (go_at_call 46; (refine (suWord_any _ xs _ HS.out).mono ?_); (rintro e w' ⟨rfl, rfl⟩); (rw [hw])) | (go_at_call 49; (refine (suFirsts_any m _ xs _ HS.out h1 h5 HLN.out).mono ?_); (rintro e w1 ⟨u, rfl, ho, hb⟩); (have HO := hid ho); (have HB := hid hb); (clear ho hb)) | fail)
      go_ret2
      exact ⟨_, ret_sb HK2.out.symm, by rw [HR.out, Int.toNat_natCast]; exact HO.out, HB.out⟩
set_option maxHeartbeats 400000 in
theorem impl_RanksIn_any (n : Int) (v : Value) (xs : List Int) (w : World) (_hn : (Lit.int .i64 n).wf = true) (h : Sits w v xs) (_hl : xs.length ≤ 1048576) (hwf : ∀ n ∈ xs, (Lit.int .i64 n).wf = true) :
    Calls Try.prog 19 #[.int .i64 n, v] w fun e w' => ∃ u, e = .returned (.tuple #[u, .bool (suOk n xs)]) ∧ OwnE w' w.heap.size u (firRes n xs) ∧ Below w.heap.size w w' := by
  have HS := hid h
  have HWF := hid hwf
  clear h hwf
  cases hn : suNB n with
  | false =>
    have HK := hid (suOk_l (xs := xs) hn)
    have HR := hid (firRes_no HK.out)
    go_enter Try.func19, Try.ntmps19
    go_wp2_with (first | (go_at_call 50; (refine (isSuperSize_any _ _).mono ?_); (rintro e w' ⟨rfl, rfl⟩); (rw [hn])) | fail)
    go_ret2
    exact ⟨_, ret_sb HK.out.symm, by rw [HR.out]; exact (Own.nil _ _).e, Below.refl _ _⟩
  | true =>
    have HK := hid (suOk_r (xs := xs) hn)
    cases hw : suWB xs with
    | false =>
      have HR := hid (firRes_no (HK.out.trans hw))
      have HK2 := hid (HK.out.trans hw)
      go_enter Try.func19, Try.ntmps19
      go_wp2_with (first | (go_at_call 50; (refine (isSuperSize_any _ _).mono ?_); (rintro e w' ⟨rfl, rfl⟩); (rw [hn])) | (go_at_call 51; (refine (isSuperWord_any _ xs _ HS.out).mono ?_); (rintro e w' ⟨rfl, rfl⟩); (rw [hw])) | fail)
      go_ret2
      exact ⟨_, ret_sb HK2.out.symm, by rw [HR.out]; exact (Own.nil _ _).e, Below.refl _ _⟩
    | true =>
      have HR := hid (firRes_yes (HK.out.trans hw))
      have HK2 := hid (HK.out.trans hw)
      have hl := suWB_len hw
      obtain ⟨m, rfl, h1, h5⟩ := suNB_nat hn
      rw [wnN_nat, Int.toNat_natCast] at HR
      have hsit := HS.out
      obtain ⟨b, off, c, rfl, hc1, hm, hb, hc⟩ := hsit
      clear hc
      obtain ⟨i0, hi, hz0, hz1, hz2⟩ := info_parts Try.info3
      go_enter Try.func19, Try.ntmps19
      go_wp2_with (first | (go_at_call 50; (refine (isSuperSize_any _ _).mono ?_); (rintro e w' ⟨rfl, rfl⟩); (rw [hn])) | (go_at_call 51; (refine (isSuperWord_any _ xs _ HS.out).mono ?_); (rintro e w' ⟨rfl, rfl⟩); (rw [hw])) | fail)
      clear hn hw
      go_loopw [6, 7] (fun vp i wr => ∃ k e : Nat, i = .int .i64 (e : Int) ∧ e = m + k ∧ k ≤ xs.length + 1 - m ∧ Own wr w.heap.size vp (firL m xs k) ∧ Below w.heap.size w wr) (fun _ i _ => xs.length + 1 - (intOf i).toNat)
      case atStart => exact ⟨0, m, by go_num, by omega, Nat.zero_le _, Own.nil _ _, Below.refl _ _⟩
      case round =>
        obtain ⟨k, e, rfl, he, hk, hown, hbel⟩ := hrel
        have HO := hid hown
        have HB := hid hbel
        have HE := hid he
        have hle := firL_le m xs k
        obtain ⟨ao, cc, rfl, _, hcc⟩ := hown.shp9
        obtain ⟨L, hL⟩ : ∃ L, L = (firL m xs k).length := ⟨_, rfl⟩
        have HL := hid hL
        rw [← hL] at hle HO ⊢
        have hk2 : k ≤ 200 := by omega
        have HSR := hid (HS.out.below hbel)
        by_cases hlt : e ≤ xs.length
        · have hkc : ¬ c = k := by omega
          have q0 : (k : Int) < (c : Int) := by omega
          have q1 : (e : Int) - (m : Int) = (k : Int) := by omega
          have q3 : e - k = m := by omega
          have HW := hid (Sits_row k m HSR.out (by omega))
          have HRL := hid (rowD_length (n := m) (xs := xs) (i := k) (by omega))
          have hbb : b < wr.heap.size := Nat.lt_of_lt_of_le hb hbel.size
          clear hown hbel he hL
          cases hp : permB (rowD m xs k) with
          | false =>
            have HF := hid (firL_none hp)
            go_wp2_with (first
              | (go_at_call 52; (refine (impl_PermutationRank_any _ (rowD m xs k) _ HW.out (by rw [HRL.out]; omega) (fun x hx => HWF.out x (rowD_mem hx))).mono ?_); (rintro e w1 ⟨rfl, hb1⟩); (rw [hp]); (have HO1 := hid (HO.out.below hb1)); (have HB1 := hid (Below_chain HB.out hb1)); (clear hb1))
              | fail)
            go_roundw
            case rel => exact ⟨k + 1, e + 1, by go_num, by have := HE.out; omega, by omega, by rw [HF.out]; exact HO1.out, HB1.out⟩
            case measure => simp [intOf]; omega
          | true =>
            obtain ⟨R, hR⟩ : ∃ R, R = rankR (rowD m xs k) := ⟨_, rfl⟩
            have HR1 := hid hR
            have HP := hid ((rankPRes_yes hp).trans (by rw [← hR]))
            have hR2 : R < 121 := by
              have := rankR_lt (rowD m xs k)
              have h3 := (sumF_le m (by omega)).2
              rw [HRL.out] at this
              omega
            clear hR
            cases hh : hasB (firL m xs k) (R : Int) with
            | true =>
              have HF := hid (firL_again (by rw [← HR1.out]; exact hh))
              go_wp2_with (first
                | (go_at_call 52; (refine (impl_PermutationRank_any _ (rowD m xs k) _ HW.out (by rw [HRL.out]; omega) (fun x hx => HWF.out x (rowD_mem hx))).mono ?_); (rintro e w1 ⟨rfl, hb1⟩); (rw [hp, HP.out]); (have HO1 := hid (HO.out.below hb1)); (have HB1 := hid (Below_chain HB.out hb1)); (clear hb1))
                | (go_at_call 53; (refine (Contains_any _ (firL m xs k) _ _ HO1.out.reads).mono ?_); (rintro e w2 ⟨rfl, rfl⟩); (rw [hh]))
                | fail)
              go_roundw
              case rel => exact ⟨k + 1, e + 1, by go_num, by have := HE.out; omega, by omega, by rw [HF.out]; exact HO1.out, HB1.out⟩
              case measure => simp [intOf]; omega
            | false =>
              have HF := hid (show firL m xs (k + 1) = firL m xs k ++ [(R : Int)] by rw [HR1.out]; exact firL_new hp (by rw [← HR1.out]; exact hh))
              have hL6 : L ≤ 1048576 := by omega
              go_wp2_with (first
                | (go_at_call 52; (refine (impl_PermutationRank_any _ (rowD m xs k) _ HW.out (by rw [HRL.out]; omega) (fun x hx => HWF.out x (rowD_mem hx))).mono ?_); (rintro e w1 ⟨rfl, hb1⟩); (rw [hp, HP.out]); (have HO1 := hid (HO.out.below hb1)); (have HB1 := hid (Below_chain HB.out hb1)); (clear hb1))
                | (go_at_call 53; (refine (Contains_any _ (firL m xs k) _ _ HO1.out.reads).mono ?_); (rintro e w2 ⟨rfl, rfl⟩); (rw [hh]))
                | (at_builtin; (refine wpList_push _ rfl _ _ 22 rfl w.heap.size i0 Try.underlying22 hi hz0 hz1 hz2 ao L cc (firL m xs k) rfl HO1.out (R : Int) w1.heap.size rfl rfl hL6 HB1.out.size ?_); (intro g5 c5 w5 hp5); (have HO5 := hid (show Own w5 w.heap.size (.slice (some ⟨g5, 0, none⟩) (L + 1) c5) (firL m xs (k + 1)) by rw [HF.out]; exact hp5.own)); (have HB5 := hid (hp5.below w rfl HB1.out)); (clear hp5))
                | fail)
              go_roundw
              case rel => exact ⟨k + 1, e + 1, by go_num, by have := HE.out; omega, by omega, HO5.out, HB5.out⟩
              case measure => simp [intOf]; omega
        · have HKE := hid (show k = xs.length + 1 - m by omega)
          clear hown hbel hL he
          go_wp2_with (first | (go_at_call 54; (refine (ended_any w.heap.size _ _ _ HO.out).mono ?_); (rintro e w2 ⟨r, rfl, he2, _, hww⟩); (subst hww); (have HEN := hid (show OwnE wr w.heap.size r (firRes (m : Int) xs) by rw [HR.out, ← HKE.out]; exact he2)); (clear he2)) | fail)
          go_ret2
          exact ⟨_, ret_sb HK2.out.symm, HEN.out, HB.out⟩
end Go.Proofs.Ytlkhkecnghpokab
