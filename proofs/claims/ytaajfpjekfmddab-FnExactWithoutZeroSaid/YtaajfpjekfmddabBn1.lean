/- Contracts: brNumber, brNumbers, brDifferent, brBruijn; both IsBruijn functions. Conditions: slices that are not nil and read as lists of at most 2^20 numbers. -/
import Derived.Test.YtaajfpjekfmddabBnM
import Derived.Test.YtaajfpjekfmddabBr3
import Derived.Test.YtaajfpjekfmddabOnB
import Derived.Test.YtaajfpjekfmddabRep
namespace Go.Proofs.Ytaajfpjekfmddab
open Go.RowKit
set_option linter.unusedVariables false
set_option maxRecDepth 4000

theorem brNumber_any (v : Value) (ys : List Int) (k : Nat) (w : World) (h : Reads w v ys) (hb : belK k ys) (hk1 : 1 ≤ k) (hk : k < 7) (hp : k ^ ys.length ≤ 1024) :
    Calls Try.prog 79 #[v, .int .i64 (k : Int)] w fun e w' => e = .returned (.int .i64 (numN k ys ys.length : Nat)) ∧ w = w' := by
  obtain ⟨ao, c, rfl, hc1, hm, h⟩ := h.view
  rcases h with h | ⟨b, off, rfl, hb0, hc⟩
  · subst h
    go_enter Try.func79, Try.ntmps79
    go_wp2
    refine wp_loop_rounds 1 ?_
    rw [rounds_succ]
    go_wp2
    go_ret
    exact ⟨rfl, rfl⟩
  · go_enter Try.func79, Try.ntmps79
    go_wp2
    go_loop [5, 7, 10] (fun s _ i => ∃ j : Nat, j ≤ ys.length ∧ i = .int .i64 (j : Int) ∧ s = .int .i64 (numN k ys j : Nat)) (fun _ _ i => ys.length - (intOf i).toNat)
    case atStart => exact ⟨0, Nat.zero_le _, rfl, rfl⟩
    case round =>
      obtain ⟨j, hj, rfl, rfl⟩ := hrel
      by_cases hlt : j < ys.length
      · have hcx := hc j hlt
        have hx := hb j hlt
        rw [getD_at hlt] at hx
        have h1 := numN_lt hb j (by omega) hk1
        have h2 := numN_lt hb (j + 1) hlt hk1
        have h3 : k ^ (j + 1) ≤ 1024 := Nat.le_trans (Nat.pow_le_pow_right hk1 hlt) hp
        have h4 : k ^ j ≤ 1024 := Nat.le_trans (Nat.pow_le_pow_right hk1 hj) hp
        have HS := hid (show numN k ys (j + 1) = numN k ys j * k + (ys[j]).toNat by rw [numN, getD_at hlt])
        rw [HS.out] at h2
        obtain ⟨s, hs⟩ : ∃ s, s = numN k ys j := ⟨_, rfl⟩
        rw [← hs] at HS h1 h2 ⊢
        obtain ⟨d, hd⟩ : ∃ d, d = s * k := ⟨_, rfl⟩
        have hd2 : (s : Int) * (k : Int) = (d : Int) := by rw [hd]; simp
        rw [← hd] at HS h2
        have hd3 : (s : Int) * (k : Int) ≤ 1024 := by rw [hd2]; omega
        have hd4 : 0 ≤ (s : Int) * (k : Int) := by rw [hd2]; omega
        obtain ⟨x, hx0⟩ : ∃ x, x = ys[j] := ⟨_, rfl⟩
        rw [← hx0] at hcx hx HS h2
        have hd5 : (d : Int) + x ≤ 1024 := by omega
        have HE := hid (show (d : Int) + x = ((numN k ys (j + 1) : Nat) : Int) by rw [HS.out]; omega)
        clear hs hd hx0 h1 h2 h3 h4 hc hb
        go_wp2
        go_round
        case rel => exact ⟨j + 1, by omega, by go_num, by rw [← HE.out]⟩
        case measure => simp [intOf]; omega
      · obtain rfl : j = ys.length := by omega
        go_wp2
        go_ret
        exact ⟨rfl, rfl⟩
theorem brNumbers_any (v : Value) (xs : List Int) (n k : Nat) (w : World) (h : Sits w v xs) (hbk : belK k xs) (h1 : 1 ≤ xs.length) (hl : xs.length ≤ 1024) (hn : n < 11) (hk1 : 1 ≤ k) (hk : k < 7) (hp : k ^ n ≤ 1024) :
    Calls Try.prog 83 #[v, .int .i64 (n : Int), .int .i64 (k : Int)] w fun e w' => ∃ u, e = .returned u ∧ Own w' w.heap.size u (nbsT xs n k xs.length) ∧ Below w.heap.size w w' := by
  have HS := hid h
  obtain ⟨b, off, c, rfl, hc1, hm, hb, hc⟩ := h
  clear hc
  obtain ⟨i0, hi, hz0, hz1, hz2⟩ := info_parts Try.info3
  have HBK := hid hbk
  have HP := hid hp
  clear hbk hp
  go_enter Try.func83, Try.ntmps83
  go_wp2_with fail
  go_loopw [7, 8, 11] (fun vp _ i wr => ∃ j : Nat, i = .int .i64 (j : Int) ∧ j ≤ xs.length ∧ Own wr w.heap.size vp (nbsT xs n k j) ∧ Below w.heap.size w wr) (fun _ _ i _ => xs.length - (intOf i).toNat)
  case atStart => exact ⟨0, rfl, Nat.zero_le _, Own.nil _ _, Below.refl _ _⟩
  case round =>
    obtain ⟨j, rfl, hj, hown, hbel⟩ := hrel
    have HO := hid hown
    have HB := hid hbel
    by_cases hlt : j < xs.length
    · have HX := hid (HS.out.below hbel)
      have HD := hid (nbsT_succ xs n k j)
      obtain ⟨ao, cc, rfl, hcc, _⟩ := hown.view3
      have HLN := hid (nbsT_len xs n k j)
      rw [HLN.out] at HO ⊢
      have hjb : j ≤ 1048576 := by omega
      have hxl : xs.length ≤ 1048576 := by omega
      have HWN := hid (show numN k (arL xs j n) (arL xs j n).length = winN xs n k j by rw [arL_len]; rfl)
      have hwn := winN_lt HBK.out h1 hk1 n j
      have hwn2 : winN xs n k j ≤ 1024 := by have := HP.out; omega
      obtain ⟨x, hx⟩ : ∃ x, x = winN xs n k j := ⟨_, rfl⟩
      rw [← hx] at HD HWN hwn2
      clear hown hbel hx hwn
      go_wp2_with (first
        | (go_at_call 74; (refine (brWindow_any _ xs n j _ HX.out hjb (by omega) h1 hxl).mono ?_); (rintro e w1 ⟨u1, rfl, ho1, hb1⟩); (have HO1 := hid ho1); (have HB1 := hid (Below_chain HB.out hb1)); (have HOK := hid (HO.out.below hb1)); (clear ho1 hb1))
        | (go_at_call 79; (refine (brNumber_any _ (arL xs j n) k _ HO1.out.reads (arL_belK HBK.out h1 j n) hk1 hk (by rw [arL_len]; exact HP.out)).mono ?_); (rintro e w2 ⟨rfl, rfl⟩); (rw [HWN.out]))
        | (at_builtin; (refine wpList_push _ rfl _ _ 22 rfl w.heap.size i0 Try.underlying22 hi hz0 hz1 hz2 ao j cc (nbsT xs n k j) rfl HOK.out (x : Int) w1.heap.size rfl rfl hjb HB1.out.size ?_); (intro g5 c5 w5 hp5); (have HO5 := hid (show Own w5 w.heap.size (.slice (some ⟨g5, 0, none⟩) (j + 1) c5) (nbsT xs n k (j + 1)) by rw [HD.out]; exact hp5.own)); (have HB5 := hid (hp5.below w rfl HB1.out)); (clear hp5))
        | fail)
      go_roundw
      case rel => exact ⟨j + 1, by go_num, by omega, HO5.out, HB5.out⟩
      case measure => simp [intOf]; omega
    · obtain rfl : j = xs.length := by omega
      clear hown hbel
      go_wp2_with fail
      go_ret
      exact ⟨_, rfl, HO.out, HB.out⟩
theorem newI_yes {L : List Int} {j : Nat} {x : Int} (e : L.getD j 0 = x) (h : metG (fun i => L.getD i 0) j x = false) : newI L j = true := by unfold newI; rw [e, h]; rfl
theorem newI_no {L : List Int} {j : Nat} {x : Int} (e : L.getD j 0 = x) (h : metG (fun i => L.getD i 0) j x = true) : newI L j = false := by unfold newI; rw [e, h]; rfl
theorem metI_succ {L : List Int} {j r : Nat} (e : L.getD j 0 = (r : Int)) (y : Nat) : metG (fun i => L.getD i 0) (j + 1) (y : Int) = if y = r then true else metG (fun i => L.getD i 0) j (y : Int) := by
  rw [metG_step, e]
  by_cases h : y = r
  · subst h; simp
  · have : ((r : Int) == (y : Int)) = false := by simp; omega
    rw [this, Bool.or_false, if_neg h]
theorem Try.infoBD : (Try.prog.info? 4).map (fun i => (i.zero, i.size, i.bytes)) = some (some (.bool false), 1, 1) := by kernel_rfl
theorem run_make_boolsD (n : Nat) (hn : n ≤ 1048576) (w : World) : Sem.run Try.prog (Instr.makeSlice 52 (.int .i64 n) (.int .i64 n)) w = .ok (.slice (some ⟨w.heap.size, 0, none⟩) n n) (w.alloc (.cells (madeCells #[.bool false] n) 4)) :=
  run_make_row' 52 4 (.bool false) 1 Try.underlying52 Try.infoBD rfl .i64 .i64 n (by omega) (by omega) w
theorem brDifferent_any (v : Value) (L : List Int) (most : Nat) (w : World) (h : Sits w v L) (hm : most ≤ 1048576) (hlt : ∀ i, i < L.length → 0 ≤ L.getD i 0 ∧ L.getD i 0 < (most : Int)) :
    Calls Try.prog 82 #[v, .int .i64 (most : Int)] w fun e w' => e = .returned (.bool (difB L)) ∧ Below w.heap.size w w' := by
  obtain ⟨b, off, c, rfl, hc1, hm3, hb, hc⟩ := h
  have HC := hid hc
  have HLT := hid hlt
  clear hc hlt
  have hmk := run_make_boolsD most hm w
  have HM := hid (World.rowIs_made w (.bool false) most 4)
  have HB0 := hid ((Below.refl w.heap.size w).alloc (Nat.le_refl _) (.cells (madeCells #[.bool false] most) 4))
  go_enter Try.func82, Try.ntmps82
  go_wp2_with fail
  clear hmk
  go_loopw [7, 12] (fun _ i wr => ∃ j : Nat, j ≤ L.length ∧ i = .int .i64 (j : Int) ∧ allTo j (newI L) = true ∧ wr.rowIs w.heap.size 4 most (fun r => .bool (metG (fun i => L.getD i 0) j (r : Int))) ∧ Below w.heap.size w wr) (fun _ i _ => L.length - (intOf i).toNat)
  case atStart => exact ⟨0, Nat.zero_le _, rfl, rfl, HM.out.congr (fun i hi => by rw [metG_zero]), HB0.out⟩
  case round =>
    obtain ⟨j, hj, rfl, hall, hrow, hbel⟩ := hrel
    have HA := hid hall
    have HB := hid hbel
    have HROW := hid hrow
    clear hall
    by_cases hlt : j < L.length
    · have hcx : wr.cell? ⟨b, off + j, none⟩ = some (.int .i64 L[j]) := (hbel.cell (by exact hb)).trans (HC.out j hlt)
      have hr := HLT.out j hlt
      rw [getD_at hlt] at hr
      obtain ⟨r, hrr⟩ : ∃ r : Nat, L[j] = (r : Int) := ⟨(L[j]).toNat, by omega⟩
      have HG := hid (show L.getD j 0 = (r : Int) by rw [getD_at hlt, hrr])
      rw [hrr] at hcx hr
      have hr3 : r < most := by omega
      have hr0 : (0 : Int) ≤ (r : Int) := by omega
      have hrl : (r : Int) < (most : Int) := by omega
      have hcr := hrow.cell hr3
      have hfz := hrow.frozen r
      clear hrr hrow hbel
      cases hmet : metG (fun i => L.getD i 0) j (r : Int) with
      | true =>
        rw [hmet] at hcr
        have HK := hid (newI_no HG.out hmet)
        clear hmet
        go_wp2_with fail
        go_ret
        exact ⟨ret_bool (allTo_no hlt HK.out).symm, HB.out⟩
      | false =>
        rw [hmet] at hcr
        have HK := hid (newI_yes HG.out hmet)
        have HS := hid (HROW.out.set r (.bool true))
        have HB2 := hid (HB.out.setCell (p := ⟨w.heap.size, r, none⟩) (Nat.le_refl _) (.bool true))
        clear hmet
        go_wp2_with fail
        go_roundw
        case rel => exact ⟨j + 1, by omega, by go_num, allTo_next HA.out HK.out, HS.out.congr (fun y hy => by
          rw [metI_succ HG.out]
          by_cases h : y = r
          · rw [if_pos h, if_pos h]
          · rw [if_neg h, if_neg h]), HB2.out⟩
        case measure => simp [intOf]; omega
    · obtain rfl : j = L.length := by omega
      clear hbel hrow
      go_wp2_with fail
      go_ret
      exact ⟨ret_bool HA.out.symm, HB.out⟩
theorem own_some {w : World} {B : Nat} {u : Value} {L : List Int} (h : Own w B u L) (h1 : 1 ≤ L.length) : ∃ g c, u = .slice (some ⟨g, 0, none⟩) L.length c := by
  rcases h.form with ⟨_, e⟩ | ⟨g, c, e, _⟩
  · rw [e] at h1; simp at h1
  · exact ⟨g, c, e⟩
theorem brBruijn_any (v : Value) (xs : List Int) (n k : Nat) (w : World) (h : Sits w v xs) (hbk : belK k xs) (h1 : 1 ≤ xs.length) (hl : xs.length ≤ 1024) (hn : n < 11) (hk1 : 2 ≤ k) (hk : k < 7) (hp : k ^ n ≤ 1024) :
    Calls Try.prog 56 #[v, .int .i64 (n : Int), .int .i64 (k : Int)] w fun e w' => e = .returned (.bool (bruR xs n k)) ∧ Below w.heap.size w w' := by
  have HS := hid h
  obtain ⟨b, off, c, rfl, hc1, hm, hb, hc⟩ := h
  clear hc
  have HBK := hid hbk
  have hp1 : 1 ≤ k ^ n := by have := Nat.pow_le_pow_left (show 1 ≤ k by omega) n; rwa [Nat.one_pow] at this
  have HLT := hid (show ∀ i, i < (nbsT xs n k xs.length).length → 0 ≤ (nbsT xs n k xs.length).getD i 0 ∧ (nbsT xs n k xs.length).getD i 0 < ((k ^ n : Nat) : Int) from fun i hi => by
    rw [nbsT_len] at hi
    rw [nbsT_at hi]
    have := winN_lt hbk h1 (by omega) n i
    omega)
  have HPK := hid hp
  by_cases hle : xs.length = k ^ n
  · have HF := hid (show bruR xs n k = difB (nbsT xs n k xs.length) by unfold bruR; rw [decide_eq_true hle, Bool.true_and])
    obtain ⟨P, hP⟩ : ∃ P, P = k ^ n := ⟨_, rfl⟩
    have HP := hid (show pwI k n = (P : Int) by rw [pwI_pow, hP])
    rw [← hP] at HLT hle
    have hbb : ((xs.length : Int) == (P : Int)) = true := by rw [hle]; simp
    have hP2 : P ≤ 1048576 := by omega
    have HLN := hid (nbsT_len xs n k xs.length)
    clear hP hbk hp hp1 hle
    go_enter Try.func56, Try.ntmps56
    go_wp2_with (first
      | (go_at_call 41; (refine (lyPower_any k n _ hk (by omega)).mono ?_); (rintro e w9 ⟨rfl, rfl⟩); (rw [HP.out]))
      | (go_at_call 83; (refine (brNumbers_any _ xs n k _ HS.out HBK.out h1 hl hn (by omega) hk HPK.out).mono ?_); (rintro e w1 ⟨u1, rfl, ho1, hb1⟩); (obtain ⟨g1, c1, rfl⟩ := own_some ho1 (by rw [HLN.out]; exact h1)); (have HO1 := hid ho1.sits); (have HB1 := hid hb1); (clear ho1 hb1))
      | (go_at_call 82; (refine (brDifferent_any _ _ P _ HO1.out hP2 HLT.out).mono ?_); (rintro e w2 ⟨rfl, hb2⟩); (have HB2 := hid (Below_chain HB1.out hb2)); (clear hb2))
      | fail)
    go_ret
    exact ⟨ret_bool HF.out.symm, HB2.out⟩
  · have HF := hid (show bruR xs n k = false by unfold bruR; rw [decide_eq_false hle, Bool.false_and])
    obtain ⟨P, hP⟩ : ∃ P, P = k ^ n := ⟨_, rfl⟩
    have HP := hid (show pwI k n = (P : Int) by rw [pwI_pow, hP])
    rw [← hP] at hle
    have hbb : ((xs.length : Int) == (P : Int)) = false := by simp; omega
    clear hP hbk hp hp1 hle HLT
    go_enter Try.func56, Try.ntmps56
    go_wp2_with (first
      | (go_at_call 41; (refine (lyPower_any k n _ hk (by omega)).mono ?_); (rintro e w9 ⟨rfl, rfl⟩); (rw [HP.out]))
      | fail)
    go_ret
    exact ⟨ret_bool HF.out.symm, Below.refl _ _⟩
/-- n, k and the cycle are such that there is an answer -/
def isbB (xs : List Int) (n k : Int) : Bool := bruB n k && cycB xs k
def isbR (xs : List Int) (n k : Int) : Bool := atB (isbB xs n k) false (bruR xs n.toNat k.toNat)
theorem isbB_0 {xs : List Int} {n k : Int} (h : bruB n k = false) : isbB xs n k = false := by unfold isbB; rw [h]; rfl
theorem isbB_1 {xs : List Int} {n k : Int} (h : bruB n k = true) : isbB xs n k = cycB xs k := by unfold isbB; rw [h]; rfl
theorem isbR_no {xs : List Int} {n k : Int} (h : isbB xs n k = false) : isbR xs n k = false := atB_no h
theorem isbR_yes {xs : List Int} {n k : Nat} (h : isbB xs n k = true) : isbR xs n k = bruR xs n k := by unfold isbR; rw [atB_yes h, Int.toNat_natCast, Int.toNat_natCast]
theorem ret_bb8 {a a' b b' : Bool} (h : a = a') (h' : b = b') : Ending.returned (.tuple #[.bool a, .bool b]) = .returned (.tuple #[.bool a', .bool b']) := by rw [h, h']
theorem new_cellV7 (w : World) (v : Value) (T : TypeId) : (w.alloc (.cells #[v] T)).cell? ⟨w.heap.size, 0, none⟩ = some v := by
  simp
theorem impl_IsBruijn_any (v : Value) (xs : List Int) (n k : Int) (w : World) (h : Sits w v xs) :
    Calls Try.prog 59 #[v, .int .i64 n, .int .i64 k] w fun e w' => e = .returned (.tuple #[.bool (isbR xs n k), .bool (isbB xs n k)]) ∧ Below w.heap.size w w' := by
  have HS := hid h
  obtain ⟨bq, off, c, rfl, hc1, hm, hbq, hc⟩ := h
  clear hc
  cases h1 : bruB n k with
  | false =>
    have HF := hid (isbB_0 (xs := xs) h1)
    go_enter Try.func59, Try.ntmps59
    go_wp2_with (first | (go_at_call 42; (refine (bruijnLength_no _ _ _ h1).mono ?_); (rintro e w' ⟨⟨L, rfl⟩, rfl⟩)) | fail)
    go_ret2
    exact ⟨ret_bb8 (isbR_no HF.out).symm HF.out.symm, Below.refl _ _⟩
  | true =>
    obtain ⟨a, b, rfl, rfl, ha1, ha2, hb1, hb2, hp⟩ := bruB_nat h1
    cases h2 : cycB xs b with
    | false =>
      have HF := hid ((isbB_1 (xs := xs) h1).trans h2)
      go_enter Try.func59, Try.ntmps59
      go_wp2_with (first
        | (go_at_call 42; (refine (bruijnLength_yes a b _ h1).mono ?_); (rintro e w' ⟨rfl, rfl⟩))
        | (go_at_call 64; (refine (impl_IsCycle_any _ xs _ _ HS.out.reads).mono ?_); (rintro e w' ⟨rfl, rfl⟩); (rw [h2]))
        | fail)
      go_ret2
      exact ⟨ret_bb8 (isbR_no HF.out).symm HF.out.symm, Below.refl _ _⟩
    | true =>
      have HF := hid ((isbB_1 (xs := xs) h1).trans h2)
      have HR := hid (isbR_yes HF.out)
      have hlen := cycB_len h2
      have hbk := cycB_belK h2
      have HON := hid (onA_bru ha2 hb1 hb2 hp hbk hlen.1)
      have HLT := hid (show ∀ l ∈ winL xs a, rankB (List.replicate a (b : Int)) l = true → 0 ≤ rankRes (List.replicate a (b : Int)) l ∧ rankRes (List.replicate a (b : Int)) l < ((b ^ a : Nat) : Int) from fun l hl hr => by
        obtain ⟨p, hp2, rfl⟩ : ∃ p, p < xs.length ∧ arL xs p a = l := by simpa [winL] using hl
        have e := (rank_rep ha2 hb1 hb2 hp (arL_belK hbk hlen.1 p a) (arL_len _ _ _)).2
        have e2 := winN_lt hbk hlen.1 (by omega) a p
        rw [e]
        unfold winN at e2
        omega)
      have h1024 : b ^ a ≤ 1048576 := by omega
      have hl2 : xs.length ≤ 2048 := by omega
      obtain ⟨P, hP⟩ : ∃ P, P = b ^ a := ⟨_, rfl⟩
      have HPP := hid hP.symm
      rw [← hP] at HON HLT h1024
      have HBR := hid h1
      clear hP hp hbk h1
      go_enter Try.func59, Try.ntmps59
      go_wp2_with (first
        | (go_at_call 42; (refine (bruijnLength_yes a b _ HBR.out).mono ?_); (rintro e w' ⟨rfl, rfl⟩); (rw [HPP.out]))
        | (go_at_call 64; (refine (impl_IsCycle_any _ xs _ _ HS.out.reads).mono ?_); (rintro e w' ⟨rfl, rfl⟩); (rw [h2]))
        | (go_at_call 85; (refine (Repeat_any (b : Int) w.heap.size a (.inl (by omega)) _ (by simp) (by simp)).mono ?_); (rintro e w1 ⟨rfl, ho, hb1⟩); (have HO := hid (show Own w1 (w.heap.size + 1) (.slice (some ⟨w.heap.size + 1, 0, none⟩) a a) (List.replicate a (b : Int)) by simpa using ho)); (have HB := hid (((Below.refl w.heap.size w).alloc (Nat.le_refl _) (.cells #[.int .i64 (b : Int)] 3)).trans (hb1.mono (by simp)))); (clear ho hb1))
        | (go_at_call 89; (have HBX := hid (HB.out.alloc HB.out.size (.cells #[.slice (some ⟨w.heap.size + 1, 0, none⟩) a a] 22))); (have HBY := hid ((Below.refl w1.heap.size w1).alloc (Nat.le_refl _) (.cells #[.slice (some ⟨w.heap.size + 1, 0, none⟩) a a] 22))); (have HCX := hid (new_cellV7 w1 (.slice (some ⟨w.heap.size + 1, 0, none⟩) a a) 22)); (refine (windowsOf_any _ xs a _ (HS.out.below HBX.out) (by omega) hlen.1 hl2).mono ?_); (rintro e w3 ⟨g3, rfl, hs3, hb3⟩); (have HW := hid hs3); (have HB3 := hid (Below_chain HBX.out hb3)); (have HSR := hid ((HO.out.sits.below HBY.out).below hb3)); (have HCB := hid (cell_keptG HCX.out hb3)); (clear hs3 hb3))
        | (go_at_call 88; (refine (areAllOnce_B (List.replicate a (b : Int)) _ _ P h1024 _ (winL xs a) _ HCB.out HSR.out HW.out (fun _ _ => trivial) HLT.out).mono ?_); (rintro e w4 ⟨rfl, hb4⟩); (rw [HON.out]); (have HB4 := hid (Below_chain HB3.out hb4)); (clear hb4))
        | fail)
      go_ret2
      exact ⟨ret_bb8 HR.out.symm HF.out.symm, HB4.out⟩
end Go.Proofs.Ytaajfpjekfmddab
