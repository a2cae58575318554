/- Contracts: gcList, gcPlace, reflected, both ReflectedAt and both ReflectedRank functions. Conditions: at most 10 bits. -/
import Derived.Test.YteejdagnlepegaaDoorFlip
import Derived.Test.YteejdagnlepegaaDoorBits
import Derived.Test.YteejdagnlepegaaDoorTake3
namespace Go.Proofs.YteejdagnlepegaaDoor
open Go.RowKit
set_option linter.unusedVariables false

theorem grayL_take {m k : Nat} (h : k < 2 ^ m) : (grayL m).take (k + 1) = (grayL m).take k ++ [(gray k : Int)] := by
  rw [List.take_succ_eq_append_getElem (by rw [grayL_length]; exact h)]
  simp [grayL]
theorem grayL_half (m : Nat) : (grayL (m + 1)).take (2 ^ m) = grayL m := by
  unfold grayL
  rw [← List.map_take, List.take_range, Nat.min_eq_left (by rw [Nat.pow_succ]; omega)]
theorem Own.lit9 (w : World) (x : Int) : Own (w.alloc (.cells #[.int .i64 x] 3)) w.heap.size (.slice (some ⟨w.heap.size, 0, none⟩) 1 1) [x] :=
  World.ownsRow_lit w #[.int .i64 x] 1 (Nat.le_refl _) (by unfold maxLen; omega) rfl
theorem Below.drew_alloc {w : World} (o : Obj) : Below w.heap.size w (w.drew.alloc o) := (Below.refl _ _).drew.alloc (Nat.le_refl _) o
theorem size_late {w : World} (o : Obj) : w.heap.size ≤ (w.drew.alloc o).heap.size := (Below.drew_alloc o).size
/-- What is owned, in a region that draws its order, behind a new block. -/
theorem Own.late {w : World} {lo : Nat} {v : Value} {xs : List Int} {n : Nat} (h : Own w lo v xs) (hn : xs.length = n) (o : Obj) : (w.drew.alloc o).ownsRow lo 3 1 v n (xs.map (Value.int .i64)) := by
  have := (h.below (Below.drew_alloc o)).row
  rwa [hn] at this
set_option maxHeartbeats 1000000 in
theorem gcList_any (m : Nat) : ∀ (w : World), m ≤ 10 → Calls Tryd.prog 44 #[.int .i64 (m : Int)] w fun e w' => ∃ u, e = .returned u ∧ Own w' w.heap.size u (grayL m) ∧ Below w.heap.size w w' := by
  induction m with
  | zero =>
    intro w _
    have HO := hid (Own.lit9 w 0)
    have HB := hid ((Below.refl w.heap.size w).alloc (Nat.le_refl _) (.cells #[.int .i64 0] 3))
    go_enter Tryd.func44, Tryd.ntmps44
    go_wp2_with fail
    go_ret
    exact ⟨_, rfl, HO.out, HB.out⟩
  | succ m ih =>
    intro w hm
    obtain ⟨i0, hi, hz0, hz1, hz2⟩ := info_parts Tryd.info3
    have h0 : ((m : Int) + 1 == 0) = false := by simp; omega
    have e1 : (m : Int) + 1 - 1 = (m : Int) := by omega
    have E1 := hid e1
    obtain ⟨p, hp⟩ : ∃ p, p = 2 ^ m := ⟨_, rfl⟩
    have hp1 : p ≤ 512 := by
      have : ∀ k, k < 10 → 2 ^ k ≤ 512 := by decide
      rw [hp]; exact this m (by omega)
    have hp0 : 1 ≤ p := by rw [hp]; exact Nat.two_pow_pos m
    have HP := hid hp
    have hsh := shl1_small m (by omega)
    rw [← hp] at hsh
    have hsh2 : IntKind.i64.wrap (2 ^ m) = (p : Int) := by rw [← pow_int, ← hp]; exact IntWalk.i64_in _ (by omega)
    have hm10 : m ≤ 10 := by omega
    have hwm : IntKind.i64.wrap (m : Int) = (m : Int) := IntWalk.i64_in _ (by omega)
    have hm0 : (0 : Int) ≤ (m : Int) := by omega
    clear e1
    go_enter Tryd.func44, Tryd.ntmps44
    go_wp2_with fail
    refine (ih _ hm10).mono ?_
    rintro e w1 ⟨u, rfl, hou, hb1⟩
    have HB1 := hid hb1
    have hlu := grayL_length m
    rw [← hp] at hlu
    rcases hou.form with ⟨_, h2⟩ | ⟨g, cap, rfl, hg, hlt, hc1, hm1, _, _⟩
    · exact absurd h2 (by intro e; rw [e] at hlu; simp at hlu; omega)
    · rw [hlu] at hou ⊢
      have HO1 : Hid (Own w1 w.heap.size (.slice (some ⟨g, 0, none⟩) p cap) ((grayL (m + 1)).take p)) := by
        show Own _ _ _ _
        rw [HP.out, grayL_half, ← HP.out]
        exact hou
      have HL := hid (show (grayL (m + 1)).length = p + p by rw [grayL_length, HP.out, Nat.pow_succ]; omega)
      clear hp hou hlu hc1 hm1 hg hlt hb1
      go_wp2
      go_loopw [3, 4] (fun v i wr => ∃ k : Nat, k ≤ p ∧ i = .int .i64 ((k : Int) - 1) ∧ Own wr w.heap.size v ((grayL (m + 1)).take (p + (p - k))) ∧ Below w.heap.size w wr) (fun _ i _ => (intOf i + 1).toNat)
      case atStart => exact ⟨p, Nat.le_refl _, rfl, by rw [Nat.sub_self]; exact HO1.out, HB1.out⟩
      case round =>
        obtain ⟨k, hk, rfl, hown, hbel⟩ := hrel
        have hlk : ((grayL (m + 1)).take (p + (p - k))).length = p + (p - k) := by rw [List.length_take, HL.out]; omega
        cases k with
        | zero =>
          rw [show (((0 : Nat) : Int) - 1) = -1 from rfl]
          rw [List.take_of_length_le (by rw [HL.out]; omega)] at hown
          have HO := hid hown
          clear hown hlk
          go_wp2
          go_ret
          exact ⟨_, rfl, HO.out, hbel⟩
        | succ q =>
          rw [show (((q + 1 : Nat) : Int) - 1) = (q : Int) from by omega]
          rcases hown.form with ⟨_, h2⟩ | ⟨g2, cap2, rfl, hg2, hlt2, hc12, hm2, hcell, hfr⟩
          · exact absurd h2 (by intro e; rw [e] at hlk; simp at hlk; omega)
          · rw [hlk] at hown ⊢
            have hq : q < p := by omega
            have hcx : wr.cell? ⟨g2, q, none⟩ = some (.int .i64 (gray q)) := by
              have := hcell q (by rw [hlk]; omega)
              rw [Nat.zero_add] at this
              rw [this]
              congr 2
              rw [List.getD_eq_getElem?_getD, List.getElem?_take, if_pos (by omega), ← List.getD_eq_getElem?_getD, grayL_getD (by rw [Nat.pow_succ, ← HP.out]; omega)]
            have hgq : gray q < p := by have := gray_lt m (by omega) q (by rw [← HP.out]; exact hq); rw [← HP.out] at this; exact this
            have HI : Hid ((grayL (m + 1)).take (p + (p - (q + 1)) + 1) = (grayL (m + 1)).take (p + (p - (q + 1))) ++ [(gray q : Int) + (p : Int)]) := by
              show _ = _
              rw [grayL_take (by rw [Nat.pow_succ, ← HP.out]; omega)]
              congr 2
              have := gray_up (m := m) (j := p - (q + 1)) (by omega) (by rw [← HP.out]; omega)
              rw [← HP.out] at this
              rw [show p - 1 - (p - (q + 1)) = q by omega] at this
              rw [this]; simp
            have HE : Hid (p + (p - q) = p + (p - (q + 1)) + 1) := by show _ = _; omega
            obtain ⟨t, ht⟩ : ∃ t, t = p + (p - (q + 1)) := ⟨_, rfl⟩
            rw [← ht] at hown hlk HI HE
            rw [← ht]
            have htb : t ≤ 1024 := by omega
            have htq : q < t := by omega
            have hir := hown.late hlk
            have HIR := hid hir
            have HOW := hid hown
            have HBB := hid hbel
            have HLK := hid hlk
            have hsz := hbel.size
            have hx1 : (q : Int) < (t : Int) := by omega
            have hx0 : (0 : Int) ≤ (q : Int) := by omega
            have hv1 : IntKind.i64.wrap ((gray q : Int) + (p : Int)) = (gray q : Int) + (p : Int) := IntWalk.i64_in _ (by omega)
            have hA : t + 1 ≤ maxLen := by unfold maxLen; omega
            have hB : (t + 1) * 8 ≤ 140737488355328 := by omega
            clear hir hown hbel hlk hcell hfr ht hc12 hm2 hg2
            have hcd : wr.drew.cell? ⟨g2, q, none⟩ = some (.int .i64 (gray q)) := hcx
            go_wp2
            go_region_law
              (first
                | (refine step_append_any _ rfl _ _ _ rfl w.heap.size 3 i0 (.int .i64 0) 1 8 Tryd.underlying22 hi hz0 hz1 hz2 rfl Nat.zero_lt_one (.slice (some ⟨g2, 0, none⟩) t cap2) t (((grayL (m + 1)).take t).map (Value.int .i64)) rfl (HIR.out _) ⟨wr.heap.size, 0, none⟩ 1 1 [.int .i64 ((gray q : Int) + (p : Int))] rfl rfl (fun j u hj => new_cell1 j hj) (one_cell9 _ _) hA hB (Nat.le_trans hsz (size_late _)) ?_; intro v' w2 hown' hgrow hnil)
                | fail)
            have hown2 : Own w2 w.heap.size v' ((grayL (m + 1)).take (t + 1)) := by
              rw [HI.out]
              refine Own.snoc ?_
              rw [HLK.out]
              exact hown'
            have hbel2 : Below w.heap.size w w2 := (HBB.out.trans ((Below.drew_alloc _).mono HBB.out.size)).grown hgrow (Nat.le_trans hsz (size_late _)) (fun q hq => (World.ownsRow.lt HOW.out q hq).1)
            clear hown' hgrow hnil
            go_wp2
            go_roundw
            case rel => exact ⟨q, by omega, rfl, by rw [HE.out]; exact hown2, hbel2⟩
            case measure => simp [intOf]
theorem gcPlace_at (v : Value) (L : List Int) (x : Int) (r : Nat) (w : World) (h : Sits w v L) (hr : r < L.length) (hx : L[r] = x) (hn : ∀ i (hi : i < L.length), i < r → L[i] ≠ x) :
    Calls Tryd.prog 45 #[v, .int .i64 x] w fun e w' => e = .returned (.int .i64 (r : Int)) ∧ w = w' := by
  obtain ⟨b, off, c, rfl, hc1, hm, hb, hc⟩ := h
  have HX := hid hx
  have HN := hid hn
  clear hx hn
  go_enter Tryd.func45, Tryd.ntmps45
  go_wp2
  go_loop [5, 6, 9] (fun _ _ i => ∃ k : Nat, k ≤ r ∧ i = .int .i64 k) (fun _ _ i => L.length - (intOf i).toNat)
  case atStart => exact ⟨0, Nat.zero_le _, rfl⟩
  case round =>
    obtain ⟨k, hk, rfl⟩ := hrel
    have hlt : k < L.length := by omega
    have hcx := hc k hlt
    clear hc
    by_cases he : k = r
    · have hbb : (x == L[k]) = true := by rw [← HX.out]; subst he; simp
      have HE := hid he
      clear he
      go_wp2
      go_ret
      exact ⟨ret_int (by rw [HE.out]), rfl⟩
    · have hne : L[k] ≠ x := HN.out k hlt (by omega)
      have hbb : (x == L[k]) = false := by simpa using fun e => hne e.symm
      clear hne
      go_wp2
      go_round
      case rel => exact ⟨k + 1, by omega, by go_num⟩
      case measure => simp [intOf]; omega
theorem grayL_ne (m : Nat) : grayL m ≠ [] := by
  intro e
  have h3 := grayL_length m
  have h4 := Nat.two_pow_pos m
  rw [e, List.length_nil] at h3
  omega
/-- the index of a word in the reflected list -/
theorem gray_place {m x : Nat} (hm : m ≤ 10) (hx : x < 2 ^ m) : ∃ h : rkTo x m < (grayL m).length, (grayL m)[rkTo x m] = (x : Int) ∧ ∀ i (hi : i < (grayL m).length), i < rkTo x m → (grayL m)[i] ≠ (x : Int) := by
  obtain ⟨h1, h2⟩ := gray_rk m (by omega) x hx
  refine ⟨by rw [grayL_length]; exact h2, ?_, ?_⟩
  · simp [grayL, h1]
  · intro i hi hlt e
    rw [grayL_length] at hi
    simp only [grayL, List.getElem_map, List.getElem_range] at e
    have e2 : gray i = x := by exact_mod_cast e
    have := rk_gray m (by omega) i hi
    rw [e2] at this
    omega
def rfV (n r : Int) : Int := if bitWordB n r = true then (gray r.toNat : Int) else 0
theorem rfV_yes {n r : Int} (h : bitWordB n r = true) : rfV n r = gray r.toNat := by unfold rfV; rw [if_pos h]
theorem rfV_no {n r : Int} (h : bitWordB n r = false) : rfV n r = 0 := by unfold rfV; rw [if_neg (by rw [h]; simp)]
theorem ret_nb9 {a b : Int} {c d : Bool} (h : a = b) (h' : c = d) : Ending.returned (.tuple #[.int .i64 a, .bool c]) = .returned (.tuple #[.int .i64 b, .bool d]) := by rw [h, h']
theorem bitWordB_nat {n x : Int} (h : bitWordB n x = true) : inB n 1 10 = true ∧ ∃ m y : Nat, n = m ∧ x = y ∧ 1 ≤ m ∧ m ≤ 10 ∧ y < 2 ^ m ∧ y < 1024 := by
  simp only [bitWordB, Bool.and_eq_true] at h
  obtain ⟨m, rfl, h1, h2⟩ := pow_nat h.1
  obtain ⟨y, rfl, h3, h4⟩ := word_nat h.1 h.2
  exact ⟨h.1, m, y, rfl, rfl, h1, h2, by simpa using h3, h4⟩
theorem reflected_any (r : Nat) (w : World) (hr : r < 1048576) : Calls Tryd.prog 48 #[.int .i64 (r : Int)] w fun e w' => e = .returned (.int .i64 (gray r)) ∧ w = w' := by
  have HG : Hid (bits .xor .i64 (r : Int) ((r : Int) / 2) = (gray r : Int)) := by
    show _ = _
    rw [show (r : Int) / 2 = ((r / 2 : Nat) : Int) by omega, xor_i64 _ _ (small62 hr) (small62 (by omega))]
    rfl
  go_enter Tryd.func48, Tryd.ntmps48
  go_wp2
  go_ret
  exact ⟨ret_int HG.out, rfl⟩
def rrV (n x : Int) : Int := if bitWordB n x = true then (rkTo x.toNat n.toNat : Int) else 0
theorem rrV_yes {n x : Int} (h : bitWordB n x = true) : rrV n x = rkTo x.toNat n.toNat := by unfold rrV; rw [if_pos h]
theorem rrV_no {n x : Int} (h : bitWordB n x = false) : rrV n x = 0 := by unfold rrV; rw [if_neg (by rw [h]; simp)]
theorem rkTo_lt {x : Nat} (hx : x < 1048576) (k : Nat) : rkTo x k < 1048576 := by
  induction k with
  | zero => simp [rkTo]
  | succ k ih => exact Nat.xor_lt_two_pow (n := 20) ih (Nat.lt_of_le_of_lt (Nat.div_le_self _ _) hx)
theorem impl_ReflectedRank_any (n r : Int) (w : World) (_wn : (Lit.int .i64 n).wf = true) (_wr : (Lit.int .i64 r).wf = true) :
    Calls Tryd.prog 47 #[.int .i64 n, .int .i64 r] w fun e w' => e = .returned (.tuple #[.int .i64 (rrV n r), .bool (bitWordB n r)]) ∧ Below w.heap.size w w' := by
  by_cases hbw : bitWordB n r = true
  · have HBW := hid hbw
    have HV := hid (rrV_yes hbw)
    obtain ⟨_, m, y, rfl, rfl, hm1, hm2, hy, hy2⟩ := bitWordB_nat hbw
    clear hy
    go_enter Tryd.func47, Tryd.ntmps47
    go_wp2_with (first | (go_at_call 57; refine (isBitWord_any _ _ _).mono ?_; rintro e w' ⟨rfl, rfl⟩) | fail)
    go_loop [6, 7, 13] (fun a _ i => ∃ k : Nat, k ≤ m ∧ i = .int .i64 k ∧ a = .int .i64 (rkTo y k)) (fun _ _ i => m - (intOf i).toNat)
    case atStart => exact ⟨0, Nat.zero_le _, rfl, rfl⟩
    case round =>
      obtain ⟨k, hk, rfl, rfl⟩ := hrel
      by_cases hlt : k < m
      · have HR : Hid (bits .xor .i64 (rkTo y k : Int) ((y : Int) / 2 ^ k) = (rkTo y (k + 1) : Int)) := by
          show _ = _
          rw [show (y : Int) / 2 ^ k = ((y / 2 ^ k : Nat) : Int) by simp, xor_i64 _ _ (small62 (rkTo_lt (by omega) k)) (small62 (Nat.lt_of_le_of_lt (Nat.div_le_self _ _) (by omega)))]
          rfl
        have hmin : min k 64 = k := by omega
        go_wp2
        go_round
        case rel => exact ⟨k + 1, by omega, by go_num, by rw [← HR.out]⟩
        case measure => simp [intOf]; omega
      · obtain rfl : k = m := by omega
        go_wp2
        go_ret2
        exact ⟨ret_nb9 HV.out.symm (by first | rfl | exact HBW.out.symm), Below.refl _ _⟩
  · have hbw : bitWordB n r = false := by simpa using hbw
    have HBW := hid hbw
    have HV := hid (rrV_no hbw)
    go_enter Tryd.func47, Tryd.ntmps47
    go_wp2_with (first | (go_at_call 57; refine (isBitWord_any _ _ _).mono ?_; rintro e w' ⟨rfl, rfl⟩) | fail)
    go_ret2
    exact ⟨ret_nb9 HV.out.symm HBW.out.symm, Below.refl _ _⟩
end Go.Proofs.YteejdagnlepegaaDoor
