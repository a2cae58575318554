/- Contract: impl.FromInversions. Conditions: the slice reads as a list of at most 2^20 numbers. -/
import Derived.Test.YtgfafnejgbblhabFrom1
namespace Go.Proofs.Ytgfafnejgbblhab
open Go.RowKit
set_option linter.unusedVariables false

theorem takeOut_int (lo g c k : Nat) (ki : Int) (xs : List Int) (w : World) (h : Own w lo (.slice (some ⟨g, 0, none⟩) xs.length c) xs) (e : ki = (k : Int)) (hk : k < xs.length) (hl : xs.length ≤ 1048576) :
    Calls Try.prog 52 #[.slice (some ⟨g, 0, none⟩) xs.length c, .int .i64 ki] w fun e w' => e = .returned (.tuple #[.int .i64 xs[k], .slice (some ⟨g, 0, none⟩) (xs.length - 1) c]) ∧ Own w' lo (.slice (some ⟨g, 0, none⟩) (xs.length - 1) c) (xs.eraseIdx k) ∧ w.grownBy w' (some g) := by
  subst e
  exact takeOut_any lo g c k xs w h hk hl
theorem grownBy_setCell2 (w : World) (p : Addr) (u : Value) : w.grownBy (w.setCell p u) (some p.block) :=
  ⟨rfl, rfl, rfl, by simp, fun k _ hne => Below.heap_setCell w p u k (fun e => hne (by rw [e]))⟩
theorem rowIs_grown2 {w w' : World} {g n : Nat} {f : Nat → Value} {row : Option Nat} (h : w.rowIs g 3 n f) (hg : w.grownBy w' row) (hne : some g ≠ row) : w'.rowIs g 3 n f :=
  h.of_block (hg.block g h.lt hne)
def tailRow (k : Nat) (out : List Int) (j : Nat) : Int := if k ≤ j then out.getD (j - k) 0 else 0
theorem tailRow_set {w : World} {g n j : Nat} {out : List Int} {x : Int} (h : w.rowIs g 3 n (fun i => .int .i64 (tailRow (j + 1) out i))) :
    (w.setCell ⟨g, j, none⟩ (.int .i64 x)).rowIs g 3 n (fun i => .int .i64 (tailRow j (x :: out) i)) := by
  refine (h.set j (.int .i64 x)).congr (fun i hi => ?_)
  unfold tailRow
  by_cases e : i = j
  · subst e
    simp
  · rw [if_neg e]
    by_cases h1 : j + 1 ≤ i
    · rw [if_pos h1, if_pos (by omega), show i - j = (i - (j + 1)) + 1 by omega]
      simp
    · rw [if_neg h1, if_neg (by omega)]

theorem impl_FromInversions_any (v : Value) (cs : List Int) (w : World) (h : Sits w v cs) (hl : cs.length ≤ 1048576) (_hwf : ∀ n ∈ cs, (Lit.int .i64 n).wf = true) :
    Calls Try.prog 20 #[v] w fun e w' => ∃ u, e = .returned (.tuple #[u, .bool (cntB cs)]) ∧ Own w' w.heap.size u (frRes cs) ∧ Below w.heap.size w w' := by
  obtain ⟨b, off, c, rfl, hc1, hm, hb, hc⟩ := h
  have HC := hid hc
  by_cases h1 : inB (cs.length : Int) 0 12 = true
  · have h12 := (inB_iff.1 h1).2
    have H1 := hid h1
    have hmk := run_make_ints cs.length (by omega) w
    have HM := hid (World.rowIs_made w (.int .i64 0) cs.length 3)
    have HB0 := hid ((Below.refl w.heap.size w).alloc (Nat.le_refl _) (.cells (madeCells #[.int .i64 0] cs.length) 3))
    go_enter Try.func20, Try.ntmps20
    go_wp2_with (first | (go_at_call 50; refine (isItemCount_any _ _).mono ?_; rintro e w' ⟨rfl, rfl⟩) | fail)
    clear h1
    go_loop [4, 5, 15] (fun _ _ i => ∃ k : Nat, k ≤ cs.length ∧ i = .int .i64 k ∧ allTo k (cntAt cs) = true) (fun _ _ i => cs.length - (intOf i).toNat)
    case atStart => exact ⟨0, Nat.zero_le _, rfl, rfl⟩
    case round =>
      obtain ⟨k, hk, rfl, hall⟩ := hrel
      have HA := hid hall
      clear hall
      by_cases hlt : k < cs.length
      · have hcx := hc k hlt
        clear hc
        have HG := hid (show cntAt cs k = inB cs[k] 0 (k : Int) by rw [cntAt, getD_at hlt])
        by_cases h0 : cs[k] < 0
        · have HF : Hid (cntB cs = false) := hid (cntB_no hlt (by rw [HG.out]; simp [inB]; omega))
          have HX := hid (frRes_no HF.out)
          go_wp2
          go_ret2
          exact ⟨_, ret_sb4 HF.out.symm, by rw [HX.out]; exact Own.nil _ _, Below.refl _ _⟩
        · by_cases h2 : (k : Int) < cs[k]
          · have HF : Hid (cntB cs = false) := hid (cntB_no hlt (by rw [HG.out]; simp [inB]; omega))
            have HX := hid (frRes_no HF.out)
            go_wp2
            go_ret2
            exact ⟨_, ret_sb4 HF.out.symm, by rw [HX.out]; exact Own.nil _ _, Below.refl _ _⟩
          · have HN : Hid (cntAt cs k = true) := by
              show cntAt cs k = true
              rw [HG.out]; simp [inB]; omega
            go_wp2
            go_round
            case rel => exact ⟨k + 1, by omega, by go_num, allTo_next HA.out HN.out⟩
            case measure => simp [intOf]; omega
      · obtain rfl : k = cs.length := by omega
        have HF : Hid (cntB cs = true) := by
          show cntB cs = true
          rw [cntB, H1.out, HA.out]; rfl
        have HX := hid (frRes_yes HF.out)
        clear hc
        go_wp2_with (first | (go_at_call 51; refine (firstNumbers_any cs.length _ (by omega)).mono ?_; rintro e w1 ⟨rfl, hou, hb1⟩; have HOU := hid hou; have HB1 := hid hb1; clear hou hb1) | fail)
        clear hmk
        go_loopw [7, 8] (fun lv i wr => ∃ (k : Nat) (left out : List Int), k ≤ cs.length ∧ i = .int .i64 ((k : Int) - 1) ∧ left.length = k ∧ lv = .slice (some ⟨w.heap.size + 1, 0, none⟩) left.length cs.length ∧ Own wr (w.heap.size + 1) (.slice (some ⟨w.heap.size + 1, 0, none⟩) left.length cs.length) left ∧ fr cs k left out = fr cs cs.length (upTo cs.length) [] ∧ out.length + k = cs.length ∧ wr.rowIs w.heap.size 3 cs.length (fun j => .int .i64 (tailRow k out j)) ∧ Below w.heap.size w wr) (fun _ i _ => (intOf i + 1).toNat)
        case atStart =>
          have hsz : (w.alloc (.cells (madeCells #[.int .i64 0] cs.length) 3)).heap.size = w.heap.size + 1 := by simp
          have hou := HOU.out
          have hb1 := HB1.out
          rw [hsz] at hou hb1
          exact ⟨cs.length, upTo cs.length, [], Nat.le_refl _, rfl, upTo_length _, by rw [upTo_length], by rw [upTo_length]; exact hou, rfl, by simp, (HM.out.congr (fun i hi => by rw [tailRow, if_neg (by omega)])).of_block (hb1.block _ (by omega)), HB0.out.trans (hb1.mono (by omega))⟩
        case round =>
          obtain ⟨k, left, out, hk, rfl, hll, rfl, hol, hfr, hsum, hrow, hbel⟩ := hrel
          have HLL := hid hll
          have HOL := hid hol
          have HFR := hid hfr
          have HSUM := hid hsum
          have HROW := hid hrow
          have HBEL := hid hbel
          cases k with
          | zero =>
            rw [show (((0 : Nat) : Int) - 1) = -1 from rfl]
            clear hll hol hfr hsum hrow hbel
            go_wp2_with fail
            go_ret2
            have hs := HSUM.out
            have hfr2 := HFR.out
            rw [fr] at hfr2
            exact ⟨_, ret_sb4 HF.out.symm, by
              rw [HX.out, ← hfr2]
              exact Own.of_rowIs (HROW.out.congr (fun i hi => by rw [tailRow, if_pos (Nat.zero_le _), Nat.sub_zero])) (by omega) (by unfold maxLen; omega), HBEL.out⟩
          | succ j =>
            rw [show (((j + 1 : Nat) : Int) - 1) = (j : Int) from by omega]
            have hj : j < cs.length := by omega
            have hcx : wr.cell? ⟨b, off + j, none⟩ = some (.int .i64 cs[j]) := (hbel.cell (by exact hb)).trans (HC.out j hj)
            have hin2 := inB_iff.1 (show inB cs[j] 0 (j : Int) = true by have := (allTo_iff _ _).1 HA.out j hj; rwa [cntAt, getD_at hj] at this)
            obtain ⟨x, hx⟩ := Int.eq_ofNat_of_zero_le hin2.1
            have hxj : x ≤ j := by omega
            have hat : j - x < left.length := by omega
            obtain ⟨y, hy⟩ : ∃ y, y = left[j - x] := ⟨_, rfl⟩
            rw [hx] at hcx
            have HNX : Hid (fr cs j (left.eraseIdx (j - x)) (y :: out) = fr cs cs.length (upTo cs.length) []) := by
              show fr cs j (left.eraseIdx (j - x)) (y :: out) = fr cs cs.length (upTo cs.length) []
              rw [← hfr, fr, getD_at hj, hx, Int.toNat_natCast, getD_at hat, hy]
            have HTK := hid (takeOut_int (w.heap.size + 1) (w.heap.size + 1) cs.length (j - x) ((j : Int) - (x : Int)) left wr hol (by omega) hat (by omega))
            rw [← hy] at HTK
            have HEL := hid (show (left.eraseIdx (j - x)).length = left.length - 1 by rw [List.length_eraseIdx_of_lt hat])
            have HSUM2 := hid (show (y :: out).length + j = cs.length by simp; omega)
            have HEJ := hid (show (left.eraseIdx (j - x)).length = j by rw [List.length_eraseIdx_of_lt hat]; omega)
            have hblk := hrow.lt
            have hj0 : (0 : Int) ≤ (j : Int) := by omega
            have hj1 : (j : Int) < (cs.length : Int) := by omega
            clear hll hol hfr hsum hrow hbel hin2 hx hy
            go_wp2_with fail
            refine HTK.out.mono ?_
            rintro e wt ⟨rfl, hot, hgt⟩
            have hrow2 := rowIs_grown2 HROW.out hgt (by simp)
            have hfro := hrow2.frozen j
            obtain ⟨z, hz⟩ : ∃ z, wt.cell? ⟨w.heap.size, j, none⟩ = some z := ⟨_, hrow2.cell hj⟩
            have HSET := hid (tailRow_set (x := y) hrow2)
            have HOW := hid (Own.kept hot (grownBy_setCell2 wt ⟨w.heap.size, j, none⟩ (.int .i64 y)) (.inr (by simp [Value.ownBlock])))
            have HBE := hid ((HBEL.out.grown hgt HBEL.out.size (fun q hq => by cases hq; omega)).setCell (p := ⟨w.heap.size, j, none⟩) (Nat.le_refl _) (.int .i64 y))
            clear hrow2 hot hgt
            go_wp2_with fail
            go_roundw
            case rel => exact ⟨j, left.eraseIdx (j - x), y :: out, by omega, rfl, HEJ.out, by rw [HEL.out], by rw [HEL.out]; exact HOW.out, HNX.out, HSUM2.out, HSET.out, HBE.out⟩
            case measure => simp [intOf]; try omega
  · have h1 : inB (cs.length : Int) 0 12 = false := by simpa using h1
    have HF : Hid (cntB cs = false) := by
      show cntB cs = false
      rw [cntB, h1]; rfl
    have HX := hid (frRes_no HF.out)
    clear hc
    go_enter Try.func20, Try.ntmps20
    go_wp2_with (first | (go_at_call 50; refine (isItemCount_any _ _).mono ?_; rintro e w' ⟨rfl, rfl⟩) | fail)
    go_ret2
    exact ⟨_, ret_sb4 HF.out.symm, by rw [HX.out]; exact Own.nil _ _, Below.refl _ _⟩
end Go.Proofs.Ytgfafnejgbblhab
