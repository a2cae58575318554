/- Contracts: both FromDeltas functions. Conditions: the slice reads as a list of at most 2^20 numbers. -/
import Derived.Test.YteejdagnlepegaaFlip
namespace Go.Proofs.Yteejdagnlepegaa
open Go.RowKit
set_option linter.unusedVariables false

/-- a word with the bit b changed -/
def fstep (s b : Int) : Int := bits .xor .i64 s (wrap64 (2 ^ min b.toNat 64))
def wordAt (s : Int) (ds : List Int) : Nat → Int
  | 0 => s
  | k + 1 => fstep (wordAt s ds k) (ds.getD k 0)
def fromL (s : Int) (ds : List Int) : List Int := (List.range (ds.length + 1)).map (wordAt s ds)
theorem fromL_length (s : Int) (ds : List Int) : (fromL s ds).length = ds.length + 1 := by simp [fromL]
theorem fromL_getD {s : Int} {ds : List Int} {k : Nat} (h : k < ds.length + 1) : (fromL s ds).getD k 0 = wordAt s ds k := by simp [fromL, h]
theorem fromL_take {s : Int} {ds : List Int} {k : Nat} (h : k < ds.length + 1) : (fromL s ds).take (k + 1) = (fromL s ds).take k ++ [wordAt s ds k] := by
  rw [List.take_succ_eq_append_getElem (by rw [fromL_length]; exact h)]
  simp [fromL]
theorem wordAt_succ {s : Int} {ds : List Int} {k : Nat} (h : k < ds.length) : wordAt s ds (k + 1) = fstep (wordAt s ds k) ds[k] := by
  rw [wordAt, getD_at h]
def fdB (n s : Int) (ds : List Int) : Bool := bitWordB n s && decide ((ds.length : Int) ≤ 1099) && belowB ds n
def fdRes (n s : Int) (ds : List Int) : List Int := if fdB n s ds = true then fromL s ds else []
theorem fdRes_yes {n s : Int} {ds : List Int} (h : fdB n s ds = true) : fdRes n s ds = fromL s ds := by unfold fdRes; rw [if_pos h]
theorem fdRes_no {n s : Int} {ds : List Int} (h : fdB n s ds = false) : fdRes n s ds = [] := by unfold fdRes; rw [if_neg (by rw [h]; simp)]
theorem bound_FromDeltas (n s : Int) (ds : List Int) : (fdRes n s ds).length ≤ 1048576 := by
  cases h : fdB n s ds with
  | false => rw [fdRes_no h]; simp
  | true =>
    rw [fdRes_yes h, fromL_length]
    simp only [fdB, Bool.and_eq_true, decide_eq_true_eq] at h
    omega
theorem rowTo_first {w : World} {g : Nat} {L : List Int} {d : Int} (hL : 0 < L.length) (hd : d = L.getD 0 0) (h : w.rowIs g 3 L.length (fun j => .int .i64 (rowTo L 0 j))) :
    (w.setCell ⟨g, 0, none⟩ (.int .i64 d)).rowIs g 3 L.length (fun j => .int .i64 (rowTo L 1 j)) := rowTo_set hL hd h
theorem rowIs_drew {w : World} {g T n : Nat} {f : Nat → Value} (h : w.rowIs g T n f) : w.drew.rowIs g T n f := by
  obtain ⟨c, hc, hs, hf⟩ := h
  exact ⟨c, hc, hs, hf⟩
theorem alloc_first (w : World) (c : Array Value) (T : TypeId) (v : Value) : (w.alloc (.cells c T)).setCell ⟨w.heap.size, 0, none⟩ v = w.alloc (.cells (c.setIfInBounds 0 v) T) :=
  World.setCell_alloc_at c T w.heap.size 0 v rfl
set_option maxRecDepth 20000 in
set_option maxHeartbeats 1000000 in
theorem impl_FromDeltas_any (n s : Int) (v : Value) (xs : List Int) (w : World) (_wn : (Lit.int .i64 n).wf = true) (_ws : (Lit.int .i64 s).wf = true) (h : Sits w v xs) (hl : xs.length ≤ 1048576) (_hwf : ∀ x ∈ xs, (Lit.int .i64 x).wf = true) :
    Calls Try.prog 12 #[.int .i64 n, .int .i64 s, v] w fun e w' => ∃ u, e = .returned (.tuple #[u, .bool (fdB n s xs)]) ∧ Own w' w.heap.size u (fdRes n s xs) ∧ Below w.heap.size w w' := by
  have HS := hid h
  obtain ⟨b, off, c, rfl, hc1, hm, hb, hc⟩ := h
  have HC := hid hc
  clear hc
  by_cases h1 : bitWordB n s = true
  · by_cases h2 : (xs.length : Int) ≤ 1099
    · have h2' : ¬ (1100 : Int) ≤ (xs.length : Int) := by omega
      by_cases h3 : belowB xs n = true
      · have HF : Hid (fdB n s xs = true) := by show fdB n s xs = true; simp [fdB, h1, h2, h3]
        have HX := hid (fdRes_yes HF.out)
        have hmk := run_make_ints (xs.length + 1) (by omega) w
        rw [show ((xs.length + 1 : Nat) : Int) = (xs.length : Int) + 1 by omega] at hmk
        have HL := hid (fromL_length s xs)
        have hM := rowTo_made (w := w) (fromL_length s xs)
        have HM := hid (rowTo_first (d := s) (by rw [HL.out]; omega) (by rw [fromL_getD (by omega)]; rfl) hM)
        have hf0 := hM.frozen 0
        obtain ⟨z0, hz0⟩ : ∃ z, (w.alloc (.cells (madeCells #[.int .i64 0] (xs.length + 1)) 3)).cell? ⟨w.heap.size, 0, none⟩ = some z := ⟨_, hM.cell (by rw [HL.out]; omega)⟩
        have HB0 := hid (((Below.refl w.heap.size w).alloc (Nat.le_refl _) (.cells (madeCells #[.int .i64 0] (xs.length + 1)) 3)).setCell (p := ⟨w.heap.size, 0, none⟩) (Nat.le_refl _) (.int .i64 s))
        have HDG : Hid (∀ i (hi : i < xs.length), 0 ≤ xs[i]) := by
          show ∀ i (hi : i < xs.length), 0 ≤ xs[i]
          intro i hi
          have h4 := (allTo_iff _ _).1 (show allTo xs.length (fun i => inB (xs.getD i 0) 0 (n - 1)) = true from h3) i hi
          have h5 := inB_iff.1 h4
          rw [getD_at hi] at h5
          exact h5.1
        clear hM
        go_enter Try.func12, Try.ntmps12
        go_wp2_with (first | (go_at_call 31; refine (isBitWord_any _ _ _).mono ?_; rintro e w' ⟨rfl, rfl⟩) | (go_at_call 32; refine (areBelow_any _ xs _ _ HS.out.reads).mono ?_; rintro e w' ⟨rfl, rfl⟩) | fail)
        clear hmk hf0 hz0
        go_loopw [9, 10, 35] (fun _ _ i wr => ∃ k : Nat, k ≤ xs.length ∧ i = .int .i64 k ∧ wr.rowIs w.heap.size 3 (fromL s xs).length (fun j => .int .i64 (rowTo (fromL s xs) (k + 1) j)) ∧ Below w.heap.size w wr) (fun _ _ i _ => xs.length - (intOf i).toNat)
        case atStart => exact ⟨0, Nat.zero_le _, rfl, by rw [← alloc_first]; exact HM.out, by rw [← alloc_first]; exact HB0.out⟩
        case round =>
          obtain ⟨k, hk, rfl, hrow, hbel⟩ := hrel
          by_cases hlt : k < xs.length
          · have hcx : wr.cell? ⟨b, off + k, none⟩ = some (.int .i64 xs[k]) := (hbel.cell (by exact hb)).trans (HC.out k hlt)
            have hf := hrow.frozen (k + 1)
            obtain ⟨z, hz⟩ : ∃ z, wr.cell? ⟨w.heap.size, k + 1, none⟩ = some z := ⟨_, hrow.cell (by rw [HL.out]; omega)⟩
            have hcy : wr.cell? ⟨w.heap.size, k, none⟩ = some (.int .i64 (wordAt s xs k)) := by
              rw [hrow.cell (by rw [HL.out]; omega), rowTo, if_pos (by omega), fromL_getD (by omega)]
            have hd0 := HDG.out k hlt
            have HW := hid (wordAt_succ (s := s) hlt)
            have HSS := hid (rowTo_set (d := fstep (wordAt s xs k) xs[k]) (by rw [HL.out]; omega) (by rw [fromL_getD (by omega), HW.out]) hrow)
            have HB := hid (hbel.setCell (p := ⟨w.heap.size, k + 1, none⟩) (Nat.le_refl _) (.int .i64 (fstep (wordAt s xs k) xs[k])))
            have q1 : IntKind.i64.wrap ((k : Int) + 1) = (k : Int) + 1 := IntWalk.i64_in _ (by omega)
            have q2 : (0 : Int) ≤ (k : Int) + 1 := by omega
            have q3 : (k : Int) + 1 < (xs.length : Int) + 1 := by omega
            have q4 : ((k : Int) + 1).toNat = k + 1 := by omega
            have q5 : (k : Int) < (xs.length : Int) + 1 := by omega
            clear hrow hbel
            go_wp2
            go_region
            all_goals
              go_wp2
              go_roundw
              case rel => exact ⟨k + 1, by omega, by go_num, rowIs_drew HSS.out, HB.out.drew⟩
              case measure => simp [intOf]; omega
          · obtain rfl : k = xs.length := by omega
            have HR := hid hrow
            clear hrow
            have HO := hid (rowTo_own (w := wr) HL.out (by omega) HR.out)
            rw [show ((xs.length + 1 : Nat)) = xs.length + 1 from rfl] at HO
            go_wp2
            go_ret2
            exact ⟨_, ret_sb7 HF.out.symm, by rw [HX.out]; exact HO.out, hbel⟩
      · have h3 : belowB xs n = false := by simpa using h3
        have HF : Hid (fdB n s xs = false) := by show fdB n s xs = false; simp [fdB, h1, h2, h3]
        have HX := hid (fdRes_no HF.out)
        go_enter Try.func12, Try.ntmps12
        go_wp2_with (first | (go_at_call 31; refine (isBitWord_any _ _ _).mono ?_; rintro e w' ⟨rfl, rfl⟩) | (go_at_call 32; refine (areBelow_any _ xs _ _ HS.out.reads).mono ?_; rintro e w' ⟨rfl, rfl⟩) | fail)
        go_ret2
        exact ⟨_, ret_sb7 HF.out.symm, by rw [HX.out]; exact Own.nil _ _, Below.refl _ _⟩
    · have h2' : (1100 : Int) ≤ (xs.length : Int) := by omega
      have HF : Hid (fdB n s xs = false) := by show fdB n s xs = false; simp [fdB, h1]; omega
      have HX := hid (fdRes_no HF.out)
      go_enter Try.func12, Try.ntmps12
      go_wp2_with (first | (go_at_call 31; refine (isBitWord_any _ _ _).mono ?_; rintro e w' ⟨rfl, rfl⟩) | fail)
      go_ret2
      exact ⟨_, ret_sb7 HF.out.symm, by rw [HX.out]; exact Own.nil _ _, Below.refl _ _⟩
  · have h1 : bitWordB n s = false := by simpa using h1
    have HF : Hid (fdB n s xs = false) := by show fdB n s xs = false; rw [fdB, h1]; rfl
    have HX := hid (fdRes_no HF.out)
    go_enter Try.func12, Try.ntmps12
    go_wp2_with (first | (go_at_call 31; refine (isBitWord_any _ _ _).mono ?_; rintro e w' ⟨rfl, rfl⟩) | fail)
    go_ret2
    exact ⟨_, ret_sb7 HF.out.symm, by rw [HX.out]; exact Own.nil _ _, Below.refl _ _⟩
set_option maxRecDepth 20000 in
set_option maxHeartbeats 1000000 in
theorem spec_FromDeltas_any (n s : Int) (v : Value) (xs : List Int) (w : World) (_wn : (Lit.int .i64 n).wf = true) (_ws : (Lit.int .i64 s).wf = true) (h : Sits w v xs) (hl : xs.length ≤ 1048576) (_hwf : ∀ x ∈ xs, (Lit.int .i64 x).wf = true) :
    Calls Try.prog 10 #[.int .i64 n, .int .i64 s, v] w fun e w' => ∃ u, e = .returned (.tuple #[u, .bool (fdB n s xs)]) ∧ Own w' w.heap.size u (fdRes n s xs) ∧ Below w.heap.size w w' := by
  have HS := hid h
  obtain ⟨b, off, c, rfl, hc1, hm, hb, hc⟩ := h
  have HC := hid hc
  clear hc
  by_cases h0 : inB n 1 10 = true
  · have HIN := hid h0
    have hn := inB_iff.1 h0
    by_cases h1 : wordB n s = true
    · have hbw : bitWordB n s = true := by rw [bitWordB, h0, h1]; rfl
      by_cases h2 : (xs.length : Int) ≤ 1099
      · have h2' : ¬ (1099 : Int) < (xs.length : Int) := by omega
        by_cases h3 : belowB xs n = true
        · have HF : Hid (fdB n s xs = true) := by show fdB n s xs = true; simp [fdB, hbw, h2, h3]
          have h3' : allTo xs.length (fun i => inB (xs.getD i 0) 0 (n - 1)) = true := h3
          have HX := hid (fdRes_yes HF.out)
          have HL := hid (fromL_length s xs)
          have HDG : Hid (∀ i (hi : i < xs.length), 0 ≤ xs[i]) := by
            show ∀ i (hi : i < xs.length), 0 ≤ xs[i]
            intro i hi
            have h4 := (allTo_iff _ _).1 (show allTo xs.length (fun i => inB (xs.getD i 0) 0 (n - 1)) = true from h3) i hi
            have h5 := inB_iff.1 h4
            rw [getD_at hi] at h5
            exact h5.1
          obtain ⟨i0, hi, hz0, hz1, hz2⟩ := info_parts Try.info3
          have HO0 : Hid (Own (w.alloc (.cells #[.int .i64 s] 3)) w.heap.size (.slice (some ⟨w.heap.size, 0, none⟩) 1 1) ((fromL s xs).take 1)) := by
            show Own _ _ _ _
            rw [show (fromL s xs).take 1 = [s] by rw [fromL_take (show 0 < xs.length + 1 by omega)]; rfl]
            exact World.ownsRow_lit w #[.int .i64 s] 1 (Nat.le_refl _) (by unfold maxLen; omega) rfl
          have HB0 := hid ((Below.refl w.heap.size w).alloc (Nat.le_refl _) (.cells #[.int .i64 s] 3))
          go_enter Try.func10, Try.ntmps10
          go_wp2_with (first | (go_at_call 28; refine (gcBits_any _ _).mono ?_; rintro e w' ⟨rfl, rfl⟩) | (go_at_call 29; refine (gcWord_any _ _ _ HIN.out).mono ?_; rintro e w' ⟨rfl, rfl⟩) | (go_at_call 30; refine (l1All_any _ xs _ _ _ HS.out).mono ?_; rintro e w' ⟨rfl, rfl⟩; rw [h3']) | fail)
          go_loopw [1, 8, 10, 36] (fun st v _ i wr => ∃ k : Nat, k ≤ xs.length ∧ i = .int .i64 k ∧ st = .int .i64 (wordAt s xs k) ∧ Own wr w.heap.size v ((fromL s xs).take (k + 1)) ∧ Below w.heap.size w wr) (fun _ _ _ i _ => xs.length - (intOf i).toNat)
          case atStart => exact ⟨0, Nat.zero_le _, rfl, rfl, HO0.out, HB0.out⟩
          case round =>
            obtain ⟨k, hk, rfl, rfl, hown, hbel⟩ := hrel
            by_cases hlt : k < xs.length
            · have hsz := hbel.size
              have hcx : wr.cell? ⟨b, off + k, none⟩ = some (.int .i64 xs[k]) := (hbel.cell (by exact hb)).trans (HC.out k hlt)
              have hd0 := HDG.out k hlt
              have HW := hid (wordAt_succ (s := s) hlt)
              have hlk : ((fromL s xs).take (k + 1)).length = k + 1 := by rw [List.length_take, HL.out]; omega
              have hir := hown.row
              rw [hlk] at hir
              have HLK := hid hlk
              have HIR := hid hir
              have HBB := hid hbel
              have HI := hid (fromL_take (s := s) (show k + 1 < xs.length + 1 by omega))
              clear hir hown hbel hlk
              go_wp2_with (at_builtin; refine wpList_append_own _ rfl _ _ 22 rfl w.heap.size 3 i0 (.int .i64 0) 1 8 Try.underlying22 hi hz0 hz1 hz2 rfl (by decide) _ _ _ rfl (World.ownsRow.alloc HIR.out _) ⟨wr.heap.size, 0, none⟩ 1 1 [.int .i64 (bits .xor .i64 (wordAt s xs k) (wrap64 (2 ^ min xs[k].toNat 64)))] rfl rfl (fun j u hj => new_cell1 j hj) (one_cell9 _ _) ?c3 ?c4 ?c5 ?_)
              case c3 => unfold maxLen; omega
              case c4 => omega
              case c5 => (try simp); omega
              intro v' w1 hown' hgrow _
              have hown2 : Own w1 w.heap.size v' ((fromL s xs).take (k + 1 + 1)) := by
                rw [HI.out, HW.out]
                refine Own.snoc ?_
                rw [HLK.out, List.map_take]
                exact hown'
              have hbel2 : Below w.heap.size w w1 := (HBB.out.alloc hsz _).grown hgrow (by simp; omega) (fun q hq => (World.ownsRow.lt HIR.out q hq).1)
              clear hown' hgrow
              go_wp2
              go_roundw
              case rel => exact ⟨k + 1, by omega, by go_num, by rw [HW.out]; rfl, hown2, hbel2⟩
              case measure => simp [intOf]; omega
            · obtain rfl : k = xs.length := by omega
              rw [List.take_of_length_le (by rw [HL.out]; omega)] at hown
              have HO := hid hown
              clear hown
              go_wp2
              go_ret2
              exact ⟨_, ret_sb7 HF.out.symm, by rw [HX.out]; exact HO.out, hbel⟩
        · have h3 : belowB xs n = false := by simpa using h3
          have h3' : allTo xs.length (fun i => inB (xs.getD i 0) 0 (n - 1)) = false := h3
          have HF : Hid (fdB n s xs = false) := by show fdB n s xs = false; simp [fdB, hbw, h2, h3]
          have HX := hid (fdRes_no HF.out)
          go_enter Try.func10, Try.ntmps10
          go_wp2_with (first | (go_at_call 28; refine (gcBits_any _ _).mono ?_; rintro e w' ⟨rfl, rfl⟩) | (go_at_call 29; refine (gcWord_any _ _ _ HIN.out).mono ?_; rintro e w' ⟨rfl, rfl⟩) | (go_at_call 30; refine (l1All_any _ xs _ _ _ HS.out).mono ?_; rintro e w' ⟨rfl, rfl⟩; rw [h3']) | fail)
          go_ret2
          exact ⟨_, ret_sb7 HF.out.symm, by rw [HX.out]; exact Own.nil _ _, Below.refl _ _⟩
      · have h2' : (1099 : Int) < (xs.length : Int) := by omega
        have HF : Hid (fdB n s xs = false) := by show fdB n s xs = false; simp [fdB, hbw]; omega
        have HX := hid (fdRes_no HF.out)
        go_enter Try.func10, Try.ntmps10
        go_wp2_with (first | (go_at_call 28; refine (gcBits_any _ _).mono ?_; rintro e w' ⟨rfl, rfl⟩) | (go_at_call 29; refine (gcWord_any _ _ _ HIN.out).mono ?_; rintro e w' ⟨rfl, rfl⟩) | fail)
        go_ret2
        exact ⟨_, ret_sb7 HF.out.symm, by rw [HX.out]; exact Own.nil _ _, Below.refl _ _⟩
    · have h1 : wordB n s = false := by simpa using h1
      have HF : Hid (fdB n s xs = false) := by show fdB n s xs = false; simp [fdB, bitWordB, h1]
      have HX := hid (fdRes_no HF.out)
      go_enter Try.func10, Try.ntmps10
      go_wp2_with (first | (go_at_call 28; refine (gcBits_any _ _).mono ?_; rintro e w' ⟨rfl, rfl⟩) | (go_at_call 29; refine (gcWord_any _ _ _ HIN.out).mono ?_; rintro e w' ⟨rfl, rfl⟩) | fail)
      go_ret2
      exact ⟨_, ret_sb7 HF.out.symm, by rw [HX.out]; exact Own.nil _ _, Below.refl _ _⟩
  · have h0 : inB n 1 10 = false := by simpa using h0
    have HF : Hid (fdB n s xs = false) := by show fdB n s xs = false; simp [fdB, bitWordB, h0]
    have HX := hid (fdRes_no HF.out)
    go_enter Try.func10, Try.ntmps10
    go_wp2_with (first | (go_at_call 28; refine (gcBits_any _ _).mono ?_; rintro e w' ⟨rfl, rfl⟩) | fail)
    go_ret2
    exact ⟨_, ret_sb7 HF.out.symm, by rw [HX.out]; exact Own.nil _ _, Below.refl _ _⟩
end Go.Proofs.Yteejdagnlepegaa
