/- Contracts: both FlipBits functions. Conditions: the slice reads as a list of at most 2^20 numbers. -/
import Derived.Test.YteejdagnlepegaaGray1
import Derived.Test.YteejdagnlepegaaTake
import Derived.Test.YteejdagnlepegaaRow
namespace Go.Proofs.Yteejdagnlepegaa
open Go.RowKit
set_option linter.unusedVariables false

def flipL (xs : List Int) (m : Int) : List Int := xs.map (fun x => bits .xor .i64 x m)
theorem flipL_length (xs : List Int) (m : Int) : (flipL xs m).length = xs.length := by simp [flipL]
theorem flipL_getD {xs : List Int} {m : Int} {k : Nat} (h : k < xs.length) : (flipL xs m).getD k 0 = bits .xor .i64 xs[k] m := by simp [flipL, h]
theorem flipL_take {xs : List Int} {m : Int} {k : Nat} (h : k < xs.length) : (flipL xs m).take (k + 1) = (flipL xs m).take k ++ [bits .xor .i64 xs[k] m] := by
  rw [List.take_succ_eq_append_getElem (by rw [flipL_length]; exact h)]
  simp [flipL]
def flB (n : Int) (xs : List Int) (m : Int) : Bool := wordsB n xs && wordB n m
def flRes (n : Int) (xs : List Int) (m : Int) : List Int := if flB n xs m = true then flipL xs m else []
theorem flRes_yes {n : Int} {xs : List Int} {m : Int} (h : flB n xs m = true) : flRes n xs m = flipL xs m := by unfold flRes; rw [if_pos h]
theorem flRes_no {n : Int} {xs : List Int} {m : Int} (h : flB n xs m = false) : flRes n xs m = [] := by unfold flRes; rw [if_neg (by rw [h]; simp)]
theorem bound_FlipBits (n : Int) (xs : List Int) (m : Int) : (flRes n xs m).length ≤ 1048576 := by
  cases h : flB n xs m with
  | false => rw [flRes_no h]; simp
  | true =>
    rw [flRes_yes h, flipL_length]
    simp only [flB, Bool.and_eq_true] at h
    have := (wordsB_iff.1 h.1).2.1
    omega
theorem impl_FlipBits_any (n : Int) (v : Value) (xs : List Int) (m : Int) (w : World) (_wn : (Lit.int .i64 n).wf = true) (h : Sits w v xs) (hl : xs.length ≤ 1048576) (_hwf : ∀ x ∈ xs, (Lit.int .i64 x).wf = true) (_wm : (Lit.int .i64 m).wf = true) :
    Calls Try.prog 17 #[.int .i64 n, v, .int .i64 m] w fun e w' => ∃ u, e = .returned (.tuple #[u, .bool (flB n xs m)]) ∧ Own w' w.heap.size u (flRes n xs m) ∧ Below w.heap.size w w' := by
  have HS := hid h
  obtain ⟨b, off, c, rfl, hc1, hm, hb, hc⟩ := h
  have HC := hid hc
  clear hc
  by_cases h1 : wordsB n xs = true
  · have hin := (wordsB_iff.1 h1).1
    by_cases h2 : wordB n m = true
    · have HF : Hid (flB n xs m = true) := by show flB n xs m = true; rw [flB, h1, h2]; rfl
      have hbw : bitWordB n m = true := by rw [bitWordB, hin, h2]; rfl
      have HX := hid (flRes_yes HF.out)
      have hmk := run_make_ints xs.length hl w
      have HM := hid (rowTo_made (w := w) (flipL_length xs m))
      have HB0 := hid ((Below.refl w.heap.size w).alloc (Nat.le_refl _) (.cells (madeCells #[.int .i64 0] xs.length) 3))
      have HL := hid (flipL_length xs m)
      go_enter Try.func17, Try.ntmps17
      go_wp2_with (first | (go_at_call 34; refine (areBitWords_any _ _ xs _ HS.out).mono ?_; rintro e w' ⟨rfl, rfl⟩) | (go_at_call 31; refine (isBitWord_any _ _ _).mono ?_; rintro e w' ⟨rfl, rfl⟩) | fail)
      clear hmk
      go_loopw [9, 10, 26] (fun _ _ i wr => ∃ k : Nat, k ≤ xs.length ∧ i = .int .i64 k ∧ wr.rowIs w.heap.size 3 (flipL xs m).length (fun j => .int .i64 (rowTo (flipL xs m) k j)) ∧ Below w.heap.size w wr) (fun _ _ i _ => xs.length - (intOf i).toNat)
      case atStart => exact ⟨0, Nat.zero_le _, rfl, HM.out, HB0.out⟩
      case round =>
        obtain ⟨k, hk, rfl, hrow, hbel⟩ := hrel
        by_cases hlt : k < xs.length
        · have hcx : wr.cell? ⟨b, off + k, none⟩ = some (.int .i64 xs[k]) := (hbel.cell (by exact hb)).trans (HC.out k hlt)
          have hf := hrow.frozen k
          obtain ⟨z, hz⟩ : ∃ z, wr.cell? ⟨w.heap.size, k, none⟩ = some z := ⟨_, hrow.cell (by rw [HL.out]; exact hlt)⟩
          have HSS := hid (rowTo_set (by rw [HL.out]; exact hlt) (flipL_getD hlt).symm hrow)
          have HB := hid (hbel.setCell (p := ⟨w.heap.size, k, none⟩) (Nat.le_refl _) (.int .i64 (bits .xor .i64 xs[k] m)))
          clear hrow hbel
          go_wp2
          go_roundw
          case rel => exact ⟨k + 1, by omega, by go_num, HSS.out, HB.out⟩
          case measure => simp [intOf]; omega
        · obtain rfl : k = xs.length := by omega
          have HR := hid hrow
          clear hrow
          go_wp2
          go_ret2
          exact ⟨_, ret_sb7 HF.out.symm, by rw [HX.out]; exact rowTo_own HL.out hl HR.out, hbel⟩
    · have h2 : wordB n m = false := by simpa using h2
      have HF : Hid (flB n xs m = false) := by show flB n xs m = false; rw [flB, h1, h2]; rfl
      have hbw : bitWordB n m = false := by rw [bitWordB, hin, h2]; rfl
      have HX := hid (flRes_no HF.out)
      go_enter Try.func17, Try.ntmps17
      go_wp2_with (first | (go_at_call 34; refine (areBitWords_any _ _ xs _ HS.out).mono ?_; rintro e w' ⟨rfl, rfl⟩) | (go_at_call 31; refine (isBitWord_any _ _ _).mono ?_; rintro e w' ⟨rfl, rfl⟩) | fail)
      go_ret2
      exact ⟨_, ret_sb7 HF.out.symm, by rw [HX.out]; exact Own.nil _ _, Below.refl _ _⟩
  · have h1 : wordsB n xs = false := by simpa using h1
    have HF : Hid (flB n xs m = false) := by show flB n xs m = false; rw [flB, h1]; rfl
    have HX := hid (flRes_no HF.out)
    go_enter Try.func17, Try.ntmps17
    go_wp2_with (first | (go_at_call 34; refine (areBitWords_any _ _ xs _ HS.out).mono ?_; rintro e w' ⟨rfl, rfl⟩) | fail)
    go_ret2
    exact ⟨_, ret_sb7 HF.out.symm, by rw [HX.out]; exact Own.nil _ _, Below.refl _ _⟩
theorem spec_FlipBits_any (n : Int) (v : Value) (xs : List Int) (m : Int) (w : World) (_wn : (Lit.int .i64 n).wf = true) (h : Sits w v xs) (hl : xs.length ≤ 1048576) (_hwf : ∀ x ∈ xs, (Lit.int .i64 x).wf = true) (_wm : (Lit.int .i64 m).wf = true) :
    Calls Try.prog 16 #[.int .i64 n, v, .int .i64 m] w fun e w' => ∃ u, e = .returned (.tuple #[u, .bool (flB n xs m)]) ∧ Own w' w.heap.size u (flRes n xs m) ∧ Below w.heap.size w w' := by
  have HS := hid h
  obtain ⟨b, off, c, rfl, hc1, hm, hb, hc⟩ := h
  have HC := hid hc
  clear hc
  by_cases h1 : wordsB n xs = true
  · have HIN := hid (wordsB_iff.1 h1).1
    by_cases h2 : wordB n m = true
    · have HF : Hid (flB n xs m = true) := by show flB n xs m = true; rw [flB, h1, h2]; rfl
      have HX := hid (flRes_yes HF.out)
      have HL := hid (flipL_length xs m)
      obtain ⟨i0, hi, hz0, hz1, hz2⟩ := info_parts Try.info3
      go_enter Try.func16, Try.ntmps16
      go_wp2_with (first | (go_at_call 33; refine (gcWords_any _ _ xs _ HS.out).mono ?_; rintro e w' ⟨rfl, rfl⟩) | (go_at_call 29; refine (gcWord_any _ _ _ HIN.out).mono ?_; rintro e w' ⟨rfl, rfl⟩) | fail)
      go_loopw [8, 10, 23] (fun v _ i wr => ∃ k : Nat, k ≤ xs.length ∧ i = .int .i64 k ∧ Own wr w.heap.size v ((flipL xs m).take k) ∧ Below w.heap.size w wr) (fun _ _ i _ => xs.length - (intOf i).toNat)
      case atStart => exact ⟨0, Nat.zero_le _, rfl, Own.nil _ _, Below.refl _ _⟩
      case round =>
        obtain ⟨k, hk, rfl, hown, hbel⟩ := hrel
        by_cases hlt : k < xs.length
        · have hsz := hbel.size
          have hcx : wr.cell? ⟨b, off + k, none⟩ = some (.int .i64 xs[k]) := (hbel.cell (by exact hb)).trans (HC.out k hlt)
          have hlk : ((flipL xs m).take k).length = k := by rw [List.length_take, HL.out]; omega
          have hir := hown.row
          rw [hlk] at hir
          have HLK := hid hlk
          have HIR := hid hir
          have HBB := hid hbel
          have HI := hid (flipL_take (m := m) hlt)
          clear hir hown hbel hlk
          go_wp2_with (at_builtin; refine wpList_append_own _ rfl _ _ 22 rfl w.heap.size 3 i0 (.int .i64 0) 1 8 Try.underlying22 hi hz0 hz1 hz2 rfl (by decide) _ _ _ rfl (World.ownsRow.alloc HIR.out _) ⟨wr.heap.size, 0, none⟩ 1 1 [.int .i64 (bits .xor .i64 xs[k] m)] rfl rfl (fun j u hj => new_cell1 j hj) (one_cell9 _ _) ?c3 ?c4 ?c5 ?_)
          case c3 => unfold maxLen; omega
          case c4 => omega
          case c5 => (try simp); omega
          intro v' w1 hown' hgrow _
          have hown2 : Own w1 w.heap.size v' ((flipL xs m).take (k + 1)) := by
            rw [HI.out]
            refine Own.snoc ?_
            rw [HLK.out, List.map_take]
            exact hown'
          have hbel2 : Below w.heap.size w w1 := (HBB.out.alloc hsz _).grown hgrow (by simp; omega) (fun q hq => (World.ownsRow.lt HIR.out q hq).1)
          clear hown' hgrow
          go_wp2
          go_roundw
          case rel => exact ⟨k + 1, by omega, by go_num, hown2, hbel2⟩
          case measure => simp [intOf]; omega
        · obtain rfl : k = xs.length := by omega
          rw [List.take_of_length_le (by rw [HL.out]; omega)] at hown
          have HO := hid hown
          clear hown
          go_wp2
          go_ret2
          exact ⟨_, ret_sb7 HF.out.symm, by rw [HX.out]; exact HO.out, hbel⟩
    · have h2 : wordB n m = false := by simpa using h2
      have HF : Hid (flB n xs m = false) := by show flB n xs m = false; rw [flB, h1, h2]; rfl
      have HX := hid (flRes_no HF.out)
      go_enter Try.func16, Try.ntmps16
      go_wp2_with (first | (go_at_call 33; refine (gcWords_any _ _ xs _ HS.out).mono ?_; rintro e w' ⟨rfl, rfl⟩) | (go_at_call 29; refine (gcWord_any _ _ _ HIN.out).mono ?_; rintro e w' ⟨rfl, rfl⟩) | fail)
      go_ret2
      exact ⟨_, ret_sb7 HF.out.symm, by rw [HX.out]; exact Own.nil _ _, Below.refl _ _⟩
  · have h1 : wordsB n xs = false := by simpa using h1
    have HF : Hid (flB n xs m = false) := by show flB n xs m = false; rw [flB, h1]; rfl
    have HX := hid (flRes_no HF.out)
    go_enter Try.func16, Try.ntmps16
    go_wp2_with (first | (go_at_call 33; refine (gcWords_any _ _ xs _ HS.out).mono ?_; rintro e w' ⟨rfl, rfl⟩) | fail)
    go_ret2
    exact ⟨_, ret_sb7 HF.out.symm, by rw [HX.out]; exact Own.nil _ _, Below.refl _ _⟩
end Go.Proofs.Yteejdagnlepegaa
