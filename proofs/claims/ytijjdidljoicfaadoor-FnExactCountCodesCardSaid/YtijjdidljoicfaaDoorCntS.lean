/- Contracts: gcCount and spec.CountCodes. Conditions: none for CountCodes. -/
import Derived.Test.YtijjdidljoicfaaDoorWalkM
import Derived.Test.YtijjdidljoicfaaDoorRound
import Derived.Test.YtijjdidljoicfaaDoorTake
import Derived.BigQuiet
namespace Go.Proofs.YtijjdidljoicfaaDoor
open Go.RowKit
set_option linter.unusedVariables false

/-- the neighbour of l's last word in bit k -/
def nbX (l : List Int) (k : Nat) : Int := ((lastN l ^^^ 2 ^ k : Nat) : Int)
def gcCL (f : List Int → Int × Int) (l : List Int) : Nat → Int × Int
  | 0 => (0, 0)
  | k + 1 => if hasB l (nbX l k) = true then gcCL f l k else (wrap64 ((gcCL f l k).1 + (f (l ++ [nbX l k])).1), wrap64 ((gcCL f l k).2 + (f (l ++ [nbX l k])).2))
def gcC (n : Nat) : Nat → List Int → Int × Int
  | 0, l => (1, if roundB (n : Int) l = true then 1 else 0)
  | m + 1, l => gcCL (gcC n m) l n
theorem small_snoc {l : List Int} {x : Int} (h : small l) (h0 : 0 ≤ x) (h1 : x < 1024) : small (l ++ [x]) := fun i hi => by
  by_cases hl : i < l.length
  · obtain ⟨y, e, hy⟩ := h i hl
    exact ⟨y, by rw [← e]; simp [List.getD_eq_getElem?_getD, List.getElem?_append_left hl], hy⟩
  · have hi2 : i = l.length := by simp at hi; omega
    subst hi2
    exact ⟨x.toNat, by simp [List.getD_eq_getElem?_getD]; omega, by omega⟩
theorem ret_nn {a b c d : Int} (h : a = c) (h' : b = d) : Ending.returned (.tuple #[.int .i64 a, .int .i64 b]) = .returned (.tuple #[.int .i64 c, .int .i64 d]) := by rw [h, h']
set_option maxHeartbeats 2000000 in
theorem gcCount_any (n : Nat) (hn1 : 1 ≤ n) (hn3 : n ≤ 3) : ∀ (m : Nat) (l : List Int) (v : Value) (w : World), l.length + m = 2 ^ n → 0 < l.length → Sits w v l → small l →
    Calls Tryd.prog 26 #[.int .i64 (n : Int), v] w fun e w' => e = .returned (.tuple #[.int .i64 (gcC n m l).1, .int .i64 (gcC n m l).2]) ∧ Below w.heap.size w w' := by
  obtain ⟨p, hp⟩ : ∃ p, p = 2 ^ n := ⟨_, rfl⟩
  have hp1 := pow_le_1024 n (by omega)
  rw [← hp] at hp1 ⊢
  have hsh : IntKind.i64.wrap (2 ^ n) = (p : Int) := by
    rw [← pow_int, ← hp]
    exact IntWalk.i64_in _ (by omega)
  have hn64 : min n 64 = n := by omega
  have HP := hid hp
  clear hp
  intro m
  induction m with
  | zero =>
    intro l v w hlm hl0 hs hsm
    have hbb : ((l.length : Int) == (p : Int)) = true := by have : l.length = p := by omega
                                                            rw [this]; simp
    obtain ⟨b, off, c, hv, hc1, hm, hb, hc⟩ := hs
    have HS := hid (show Sits w v l from ⟨b, off, c, hv, hc1, hm, hb, hc⟩)
    subst hv
    have HIN := hid (show inB (n : Int) 1 10 = true from inB_iff.2 ⟨by omega, by omega⟩)
    have hl20 : l.length ≤ 1048576 := by omega
    clear hc hlm
    cases hr : roundB (n : Int) l with
    | true =>
      have HR := hid hr
      have HG := hid (show gcC n 0 l = (1, 1) by rw [gcC, if_pos hr])
      clear hr
      go_enter Tryd.func26, Tryd.ntmps26
      go_wp2_with (first | (go_at_call 42; refine (gcRound_any (n : Int) _ l _ HS.out hsm hl20 HIN.out).mono ?_; rintro e w1 ⟨rfl, hb1⟩; rw [HR.out]; have HB1 := hid hb1; clear hb1) | fail)
      go_ret2
      rw [HG.out]
      exact ⟨rfl, HB1.out⟩
    | false =>
      have HR := hid hr
      have HG := hid (show gcC n 0 l = (1, 0) by rw [gcC, if_neg (by rw [hr]; simp)])
      clear hr
      go_enter Tryd.func26, Tryd.ntmps26
      go_wp2_with (first | (go_at_call 42; refine (gcRound_any (n : Int) _ l _ HS.out hsm hl20 HIN.out).mono ?_; rintro e w1 ⟨rfl, hb1⟩; rw [HR.out]; have HB1 := hid hb1; clear hb1) | fail)
      go_ret2
      rw [HG.out]
      exact ⟨rfl, HB1.out⟩
  | succ m ih =>
    intro l v w hlm hl0 hs hsm
    obtain ⟨i0, hi, hz0, hz1, hz2⟩ := info_parts Tryd.info3
    obtain ⟨b, off, c, hv, hc1, hm, hb, hc⟩ := hs
    have HS := hid (show Sits w v l from ⟨b, off, c, hv, hc1, hm, hb, hc⟩)
    subst hv
    have hbb : ((l.length : Int) == (p : Int)) = false := beq_false_of_ne (by omega)
    have hl20 : l.length ≤ 1024 := by omega
    obtain ⟨j, hj⟩ : ∃ j : Nat, l.length = j + 1 := ⟨l.length - 1, by omega⟩
    obtain ⟨y, hy, hy2⟩ := hsm j (by omega)
    have hcj : w.cell? ⟨b, off + j, none⟩ = some (.int .i64 (y : Int)) := by
      have hjl : j < l.length := by omega
      rw [hc j hjl, ← hy, getD_at hjl]
    have HLN := hid (show lastN l = y by rw [lastN, show l.length - 1 = j by omega, hy]; rfl)
    have hj0 : (0 : Int) ≤ (j : Int) := by omega
    have hj1 : (j : Int) < (l.length : Int) := by omega
    have hww : IntKind.i64.wrap ((l.length : Int) - 1) = (j : Int) := by rw [show (l.length : Int) - 1 = (j : Int) by omega]; exact IntWalk.i64_in _ (by omega)
    have HLM := hid hlm
    have HSM := hid hsm
    have HC := hid hc
    clear hj hy hc hlm hsm
    obtain ⟨f, hf⟩ : ∃ f, f = gcC n m := ⟨_, rfl⟩
    have HG := hid (show gcC n (m + 1) l = gcCL f l n by rw [hf]; rfl)
    have HF := hid hf
    clear hf
    go_enter Tryd.func26, Tryd.ntmps26
    go_wp2_with fail
    go_loopw [6, 7, 8, 9, 10, 11] (fun a r i _ _ _ wr => ∃ (k : Nat) (A R : Int), k ≤ n ∧ i = .int .i64 k ∧ a = .int .i64 A ∧ r = .int .i64 R ∧ gcCL f l k = (A, R) ∧ Below w.heap.size w wr) (fun _ _ i _ _ _ _ => n - (intOf i).toNat)
    case atStart => exact ⟨0, 0, 0, Nat.zero_le _, rfl, rfl, rfl, rfl, Below.refl _ _⟩
    case round =>
      obtain ⟨k, A, R, hk, rfl, rfl, rfl, hAR, hbel⟩ := hrel
      have HAR := hid hAR
      have HB := hid hbel
      by_cases hlt : k < n
      · have hcx : wr.cell? ⟨b, off + j, none⟩ = some (.int .i64 (y : Int)) := (hbel.cell (by exact hb)).trans hcj
        obtain ⟨q, hq⟩ : ∃ q, q = 2 ^ k := ⟨_, rfl⟩
        have hq1 := pow_le_1024 k (by omega)
        have hq2 : 2 ^ k ≤ 2 ^ 2 := Nat.pow_le_pow_right (by decide) (by omega)
        rw [← hq] at hq1 hq2
        have hshk : IntKind.i64.wrap (2 ^ k) = (q : Int) := by
          rw [← pow_int, ← hq]
          exact IntWalk.i64_in _ (by omega)
        have hk64 : min k 64 = k := by omega
        have hxo : bits .xor .i64 (y : Int) (q : Int) = ((y ^^^ q : Nat) : Int) := xor_i64 _ _ (small62 (by omega)) (small62 (by omega))
        have hxl : y ^^^ q < 1024 := xor_lt hy2 (by omega)
        obtain ⟨x, hx⟩ : ∃ x, x = y ^^^ q := ⟨_, rfl⟩
        rw [← hx] at hxo hxl
        have HX := hid (show nbX l k = (x : Int) by rw [nbX, HLN.out, ← hq, hx])
        clear hq hx hAR hbel hcj
        cases hh : hasB l (x : Int) with
        | true =>
          have HH := hid hh
          have HN := hid (show gcCL f l (k + 1) = (A, R) by rw [gcCL, HX.out, if_pos hh]; exact HAR.out)
          clear hh
          go_wp2_with fail
          go_quiet (fail)
          go_wp2_with (first | (go_at_call 33; refine (l1Has_any _ l _ _ ((HS.out.below (below_drewN HB.out _)).reads)).mono ?_; rintro e w1 ⟨rfl, rfl⟩; rw [HH.out]) | fail)
          go_roundw
          case rel => exact ⟨k + 1, A, R, by omega, by go_num, rfl, rfl, HN.out, below_drewN HB.out _⟩
          case measure => simp [intOf]; omega
        | false =>
          have HH := hid hh
          obtain ⟨r, hr⟩ : ∃ r, r = f (l ++ [(x : Int)]) := ⟨_, rfl⟩
          obtain ⟨A1, R1⟩ := r
          have HN := hid (show gcCL f l (k + 1) = (wrap64 (A + A1), wrap64 (R + R1)) by rw [gcCL, HX.out, if_neg (by rw [hh]; simp), HAR.out, ← hr])
          have HR := hid (show gcC n m (l ++ [(x : Int)]) = (A1, R1) by rw [← HF.out]; exact hr.symm)
          have HLX := hid (show (l ++ [(x : Int)]).length + m = p by have := HLM.out; simp; omega)
          have HL0 := hid (show 0 < (l ++ [(x : Int)]).length by simp)
          have HSX := hid (small_snoc HSM.out (x := (x : Int)) (by omega) (by omega))
          clear hh hr
          go_wp2_with fail
          go_quiet (fail)
          go_wp2_with (first
            | (go_at_call 33; refine (l1Has_any _ l _ _ ((HS.out.below (below_drewN HB.out _)).reads)).mono ?_; rintro e w1 ⟨rfl, rfl⟩; rw [HH.out])
            | (go_at_call 35; refine (l1Own_any _ l _ (HS.out.below (below_drewN HB.out _)) (by omega)).mono ?_; rintro e w1 ⟨u, rfl, ho1, hb1, _⟩; have HO1 := hid (show Own w1 wr.heap.size u l from ho1); have HB1 := hid (show Below wr.heap.size wr w1 from (below_drewN (Below.refl wr.heap.size wr) _).trans hb1); have hs1 := HB1.out.size; clear ho1 hb1)
            | (at_builtin; refine wpList_append_kept _ rfl _ _ 22 rfl wr.heap.size 3 i0 (.int .i64 0) 8 Tryd.underlying22 hi hz0 hz1 hz2 rfl _ _ _ rfl (World.ownsRow.alloc HO1.out.row _) ⟨w1.heap.size, 0, none⟩ 1 (.int .i64 (x : Int)) rfl (fun j y hj => new_cell1 j hj) rfl (by unfold maxLen; omega) (by omega) (by simp; omega) ?_; intro g2 cap2 w2 hown2 hgrow2 hloc2 hlt2; have HO2 := hid (Own.snoc hown2); have HS2 := hid (Own.sits HO2.out); have HB2 := hid (((HB1.out.alloc HB1.out.size (.cells #[.int .i64 (x : Int)] 3)).grown hgrow2 (by simp; omega) (fun q hq => (World.ownsRow.lt HO1.out.row q hq).1))); have hs2 := HB2.out.size; clear hown2 hgrow2 hloc2 hlt2)
            | (go_at_call 26; refine (ih (l ++ [(x : Int)]) _ _ HLX.out HL0.out HS2.out HSX.out).mono ?_; rintro e w3 ⟨rfl, hb3⟩; rw [HR.out]; have HB3 := hid hb3; clear hb3)
            | fail)
          go_roundw
          case rel => exact ⟨k + 1, _, _, by omega, by go_num, rfl, rfl, HN.out, Below_chain HB.out (HB2.out.trans (HB3.out.mono hs2))⟩
          case measure => simp [intOf]; omega
      · obtain rfl : k = n := by omega
        go_wp2_with fail
        go_ret2
        rw [HG.out, HAR.out]
        exact ⟨rfl, HB.out⟩
end Go.Proofs.YtijjdidljoicfaaDoor
