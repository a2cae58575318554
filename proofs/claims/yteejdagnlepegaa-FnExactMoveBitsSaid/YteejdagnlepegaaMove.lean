/- Contracts: gcMoved and both MoveBits functions. Conditions: the slices read as lists of at most 2^20 numbers. -/
import Derived.Test.YteejdagnlepegaaHalv
import Derived.Test.YteejdagnlepegaaMoveM
import Derived.Test.YteejdagnlepegaaFlip
import Derived.Test.YteejdagnlepegaaPerm2
namespace Go.Proofs.Yteejdagnlepegaa
open Go.RowKit
set_option linter.unusedVariables false

/-- The numbers of one step. -/
theorem mov_step {y : Nat} {to : List Int} (hy : y < 1024) (hp : permB to = true) (hn : to.length ≤ 10) {k : Nat} (hk : k < to.length) :
    ∃ a bb t q : Nat, to[k] = (a : Int) ∧ a < 10 ∧ q = movO y to k ∧ q < 1024 ∧ t ≤ 512 ∧ bb ≤ 1 ∧
      bits .and .i64 ((y : Int) / 2 ^ k) 1 = (bb : Int) ∧ IntKind.i64.wrap ((bb : Int) * 2 ^ a) = (t : Int) ∧
      movO y to (k + 1) = q ||| t ∧ movO y to (k + 1) = q + t ∧ movO y to (k + 1) < 1024 := by
  obtain ⟨h1, h2⟩ := permB_nat hp
  have hlt := fun i hi => (h1 i hi).1
  have h3 := h1 k hk
  have hpow : ∀ j, j ≤ 10 → 2 ^ j ≤ 1024 := by decide
  have hpow9 : ∀ j, j < 10 → 2 ^ j ≤ 512 := by decide
  have hm := movO_lt y to to.length hlt k (by omega)
  have hm2 := movO_lt y to to.length hlt (k + 1) (by omega)
  have hb := hpow to.length hn
  have ha : (to.getD k 0).toNat < 10 := by omega
  have h9 := hpow9 _ ha
  have hbb : y / 2 ^ k % 2 ≤ 1 := by omega
  have hbt : y / 2 ^ k % 2 * 2 ^ (to.getD k 0).toNat ≤ 512 := by
    have := Nat.mul_le_mul hbb h9
    omega
  refine ⟨(to.getD k 0).toNat, y / 2 ^ k % 2, y / 2 ^ k % 2 * 2 ^ (to.getD k 0).toNat, movO y to k, ?_, ha, rfl, by omega, hbt, hbb, ?_, ?_, rfl, ?_, by omega⟩
  · rw [← getD_at hk]; omega
  · rw [show (y : Int) / 2 ^ k = ((y / 2 ^ k : Nat) : Int) by simp, show (1 : Int) = ((1 : Nat) : Int) from rfl, and_i64 _ _ (small62 (Nat.lt_of_le_of_lt (Nat.div_le_self _ _) (by omega))) (by decide), nat_mask1]
  · rw [← pow_int, ← Int.natCast_mul]
    exact IntWalk.i64_in _ (by omega)
  · exact movO_add y to to.length hn hlt h2 k hk
theorem gcMoved_any (y : Nat) (v : Value) (to : List Int) (w : World) (h : Sits w v to) (hy : y < 1024) (hp : permB to = true) (hn : to.length ≤ 10) :
    Calls Try.prog 40 #[.int .i64 (y : Int), v] w fun e w' => e = .returned (.int .i64 (movO y to to.length)) ∧ w = w' := by
  obtain ⟨b, off, c, rfl, hc1, hm, hb, hc⟩ := h
  have HP := hid hp
  clear hp
  go_enter Try.func40, Try.ntmps40
  go_wp2
  go_loop [5, 6, 7, 10] (fun o _ _ i => ∃ k : Nat, k ≤ to.length ∧ i = .int .i64 k ∧ o = .int .i64 (movO y to k)) (fun _ _ _ i => to.length - (intOf i).toNat)
  case atStart => exact ⟨0, Nat.zero_le _, rfl, rfl⟩
  case round =>
    obtain ⟨k, hk, rfl, rfl⟩ := hrel
    by_cases hlt : k < to.length
    · obtain ⟨a, bb, t, q, e1, e2, e3, e4, e5, e6, e7, e8, e9, e10, e11⟩ := mov_step hy HP.out hn hlt
      have hcx := hc k hlt
      rw [e1] at hcx
      have HO := hid e10
      have HQ := hid e3
      have hk64 : min k 64 = k := by omega
      have ha64 : min a 64 = a := by omega
      have hs : IntKind.i64.wrap ((q : Int) + (t : Int)) = (q : Int) + (t : Int) := IntWalk.i64_in _ (by omega)
      rw [← e3]
      clear hc e1 e3 e9 e10 e11
      go_wp2
      go_round
      case rel => exact ⟨k + 1, by omega, by go_num, by rw [HO.out]; simp⟩
      case measure => simp [intOf]; omega
    · obtain rfl : k = to.length := by omega
      go_wp2
      go_ret
      exact ⟨rfl, rfl⟩
def movL (xs to : List Int) : List Int := xs.map (fun x => (movO x.toNat to to.length : Int))
theorem movL_length (xs to : List Int) : (movL xs to).length = xs.length := by simp [movL]
theorem movL_getD {xs to : List Int} {k : Nat} (h : k < xs.length) : (movL xs to).getD k 0 = movO xs[k].toNat to to.length := by simp [movL, h]
theorem movL_take {xs to : List Int} {k : Nat} (h : k < xs.length) : (movL xs to).take (k + 1) = (movL xs to).take k ++ [(movO xs[k].toNat to to.length : Int)] := by
  rw [List.take_succ_eq_append_getElem (by rw [movL_length]; exact h)]
  simp [movL]
def mvB (n : Int) (xs to : List Int) : Bool := wordsB n xs && permB to && decide ((to.length : Int) = n)
def mvRes (n : Int) (xs to : List Int) : List Int := if mvB n xs to = true then movL xs to else []
theorem mvRes_yes {n : Int} {xs to : List Int} (h : mvB n xs to = true) : mvRes n xs to = movL xs to := by unfold mvRes; rw [if_pos h]
theorem mvRes_no {n : Int} {xs to : List Int} (h : mvB n xs to = false) : mvRes n xs to = [] := by unfold mvRes; rw [if_neg (by rw [h]; simp)]
theorem bound_MoveBits (n : Int) (xs to : List Int) : (mvRes n xs to).length ≤ 1048576 := by
  cases h : mvB n xs to with
  | false => rw [mvRes_no h]; simp
  | true =>
    rw [mvRes_yes h, movL_length]
    simp only [mvB, Bool.and_eq_true] at h
    have := (wordsB_iff.1 h.1.1).2.1
    omega
/-- the number at i is q, before it are the made ones, behind it zeros -/
def midRow (L : List Int) (i : Nat) (q : Int) (j : Nat) : Int := if j = i then q else rowTo L i j
theorem midRow_start {w : World} {g : Nat} {L : List Int} {i : Nat} (h : w.rowIs g 3 L.length (fun j => .int .i64 (rowTo L i j))) : w.rowIs g 3 L.length (fun j => .int .i64 (midRow L i 0 j)) :=
  h.congr (fun j hj => by
    unfold midRow
    by_cases e : j = i
    · rw [if_pos e, rowTo, if_neg (by omega)]
    · rw [if_neg e])
theorem midRow_end {w : World} {g : Nat} {L : List Int} {i : Nat} {q : Int} (hq : q = L.getD i 0) (h : w.rowIs g 3 L.length (fun j => .int .i64 (midRow L i q j))) : w.rowIs g 3 L.length (fun j => .int .i64 (rowTo L (i + 1) j)) :=
  h.congr (fun j hj => by
    unfold midRow
    by_cases e : j = i
    · subst e
      rw [if_pos rfl, rowTo, if_pos (by omega), hq]
    · rw [if_neg e]
      unfold rowTo
      by_cases h1 : j < i
      · rw [if_pos h1, if_pos (by omega)]
      · rw [if_neg h1, if_neg (by omega)])
theorem midRow_set {w : World} {g : Nat} {L : List Int} {i : Nat} {q q' : Int} (h : w.rowIs g 3 L.length (fun j => .int .i64 (midRow L i q j))) :
    (w.setCell ⟨g, i, none⟩ (.int .i64 q')).rowIs g 3 L.length (fun j => .int .i64 (midRow L i q' j)) :=
  (h.set i (.int .i64 q')).congr (fun j hj => by
    unfold midRow
    by_cases e : j = i
    · rw [if_pos e, if_pos e]
    · rw [if_neg e, if_neg e, if_neg e])
theorem rowIs_drew9 {w : World} {g T n : Nat} {f : Nat → Value} (h : w.rowIs g T n f) : w.drew.rowIs g T n f := by
  obtain ⟨c, hc, hs, hf⟩ := h
  exact ⟨c, hc, hs, hf⟩
set_option maxHeartbeats 1000000 in
theorem spec_MoveBits_any (n : Int) (v : Value) (xs : List Int) (u : Value) (to : List Int) (w : World) (_wn : (Lit.int .i64 n).wf = true) (h : Sits w v xs) (hl : xs.length ≤ 1048576) (_hwf : ∀ x ∈ xs, (Lit.int .i64 x).wf = true) (h' : Sits w u to) (hl' : to.length ≤ 1048576) (_hwf' : ∀ x ∈ to, (Lit.int .i64 x).wf = true) :
    Calls Try.prog 22 #[.int .i64 n, v, u] w fun e w' => ∃ u, e = .returned (.tuple #[u, .bool (mvB n xs to)]) ∧ Own w' w.heap.size u (mvRes n xs to) ∧ Below w.heap.size w w' := by
  have HS := hid h
  have HT := hid h'
  obtain ⟨b, off, c, rfl, hc1, hm, hb, hc⟩ := h
  obtain ⟨b', off', c', rfl, hc1', hm', hb', hc'⟩ := h'
  have HC := hid hc
  clear hc hc'
  by_cases h1 : wordsB n xs = true
  · have HN := hid (inB_iff.1 (wordsB_iff.1 h1).1)
    have HSM := hid (wordsB_small h1)
    by_cases h3 : permB to = true
    · by_cases h2 : (to.length : Int) = n
      · have HF : Hid (mvB n xs to = true) := by show mvB n xs to = true; simp [mvB, h1, h2, h3]
        have hne : ((to.length : Int) != n) = false := by simp [h2]
        have HX := hid (mvRes_yes HF.out)
        have HL := hid (movL_length xs to)
        have HP := hid h3
        have hto : to.length ≤ 10 := by have := HN.out; omega
        have HH2 := hid h2
        obtain ⟨i0, hi, hz0, hz1, hz2⟩ := info_parts Try.info3
        clear h2
        go_enter Try.func22, Try.ntmps22
        go_wp2_with (first | (go_at_call 33; refine (gcWords_any _ _ xs _ HS.out).mono ?_; rintro e w' ⟨rfl, rfl⟩; rw [h1]) | (go_at_call 39; refine (raPermutation_any _ to _ HT.out.reads).mono ?_; rintro e w' ⟨rfl, rfl⟩; rw [h3]) | fail)
        go_loopw [8, 10, 28] (fun v _ i wr => ∃ k : Nat, k ≤ xs.length ∧ i = .int .i64 k ∧ Own wr w.heap.size v ((movL xs to).take k) ∧ Below w.heap.size w wr) (fun _ _ i _ => xs.length - (intOf i).toNat)
        case atStart => exact ⟨0, Nat.zero_le _, rfl, Own.nil _ _, Below.refl _ _⟩
        case round =>
          obtain ⟨k, hk, rfl, hown, hbel⟩ := hrel
          by_cases hlt : k < xs.length
          · have hsz := hbel.size
            obtain ⟨y, hy1, hy2⟩ := HSM.out k hlt
            rw [getD_at hlt] at hy1
            have hcx : wr.cell? ⟨b, off + k, none⟩ = some (.int .i64 (y : Int)) := by rw [← hy1]; exact (hbel.cell (by exact hb)).trans (HC.out k hlt)
            have hlk : ((movL xs to).take k).length = k := by rw [List.length_take, HL.out]; omega
            have hir := hown.row
            rw [hlk] at hir
            have HLK := hid hlk
            have HIR := hid hir
            have HBB := hid hbel
            have HI : Hid ((movL xs to).take (k + 1) = (movL xs to).take k ++ [(movO y to to.length : Int)]) := by
              show _ = _
              rw [movL_take hlt, hy1]; rfl
            have HTB := hid (HT.out.below hbel)
            clear hir hown hbel hlk hy1
            go_wp2_with (first | (go_at_call 40; refine (gcMoved_any y _ to _ HTB.out hy2 HP.out hto).mono ?_; rintro e w' ⟨rfl, rfl⟩) | (at_builtin; refine wpList_append_own _ rfl _ _ 22 rfl w.heap.size 3 i0 (.int .i64 0) 1 8 Try.underlying22 hi hz0 hz1 hz2 rfl (by decide) _ _ _ rfl (World.ownsRow.alloc HIR.out _) ⟨wr.heap.size, 0, none⟩ 1 1 [.int .i64 (movO y to to.length : Int)] rfl rfl (fun j u hj => new_cell1 j hj) (one_cell9 _ _) ?c3 ?c4 ?c5 ?_) | fail)
            case c3 => unfold maxLen; omega
            case c4 => omega
            case c5 => (try simp); omega
            intro v' w1 hown' hgrow _
            have hown2 : Own w1 w.heap.size v' ((movL xs to).take (k + 1)) := by
              rw [HI.out]
              refine Own.snoc ?_
              rw [HLK.out, List.map_take]
              exact hown'
            have hbel2 : Below w.heap.size w w1 := (HBB.out.alloc hsz _).grown hgrow (by simp; omega) (fun q hq => (World.ownsRow.lt HIR.out q hq).1)
            clear hown' hgrow
            go_wp2
            go_roundw
            case rel => exact ⟨k + 1, by omega, by go_num, hown2, hbel2⟩
            case measure => simp [intOf]; omega
          · obtain rfl : k = xs.length := by omega
            rw [List.take_of_length_le (by rw [HL.out]; omega)] at hown
            have HO := hid hown
            clear hown
            go_wp2
            go_ret2
            exact ⟨_, ret_sb7 HF.out.symm, by rw [HX.out]; exact HO.out, hbel⟩
      · have HF : Hid (mvB n xs to = false) := by show mvB n xs to = false; simp [mvB, h2]
        have hne : ((to.length : Int) != n) = true := by simp [h2]
        have HX := hid (mvRes_no HF.out)
        go_enter Try.func22, Try.ntmps22
        go_wp2_with (first | (go_at_call 33; refine (gcWords_any _ _ xs _ HS.out).mono ?_; rintro e w' ⟨rfl, rfl⟩; rw [h1]) | (go_at_call 39; refine (raPermutation_any _ to _ HT.out.reads).mono ?_; rintro e w' ⟨rfl, rfl⟩; rw [h3]) | fail)
        go_ret2
        exact ⟨_, ret_sb7 HF.out.symm, by rw [HX.out]; exact Own.nil _ _, Below.refl _ _⟩
    · have h3 : permB to = false := by simpa using h3
      have HF : Hid (mvB n xs to = false) := by show mvB n xs to = false; simp [mvB, h3]
      have HX := hid (mvRes_no HF.out)
      go_enter Try.func22, Try.ntmps22
      go_wp2_with (first | (go_at_call 33; refine (gcWords_any _ _ xs _ HS.out).mono ?_; rintro e w' ⟨rfl, rfl⟩; rw [h1]) | (go_at_call 39; refine (raPermutation_any _ to _ HT.out.reads).mono ?_; rintro e w' ⟨rfl, rfl⟩; rw [h3]) | fail)
      go_ret2
      exact ⟨_, ret_sb7 HF.out.symm, by rw [HX.out]; exact Own.nil _ _, Below.refl _ _⟩
  · have h1 : wordsB n xs = false := by simpa using h1
    have HF : Hid (mvB n xs to = false) := by show mvB n xs to = false; simp [mvB, h1]
    have HX := hid (mvRes_no HF.out)
    go_enter Try.func22, Try.ntmps22
    go_wp2_with (first | (go_at_call 33; refine (gcWords_any _ _ xs _ HS.out).mono ?_; rintro e w' ⟨rfl, rfl⟩; rw [h1]) | fail)
    go_ret2
    exact ⟨_, ret_sb7 HF.out.symm, by rw [HX.out]; exact Own.nil _ _, Below.refl _ _⟩
set_option maxHeartbeats 1000000 in
theorem impl_MoveBits_any (n : Int) (v : Value) (xs : List Int) (u : Value) (to : List Int) (w : World) (_wn : (Lit.int .i64 n).wf = true) (h : Sits w v xs) (hl : xs.length ≤ 1048576) (_hwf : ∀ x ∈ xs, (Lit.int .i64 x).wf = true) (h' : Sits w u to) (hl' : to.length ≤ 1048576) (_hwf' : ∀ x ∈ to, (Lit.int .i64 x).wf = true) :
    Calls Try.prog 23 #[.int .i64 n, v, u] w fun e w' => ∃ u, e = .returned (.tuple #[u, .bool (mvB n xs to)]) ∧ Own w' w.heap.size u (mvRes n xs to) ∧ Below w.heap.size w w' := by
  have HS := hid h
  have HT := hid h'
  obtain ⟨b, off, c, rfl, hc1, hm, hb, hc⟩ := h
  obtain ⟨b', off', c', rfl, hc1', hm', hb', hc'⟩ := h'
  have HC := hid hc
  have HC' := hid hc'
  clear hc hc'
  by_cases h1 : wordsB n xs = true
  · have HN := hid (inB_iff.1 (wordsB_iff.1 h1).1)
    have HSM := hid (wordsB_small h1)
    by_cases h2 : (to.length : Int) = n
    · have hne : ((to.length : Int) != n) = false := by simp [h2]
      have hto : to.length ≤ 10 := by have := HN.out; omega
      by_cases h3 : permB to = true
      · have HF : Hid (mvB n xs to = true) := by show mvB n xs to = true; simp [mvB, h1, h2, h3]
        have HX := hid (mvRes_yes HF.out)
        have HL := hid (movL_length xs to)
        have HP := hid h3
        subst h2
        go_enter Try.func23, Try.ntmps23
        have hmk := fun w0 => run_make_ints xs.length hl w0
        go_wp2_with (first | (go_at_call 34; refine (areBitWords_any _ _ xs _ HS.out).mono ?_; rintro e w' ⟨rfl, rfl⟩; rw [h1]) | (go_at_call 41; refine (impl_IsPermutation_any _ to _ HT.out.reads).mono ?_; rintro e w0 ⟨rfl, hb0⟩; have HB0 := hid hb0; clear hb0; rw [h3]) | fail)
        have hsz0 := HB0.out.size
        have HM := hid (rowTo_made (w := w0) (movL_length xs to))
        have HBS := hid (HB0.out.alloc hsz0 (.cells (madeCells #[.int .i64 0] xs.length) 3))
        clear hmk
        go_loopw [9, 10, 32] (fun _ _ i wr => ∃ k : Nat, k ≤ xs.length ∧ i = .int .i64 k ∧ wr.rowIs w0.heap.size 3 (movL xs to).length (fun j => .int .i64 (rowTo (movL xs to) k j)) ∧ Below w.heap.size w wr) (fun _ _ i _ => xs.length - (intOf i).toNat)
        case atStart => exact ⟨0, Nat.zero_le _, rfl, HM.out, HBS.out⟩
        case round =>
          obtain ⟨k, hk, rfl, hrow, hbel⟩ := hrel
          by_cases hlt : k < xs.length
          · obtain ⟨y, hy1, hy2⟩ := HSM.out k hlt
            rw [getD_at hlt] at hy1
            have hcx : wr.cell? ⟨b, off + k, none⟩ = some (.int .i64 (y : Int)) := by rw [← hy1]; exact (hbel.cell (by exact hb)).trans (HC.out k hlt)
            have HG : Hid ((movO y to to.length : Int) = (movL xs to).getD k 0) := by
              show _ = _
              rw [movL_getD hlt, hy1]; rfl
            have HMS := hid (midRow_start hrow)
            have HBB := hid hbel
            clear hrow hbel hy1
            obtain ⟨wo, rfl⟩ : ∃ wo : World, wo = wr := ⟨_, rfl⟩
            go_wp2
            go_loopw [11, 38] (fun _ i wr => ∃ j : Nat, j ≤ to.length ∧ i = .int .i64 j ∧ wr.rowIs w0.heap.size 3 (movL xs to).length (fun t => .int .i64 (midRow (movL xs to) k (movO y to j) t)) ∧ Below w.heap.size w wr) (fun _ i _ => to.length - (intOf i).toNat)
            case atStart => exact ⟨0, Nat.zero_le _, rfl, HMS.out, HBB.out⟩
            case round =>
              obtain ⟨j, hj, rfl, hrow, hbel⟩ := hrel
              by_cases hjt : j < to.length
              · obtain ⟨a, bb, t, q, e1, e2, e3, e4, e5, e6, e7, e8, e9, e10, e11⟩ := mov_step hy2 HP.out hto hjt
                have hct : wr.cell? ⟨b', off' + j, none⟩ = some (.int .i64 (a : Int)) := by rw [← e1]; exact (hbel.cell (by exact hb')).trans (HC'.out j hjt)
                have hf := hrow.frozen k
                have hcy : wr.cell? ⟨w0.heap.size, k, none⟩ = some (.int .i64 (q : Int)) := by
                  rw [hrow.cell (by rw [HL.out]; exact hlt), midRow, if_pos rfl, e3]
                have hO : bits .or .i64 (q : Int) (t : Int) = (movO y to (j + 1) : Int) := by
                  rw [or_i64 _ _ (small62 (by omega)) (small62 (by omega)), e9]
                obtain ⟨q', hq'⟩ : ∃ q', q' = movO y to (j + 1) := ⟨_, rfl⟩
                rw [← hq'] at hO
                have HSS := hid (midRow_set (q' := (q' : Int)) hrow)
                have HB := hid (hbel.setCell (p := ⟨w0.heap.size, k, none⟩) hsz0 (.int .i64 (q' : Int)))
                have HQ := hid hq'
                have hk64 : min j 64 = j := by omega
                have ha64 : min a 64 = a := by omega
                clear hrow hbel e1 e3 e9 e10 e11 hq'
                go_wp2
                go_region
                all_goals
                  go_wp2
                  go_roundw
                  case rel => exact ⟨j + 1, by omega, by go_num, by rw [← HQ.out]; exact rowIs_drew9 HSS.out, HB.out.drew⟩
                  case measure => simp [intOf]; omega
              · obtain rfl : j = to.length := by omega
                have HR := hid (midRow_end HG.out hrow)
                have HBE := hid hbel
                clear hrow hbel
                go_wp2
                go_roundw
                case rel => exact ⟨k + 1, by omega, by go_num, HR.out, HBE.out⟩
                case measure => simp [intOf]; omega
          · obtain rfl : k = xs.length := by omega
            have HR := hid hrow
            clear hrow
            go_wp2
            go_ret2
            exact ⟨_, ret_sb7 HF.out.symm, by rw [HX.out]; exact (rowTo_own HL.out hl HR.out).mono hsz0, hbel⟩
      · have h3 : permB to = false := by simpa using h3
        have HF : Hid (mvB n xs to = false) := by show mvB n xs to = false; simp [mvB, h3]
        have HX := hid (mvRes_no HF.out)
        go_enter Try.func23, Try.ntmps23
        go_wp2_with (first | (go_at_call 34; refine (areBitWords_any _ _ xs _ HS.out).mono ?_; rintro e w' ⟨rfl, rfl⟩; rw [h1]) | (go_at_call 41; refine (impl_IsPermutation_any _ to _ HT.out.reads).mono ?_; rintro e w0 ⟨rfl, hb0⟩; have HB0 := hid hb0; clear hb0; rw [h3]) | fail)
        go_ret2
        exact ⟨_, ret_sb7 HF.out.symm, by rw [HX.out]; exact Own.nil _ _, HB0.out⟩
    · have hne : ((to.length : Int) != n) = true := by simp [h2]
      have HF : Hid (mvB n xs to = false) := by show mvB n xs to = false; simp [mvB, h2]
      have HX := hid (mvRes_no HF.out)
      go_enter Try.func23, Try.ntmps23
      go_wp2_with (first | (go_at_call 34; refine (areBitWords_any _ _ xs _ HS.out).mono ?_; rintro e w' ⟨rfl, rfl⟩; rw [h1]) | fail)
      go_ret2
      exact ⟨_, ret_sb7 HF.out.symm, by rw [HX.out]; exact Own.nil _ _, Below.refl _ _⟩
  · have h1 : wordsB n xs = false := by simpa using h1
    have HF : Hid (mvB n xs to = false) := by show mvB n xs to = false; simp [mvB, h1]
    have HX := hid (mvRes_no HF.out)
    go_enter Try.func23, Try.ntmps23
    go_wp2_with (first | (go_at_call 34; refine (areBitWords_any _ _ xs _ HS.out).mono ?_; rintro e w' ⟨rfl, rfl⟩; rw [h1]) | fail)
    go_ret2
    exact ⟨_, ret_sb7 HF.out.symm, by rw [HX.out]; exact Own.nil _ _, Below.refl _ _⟩
end Go.Proofs.Yteejdagnlepegaa
