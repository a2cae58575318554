/- Contracts: l1Least and both LeastRun functions. Conditions: the slice reads as a list of at most 2^20 numbers; the table of math/bits holds what the program's text lays. -/
import Derived.Test.YteejdagnlepegaaDoorEven
import Derived.WalkMore
namespace Go.Proofs.YteejdagnlepegaaDoor
open Go.RowKit
set_option linter.unusedVariables false

/-- r changes behind the i-th one the same bit changes -/
def hitAt (ds : List Int) (i r : Nat) : Bool := decide (ds.getD ((i + r) % ds.length) 0 = ds.getD i 0)
def noHit (ds : List Int) (r : Nat) : Bool := allTo ds.length (fun i => !hitAt ds i r)
def lrFrom (ds : List Int) : Nat → Nat → Nat
  | 0, r => r
  | f + 1, r => if noHit ds r = true then lrFrom ds f (r + 1) else r
def leastR (ds : List Int) : Nat := lrFrom ds (ds.length - 1) 1
theorem lrFrom_spec (ds : List Int) (f : Nat) : ∀ r, r ≤ lrFrom ds f r ∧ lrFrom ds f r ≤ r + f ∧ (∀ r', r ≤ r' → r' < lrFrom ds f r → noHit ds r' = true) ∧ (lrFrom ds f r = r + f ∨ noHit ds (lrFrom ds f r) = false) := by
  induction f with
  | zero => intro r; exact ⟨Nat.le_refl _, Nat.le_refl _, fun r' h1 h2 => by rw [lrFrom] at h2; omega, .inl rfl⟩
  | succ f ih =>
    intro r
    rw [lrFrom]
    by_cases h : noHit ds r = true
    · rw [if_pos h]
      obtain ⟨a, b, c, d⟩ := ih (r + 1)
      refine ⟨by omega, by omega, fun r' h1 h2 => ?_, ?_⟩
      · by_cases e : r' = r
        · rw [e]; exact h
        · exact c r' (by omega) h2
      · rcases d with d | d
        · exact .inl (by omega)
        · exact .inr d
    · rw [if_neg h]
      exact ⟨Nat.le_refl _, by omega, fun r' h1 h2 => by omega, .inr (by simpa using h)⟩
theorem leastR_eq {ds : List Int} {l : Nat} (hL : 1 ≤ ds.length) (h1 : 1 ≤ l) (h2 : l ≤ ds.length) (h3 : ∀ r', 1 ≤ r' → r' < l → noHit ds r' = true) (h4 : l = ds.length ∨ noHit ds l = false) : leastR ds = l := by
  obtain ⟨a, b, c, d⟩ := lrFrom_spec ds (ds.length - 1) 1
  have e : leastR ds = lrFrom ds (ds.length - 1) 1 := rfl
  rw [← e] at a b c d
  rcases Nat.lt_trichotomy (leastR ds) l with h | h | h
  · exfalso
    rcases d with d | d
    · omega
    · rw [h3 _ a h] at d; exact absurd d (by simp)
  · exact h
  · exfalso
    rcases h4 with h4 | h4
    · omega
    · rw [c l h1 h] at h4; exact absurd h4 (by simp)
theorem l1Least_any (a b : Int) (w : World) : Calls Tryd.prog 41 #[.int .i64 a, .int .i64 b] w fun e w' => e = .returned (.int .i64 (if a < b then a else b)) ∧ w = w' := by
  by_cases h1 : a < b
  · have HI : Hid ((if a < b then a else b) = a) := by show _ = _; rw [if_pos h1]
    go_enter Tryd.func41, Tryd.ntmps41
    go_wp2
    go_ret
    exact ⟨ret_int (by first | rfl | exact HI.out.symm), rfl⟩
  · have HI : Hid ((if a < b then a else b) = b) := by show _ = _; rw [if_neg h1]
    go_enter Tryd.func41, Tryd.ntmps41
    go_wp2
    go_ret
    exact ⟨ret_int (by first | rfl | exact HI.out.symm), rfl⟩
/-- what the outer loop of the spec knows -/
structure LRun (ds : List Int) (k l : Nat) : Prop where
  lo : 1 ≤ l
  hi : l ≤ ds.length
  no : ∀ j, j < k → ∀ r', 1 ≤ r' → r' < l → hitAt ds j r' = false
  at_ : l = ds.length ∨ ∃ j, j < ds.length ∧ hitAt ds j l = true
theorem LRun.done {ds : List Int} {l : Nat} (h : LRun ds ds.length l) : leastR ds = l := by
  refine leastR_eq (by have := h.lo; have := h.hi; omega) h.lo h.hi (fun r' h1 h2 => (allTo_iff _ _).2 (fun j hj => by rw [h.no j hj r' h1 h2]; rfl)) ?_
  rcases h.at_ with e | ⟨j, hj, e⟩
  · exact .inl e
  · exact .inr (allTo_no hj (by rw [e]; rfl))
theorem LRun.next {ds : List Int} {k l m : Nat} (h : LRun ds k l) (hk : k < ds.length) (h1 : 1 ≤ m) (h2 : m ≤ ds.length) (h3 : ∀ r', 1 ≤ r' → r' < m → hitAt ds k r' = false) (h4 : hitAt ds k m = true) : LRun ds (k + 1) (if l < m then l else m) := by
  by_cases hlt : l < m
  · rw [if_pos hlt]
    refine ⟨h.lo, h.hi, fun j hj r' a b => ?_, h.at_⟩
    by_cases e : j = k
    · rw [e]; exact h3 r' a (by omega)
    · exact h.no j (by omega) r' a b
  · rw [if_neg hlt]
    refine ⟨h1, h2, fun j hj r' a b => ?_, .inr ⟨k, hk, h4⟩⟩
    by_cases e : j = k
    · rw [e]; exact h3 r' a b
    · exact h.no j (by omega) r' a (by omega)
theorem hit_round {ds : List Int} {k : Nat} (hk : k < ds.length) : hitAt ds k ds.length = true := by
  rw [hitAt, Nat.add_mod_right, Nat.mod_eq_of_lt hk]; simp
def lrV (n : Int) (xs : List Int) : Int := if irB n xs = true then (leastR (deltasL (ringL xs)) : Int) else 0
theorem lrV_yes {n : Int} {xs : List Int} (h : irB n xs = true) : lrV n xs = (leastR (deltasL (ringL xs)) : Int) := by unfold lrV; rw [if_pos h]
theorem lrV_no {n : Int} {xs : List Int} (h : irB n xs = false) : lrV n xs = 0 := by unfold lrV; rw [if_neg (by rw [h]; simp)]
theorem ret_nb7 {a b : Int} {c d : Bool} (h : a = b) (h' : c = d) : Ending.returned (.tuple #[.int .i64 a, .bool c]) = .returned (.tuple #[.int .i64 b, .bool d]) := by rw [h, h']
set_option maxHeartbeats 2000000 in
theorem spec_LeastRun_any (n : Int) (v : Value) (xs : List Int) (w : World) (_wn : (Lit.int .i64 n).wf = true) (h : Sits w v xs) (hl : xs.length ≤ 1048576) (_hwf : ∀ x ∈ xs, (Lit.int .i64 x).wf = true) (_ht : TZ w) :
    Calls Tryd.prog 24 #[.int .i64 n, v] w fun e w' => e = .returned (.tuple #[.int .i64 (lrV n xs), .bool (irB n xs)]) ∧ Below w.heap.size w w' := by
  have HS := hid h
  clear h
  by_cases h1 : wordsB n xs = true
  · have HSM := hid (wordsB_small h1)
    have HN := hid (wordsB_iff.1 h1).1
    by_cases h2 : roundB n xs = true
    · have hir : irB n xs = true := by rw [irB, h1, h2]; rfl
      have HV := hid (lrV_yes hir)
      have HIR := hid hir
      obtain ⟨_, f1, f2, f3, f4, m, rfl, hm1, hm10⟩ := irB_facts hir
      have HDR := hid (deltasR_yes f3)
      obtain ⟨ds, hds⟩ : ∃ ds, ds = deltasL (ringL xs) := ⟨_, rfl⟩
      have HLD : Hid (ds.length = xs.length) := by show _ = _; rw [hds, deltasL_length, ringL_length]; omega
      rw [← hds] at HDR HV
      have hp : 0 < ds.length := by rw [HLD.out]; exact f1
      have hl1 : ds.length ≤ 1024 := by rw [HLD.out]; exact f2
      have HL0 : Hid (LRun ds 0 ds.length) := hid ⟨hp, Nat.le_refl _, fun j hj => absurd hj (by omega), .inl rfl⟩
      clear hds f3 f4 hir
      go_enter Tryd.func24, Tryd.ntmps24
      go_wp2_with (first
        | (go_at_call 28; refine (gcWords_any _ _ xs _ HS.out).mono ?_; rintro e w' ⟨rfl, rfl⟩; rw [h1])
        | (go_at_call 36; refine (gcRound_any _ _ xs _ HS.out HSM.out hl HN.out).mono ?_; rintro e w1 ⟨rfl, hb1⟩; rw [h2]; have HB1 := hid hb1; clear hb1)
        | (go_at_call 38; refine (gcAround_any _ xs _ (HS.out.below HB1.out) HSM.out f1 f2).mono ?_; rintro e w2 ⟨u2, rfl, ho2, hb2⟩; rw [HDR.out] at ho2; have hsit := ho2.sits_pos hp; obtain ⟨g, off, c, rfl, hc1, hmx, hgb, hc⟩ := hsit; have HC := hid hc; have HB2 := hid (Below_chain HB1.out hb2); clear ho2 hb2 hc)
        | fail)
      go_loop [7, 8, 9, 10, 27] (fun l _ _ _ i => ∃ k l' : Nat, k ≤ ds.length ∧ i = .int .i64 k ∧ l = .int .i64 l' ∧ LRun ds k l') (fun _ _ _ _ i => ds.length - (intOf i).toNat)
      case atStart => exact ⟨0, ds.length, Nat.zero_le _, rfl, rfl, HL0.out⟩
      case round =>
        obtain ⟨k, l', hk, rfl, rfl, hrun⟩ := hrel
        have HRUN := hid hrun
        clear hrun
        by_cases hlt : k < ds.length
        · have hcx := HC.out k hlt
          obtain ⟨x, hx⟩ : ∃ x, x = ds[k] := ⟨_, rfl⟩
          rw [← hx] at hcx
          have HX : Hid (ds.getD k 0 = x) := by show _ = _; rw [getD_at hlt, hx]
          clear hx
          go_wp2
          go_loop [10] (fun r => ∃ r' : Nat, 1 ≤ r' ∧ r' ≤ ds.length ∧ r = .int .i64 r' ∧ ∀ t, 1 ≤ t → t < r' → hitAt ds k t = false) (fun r => ds.length + 1 - (intOf r).toNat)
          case atStart => exact ⟨1, Nat.le_refl _, hp, rfl, fun t a b => absurd b (by omega)⟩
          case round =>
            obtain ⟨r', hr1, hr2, rfl, hno⟩ := hrel
            have HNO := hid hno
            clear hno
            obtain ⟨q, hq⟩ : ∃ q, q = (k + r') % ds.length := ⟨_, rfl⟩
            have hq1 : q < ds.length := by rw [hq]; exact Nat.mod_lt _ hp
            have hcq := HC.out q hq1
            have u1 : ((k : Int) + (r' : Int)) % (ds.length : Int) = (q : Int) := by rw [hq]; simp
            have u2 : ((k : Int) + (r' : Int)).tmod (ds.length : Int) = (q : Int) := by rw [Int.tmod_eq_emod_of_nonneg (by omega)]; exact u1
            have u3 : ((ds.length : Int) == 0) = false := beq_eq_false_iff_ne.2 (by omega)
            have u4 : (0 : Int) ≤ (q : Int) := by omega
            have u5 : (q : Int) < (ds.length : Int) := by omega
            have u6 : IntKind.i64.wrap (q : Int) = (q : Int) := IntWalk.i64_in _ (by omega)
            obtain ⟨y, hy⟩ : ∃ y, y = ds[q] := ⟨_, rfl⟩
            rw [← hy] at hcq
            have HH : Hid (hitAt ds k r' = decide (y = x)) := by
              show _ = _
              rw [hitAt, ← hq, getD_at hq1, ← hy, HX.out]
            clear hy hq
            by_cases he : y = x
            · have hbb : (y != x) = false := by simp [he]
              have HHT : Hid (hitAt ds k r' = true) := by show _ = _; rw [HH.out, decide_eq_true he]
              have HNX := hid (HRUN.out.next hlt hr1 hr2 HNO.out HHT.out)
              obtain ⟨l2, hl2⟩ : ∃ l2, l2 = (if l' < r' then l' else r') := ⟨_, rfl⟩
              have HL2 : Hid ((if (l' : Int) < (r' : Int) then (l' : Int) else (r' : Int)) = (l2 : Int)) := by
                show _ = _
                rw [hl2]
                by_cases h : l' < r'
                · rw [if_pos h, if_pos (by omega)]
                · rw [if_neg h, if_neg (by omega)]
              rw [← hl2] at HNX
              clear he hl2
              go_wp2_with (first | (go_at_call 41; refine (l1Least_any _ _ _).mono ?_; rintro e w' ⟨rfl, rfl⟩; rw [HL2.out]) | fail)
              go_round
              case rel => exact ⟨k + 1, l2, by omega, by go_num, rfl, HNX.out⟩
              case measure => simp [intOf]; omega
            · have hbb : (y != x) = true := by simp [he]
              have HHT : Hid (hitAt ds k r' = false) := by show _ = _; rw [HH.out, decide_eq_false he]
              have hrlt : r' < ds.length := by
                by_cases e : r' = ds.length
                · exfalso
                  have := hit_round hlt
                  rw [← e, HHT.out] at this
                  exact absurd this (by simp)
                · omega
              clear he
              go_wp2
              go_round
              case rel => exact ⟨r' + 1, by omega, by omega, by go_num, fun t a b => by by_cases e : t = r'; (rw [e]; exact HHT.out); exact HNO.out t a (by omega)⟩
              case measure => simp [intOf]; omega
        · obtain rfl : k = ds.length := by omega
          have HFIN := hid (HRUN.out.done)
          go_wp2
          go_ret2
          exact ⟨ret_nb7 (by rw [HV.out, HFIN.out]) HIR.out.symm, HB2.out⟩
    · have h2 : roundB n xs = false := by simpa using h2
      have hir : irB n xs = false := by rw [irB, h2]; simp
      have HV := hid (lrV_no hir)
      have HIR := hid hir
      clear hir
      go_enter Tryd.func24, Tryd.ntmps24
      go_wp2_with (first
        | (go_at_call 28; refine (gcWords_any _ _ xs _ HS.out).mono ?_; rintro e w' ⟨rfl, rfl⟩; rw [h1])
        | (go_at_call 36; refine (gcRound_any _ _ xs _ HS.out HSM.out hl HN.out).mono ?_; rintro e w1 ⟨rfl, hb1⟩; rw [h2]; have HB1 := hid hb1; clear hb1)
        | fail)
      go_ret2
      exact ⟨ret_nb7 HV.out.symm HIR.out.symm, HB1.out⟩
  · have h1 : wordsB n xs = false := by simpa using h1
    have hir : irB n xs = false := by rw [irB, h1]; rfl
    have HV := hid (lrV_no hir)
    have HIR := hid hir
    clear hir
    go_enter Tryd.func24, Tryd.ntmps24
    go_wp2_with (first | (go_at_call 28; refine (gcWords_any _ _ xs _ HS.out).mono ?_; rintro e w' ⟨rfl, rfl⟩; rw [h1]) | fail)
    go_ret2
    exact ⟨ret_nb7 HV.out.symm HIR.out.symm, Below.refl _ _⟩
set_option maxHeartbeats 2000000 in
theorem impl_LeastRun_any (n : Int) (v : Value) (xs : List Int) (w : World) (_wn : (Lit.int .i64 n).wf = true) (h : Sits w v xs) (hl : xs.length ≤ 1048576) (_hwf : ∀ x ∈ xs, (Lit.int .i64 x).wf = true) (ht : TZ w) :
    Calls Tryd.prog 25 #[.int .i64 n, v] w fun e w' => e = .returned (.tuple #[.int .i64 (lrV n xs), .bool (irB n xs)]) ∧ Below w.heap.size w w' := by
  have HS := hid h
  have HT := hid ht
  have HW := hid _hwf
  have _wn' := _wn
  clear h ht _hwf
  by_cases hir : irB n xs = true
  · have hres := irRes_yes hir
    have HV := hid (lrV_yes hir)
    have HIR := hid hir
    obtain ⟨_, f1, f2, f3, f4, m, rfl, hm1, hm10⟩ := irB_facts hir
    obtain ⟨ds, hds⟩ : ∃ ds, ds = deltasL (ringL xs) := ⟨_, rfl⟩
    have HLD : Hid (ds.length = xs.length) := by show _ = _; rw [hds, deltasL_length, ringL_length]; omega
    rw [← hds] at hres HV
    have HRES := hid hres
    have hp : 0 < ds.length := by rw [HLD.out]; exact f1
    have hl1 : ds.length ≤ 1024 := by rw [HLD.out]; exact f2
    clear hds f3 f4 hir hres
    go_enter Tryd.func25, Tryd.ntmps25
    go_wp2
    go_step3
    go_wp2_with (first
      | (go_at_call 37; refine (changesAround_any _ _ xs _ _wn' HS.out hl HW.out HT.out).mono ?_; rintro e w2 ⟨u2, rfl, ho2, hb2⟩; rw [HIR.out]; rw [HRES.out] at ho2; have hsit := ho2.sits_pos hp; obtain ⟨g, off, c, rfl, hc1, hmx, hgb, hc⟩ := hsit; have HC := hid hc; have HB2 := hid hb2; clear ho2 hb2 hc)
      | fail)
    go_step3
    go_wp2
    go_loop [8, 9, 10] (fun r _ _ => ∃ r' : Nat, 1 ≤ r' ∧ r' ≤ ds.length ∧ r = .int .i64 r' ∧ ∀ t, 1 ≤ t → t < r' → noHit ds t = true) (fun r _ _ => ds.length + 1 - (intOf r).toNat)
    case atStart => exact ⟨1, Nat.le_refl _, hp, rfl, fun t a b => absurd b (by omega)⟩
    case round =>
      obtain ⟨r', hr1, hr2, rfl, hno⟩ := hrel
      have HNO := hid hno
      clear hno
      by_cases hrl : r' < ds.length
      · go_wp2
        go_loop [9, 10, 27] (fun _ _ i => ∃ k : Nat, k ≤ ds.length ∧ i = .int .i64 k ∧ allTo k (fun j => !hitAt ds j r') = true) (fun _ _ i => ds.length - (intOf i).toNat)
        case atStart => exact ⟨0, Nat.zero_le _, rfl, rfl⟩
        case round =>
          obtain ⟨k, hk, rfl, hall⟩ := hrel
          have HA := hid hall
          clear hall
          by_cases hlt : k < ds.length
          · have hcx := HC.out k hlt
            obtain ⟨x, hx⟩ : ∃ x, x = ds[k] := ⟨_, rfl⟩
            rw [← hx] at hcx
            have HX : Hid (ds.getD k 0 = x) := by show _ = _; rw [getD_at hlt, hx]
            obtain ⟨q, hq⟩ : ∃ q, q = (k + r') % ds.length := ⟨_, rfl⟩
            have hq1 : q < ds.length := by rw [hq]; exact Nat.mod_lt _ hp
            have hcq := HC.out q hq1
            have u1 : ((k : Int) + (r' : Int)) % (ds.length : Int) = (q : Int) := by rw [hq]; simp
            have u2 : ((k : Int) + (r' : Int)).tmod (ds.length : Int) = (q : Int) := by rw [Int.tmod_eq_emod_of_nonneg (by omega)]; exact u1
            have u3 : ((ds.length : Int) == 0) = false := beq_eq_false_iff_ne.2 (by omega)
            have u4 : (0 : Int) ≤ (q : Int) := by omega
            have u5 : (q : Int) < (ds.length : Int) := by omega
            have u6 : IntKind.i64.wrap (q : Int) = (q : Int) := IntWalk.i64_in _ (by omega)
            obtain ⟨y, hy⟩ : ∃ y, y = ds[q] := ⟨_, rfl⟩
            rw [← hy] at hcq
            have HH : Hid (hitAt ds k r' = decide (y = x)) := by
              show _ = _
              rw [hitAt, ← hq, getD_at hq1, ← hy, HX.out]
            clear hy hq hx
            by_cases he : y = x
            · have hbb : (y == x) = true := by simp [he]
              have HHT : Hid (noHit ds r' = false) := by
                show _ = _
                exact allTo_no hlt (by rw [HH.out, decide_eq_true he]; rfl)
              have HFIN := hid (leastR_eq hp hr1 hr2 HNO.out (.inr HHT.out))
              clear he
              go_wp2
              (try rw [Exit.noGoto_ret])
              go_ret2
              exact ⟨ret_nb7 (by rw [HV.out, HFIN.out]) HIR.out.symm, HB2.out⟩
            · have hbb : (y == x) = false := by simp [he]
              have HN2 : Hid (allTo (k + 1) (fun j => !hitAt ds j r') = true) := by
                show _ = _
                exact allTo_next HA.out (by rw [HH.out, decide_eq_false he]; rfl)
              clear he
              go_wp2
              go_round
              case rel => exact ⟨k + 1, by omega, by go_num, HN2.out⟩
              case measure => simp [intOf]; omega
          · obtain rfl : k = ds.length := by omega
            have HN2 : Hid (noHit ds r' = true) := by show _ = _; exact HA.out
            go_wp2
            go_round
            case rel => exact ⟨r' + 1, by omega, by omega, by go_num, fun t a b => by by_cases e : t = r'; (rw [e]; exact HN2.out); exact HNO.out t a (by omega)⟩
            case measure => simp [intOf]; omega
      · obtain rfl : r' = ds.length := by omega
        have HFIN := hid (leastR_eq hp hr1 (Nat.le_refl _) HNO.out (.inl rfl))
        go_wp2
        (try rw [Exit.noGoto_ret])
        go_ret2
        exact ⟨ret_nb7 (by rw [HV.out, HFIN.out]) HIR.out.symm, HB2.out⟩
  · have hir : irB n xs = false := by simpa using hir
    have HV := hid (lrV_no hir)
    have HIR := hid hir
    clear hir
    go_enter Tryd.func25, Tryd.ntmps25
    go_wp2
    go_step3
    go_wp2_with (first
      | (go_at_call 37; refine (changesAround_any _ _ xs _ _wn' HS.out hl HW.out HT.out).mono ?_; rintro e w2 ⟨u2, rfl, ho2, hb2⟩; rw [HIR.out]; have HB2 := hid hb2; clear ho2 hb2)
      | fail)
    (try rw [Exit.noGoto_ret])
    go_ret2
    exact ⟨ret_nb7 HV.out.symm HIR.out.symm, HB2.out⟩
end Go.Proofs.YteejdagnlepegaaDoor
