/- Contracts: chMissing, chExchange and spec.ExchangeOf. Conditions: the slices read as lists of at most 2^20 numbers. -/
import Derived.Test.YtkphbelgamfmnaaPerm1
import Derived.Test.YtkphbelgamfmnaaComb1
import Derived.Test.YtkphbelgamfmnaaSits
import Derived.Test.YtkphbelgamfmnaaTake
import Derived.BigQuiet
namespace Go.Proofs.Ytkphbelgamfmnaa
open Go.RowKit
set_option linter.unusedVariables false

/-- the elements of a that are not in b -/
def missL (a b : List Int) : List Int := a.filter (fun x => !hasB b x)
theorem missL_len (a b : List Int) : (missL a b).length ≤ a.length := List.length_filter_le _ _
theorem missL_no {a b : List Int} {k : Nat} (h : k < a.length) (hb : hasB b a[k] = true) : missL (a.take (k + 1)) b = missL (a.take k) b := by
  unfold missL
  rw [List.take_succ_eq_append_getElem h, List.filter_append]
  simp [hb]
theorem missL_yes {a b : List Int} {k : Nat} (h : k < a.length) (hb : hasB b a[k] = false) : missL (a.take (k + 1)) b = missL (a.take k) b ++ [a[k]] := by
  unfold missL
  rw [List.take_succ_eq_append_getElem h, List.filter_append]
  simp [hb]
set_option maxHeartbeats 1000000 in
theorem chMissing_any (v u : Value) (a b : List Int) (w : World) (h : Reads w v a) (h' : Reads w u b) (hl : a.length ≤ 1048576) :
    Calls Try.prog 75 #[v, u] w fun e w' => ∃ r, e = .returned r ∧ Own w' w.heap.size r (missL a b) ∧ Below w.heap.size w w' := by
  have HU := hid h'
  obtain ⟨i0, hi, hz0, hz1, hz2⟩ := info_parts Try.info3
  obtain ⟨ao, c, rfl, hc1, hm, h⟩ := h.view
  rcases h with h | ⟨g, off, rfl, hb, hc⟩
  · subst h
    go_enter Try.func75, Try.ntmps75
    go_wp2_with fail
    refine wp_loop_rounds 1 ?_
    rw [rounds_succ]
    go_wp2_with fail
    go_ret
    exact ⟨_, rfl, Own.nil _ _, Below.refl _ _⟩
  · have HC := hid hc
    clear hc h'
    go_enter Try.func75, Try.ntmps75
    go_wp2_with fail
    go_loopw [5, 7, 10] (fun ov _ i wr => ∃ k : Nat, k ≤ a.length ∧ i = .int .i64 k ∧ Own wr w.heap.size ov (missL (a.take k) b) ∧ Below w.heap.size w wr) (fun _ _ i _ => a.length - (intOf i).toNat)
    case atStart => exact ⟨0, Nat.zero_le _, rfl, Own.nil _ _, Below.refl _ _⟩
    case round =>
      obtain ⟨k, hk, rfl, hown, hbel⟩ := hrel
      have HO := hid hown
      have HB := hid hbel
      have HUR := hid (HU.out.below hbel)
      have hsz := hbel.size
      by_cases hlt : k < a.length
      · have hcx : wr.cell? ⟨g, off + k, none⟩ = some (.int .i64 a[k]) := (hbel.cell (by exact hb)).trans (HC.out k hlt)
        have HLEN := hid (show (missL (a.take k) b).length ≤ 1048575 by have := missL_len (a.take k) b; simp at this; omega)
        obtain ⟨x, hx⟩ : ∃ x, x = a[k] := ⟨_, rfl⟩
        rw [← hx] at hcx
        cases hh : hasB b x with
        | true =>
          have HH := hid hh
          have HN := hid (missL_no (b := b) hlt (by rw [← hx]; exact hh))
          clear hown hbel hx hh
          go_wp2_with (first | (go_at_call 47; refine (l1Has_any _ b x _ HUR.out).mono ?_; rintro e w1 ⟨rfl, rfl⟩; rw [HH.out]) | fail)
          go_roundw
          case rel => exact ⟨k + 1, by omega, by go_num, by rw [HN.out]; exact HO.out, HB.out⟩
          case measure => simp [intOf]; omega
        | false =>
          have HH := hid hh
          have HN := hid (show missL (a.take (k + 1)) b = missL (a.take k) b ++ [x] by rw [hx]; exact missL_yes (b := b) hlt (by rw [← hx]; exact hh))
          clear hown hbel hx hh
          obtain ⟨l, hl2⟩ : ∃ l, l = missL (a.take k) b := ⟨_, rfl⟩
          rw [← hl2] at HO HLEN HN
          have hln := HLEN.out
          go_wp2_with (first
            | (go_at_call 47; refine (l1Has_any _ b x _ HUR.out).mono ?_; rintro e w1 ⟨rfl, rfl⟩; rw [HH.out])
            | (at_builtin; refine wpList_append_own _ rfl _ _ 22 rfl w.heap.size 3 i0 (.int .i64 0) 1 8 Try.underlying22 hi hz0 hz1 hz2 rfl (by decide) _ _ _ rfl (World.ownsRow.alloc HO.out.row _) ⟨wr.heap.size, 0, none⟩ 1 1 [.int .i64 x] rfl rfl (fun j y hj => new_cell1 j hj) (ints_one [x]) (by unfold maxLen; omega) (by omega) (by simp; omega) ?_; intro v1 w1 hown1 hgrow1 hn1; have HO1 := hid (Own.snoc hown1); have HB1 := hid ((HB.out.alloc hsz (.cells #[.int .i64 x] 3)).grown hgrow1 (by simp; omega) (fun q hq => (World.ownsRow.lt HO.out q hq).1)); clear hown1 hgrow1 hn1)
            | fail)
          go_roundw
          case rel => exact ⟨k + 1, by omega, by go_num, by rw [HN.out]; exact HO1.out, HB1.out⟩
          case measure => simp [intOf]; omega
      · obtain rfl : k = a.length := by omega
        rw [List.take_length] at HO
        clear hown hbel
        go_wp2_with fail
        go_ret
        exact ⟨_, rfl, HO.out, HB.out⟩
/-- what is exchanged, and whether it is one element each -/
def exB (a b : List Int) : Bool := decide ((missL a b).length = 1) && decide ((missL b a).length = 1)
def exO (a b : List Int) : Int := if exB a b = true then (missL a b).getD 0 0 else 0
def exI (a b : List Int) : Int := if exB a b = true then (missL b a).getD 0 0 else 0
theorem ret_nnb3 {a b a' b' : Int} {c c' : Bool} (h1 : a = a') (h2 : b = b') (h3 : c = c') : Ending.returned (.tuple #[.int .i64 a, .int .i64 b, .bool c]) = .returned (.tuple #[.int .i64 a', .int .i64 b', .bool c']) := by rw [h1, h2, h3]
theorem Own.slice2 {w : World} {B : Nat} {v : Value} {xs : List Int} (h : Own w B v xs) : ∃ ao c, v = .slice ao xs.length c := by
  rcases h.form with ⟨rfl, rfl⟩ | ⟨g, cap, rfl, _⟩
  · exact ⟨none, 0, rfl⟩
  · exact ⟨_, _, rfl⟩
set_option maxHeartbeats 1000000 in
theorem chExchange_any (v u : Value) (a b : List Int) (w : World) (h : Reads w v a) (h' : Reads w u b) (hl : a.length ≤ 1048576) (hl' : b.length ≤ 1048576) :
    Calls Try.prog 62 #[v, u] w fun e w' => e = .returned (.tuple #[.int .i64 (exO a b), .int .i64 (exI a b), .bool (exB a b)]) ∧ Below w.heap.size w w' := by
  have HV := hid h
  have HU := hid h'
  clear h h'
  obtain ⟨p, hp⟩ : ∃ p, p = missL a b := ⟨_, rfl⟩
  obtain ⟨q, hq⟩ : ∃ q, q = missL b a := ⟨_, rfl⟩
  have HP := hid hp
  have HQ := hid hq
  have HEX := hid (show exB a b = (decide (p.length = 1) && decide (q.length = 1)) by rw [exB, ← hp, ← hq])
  have hpl : p.length ≤ 1048576 := by rw [hp]; exact Nat.le_trans (missL_len a b) hl
  have hql : q.length ≤ 1048576 := by rw [hq]; exact Nat.le_trans (missL_len b a) hl'
  clear hp hq
  by_cases h1 : p.length = 1
  · have hb1 : ((p.length : Int) != 1) = false := by simp [h1]
    by_cases h2 : q.length = 1
    · have hb2 : ((q.length : Int) != 1) = false := by simp [h2]
      obtain ⟨x, rfl⟩ := List.length_eq_one_iff.1 h1
      obtain ⟨y, rfl⟩ := List.length_eq_one_iff.1 h2
      have HE := hid (show exB a b = true by rw [HEX.out]; rfl)
      have HO := hid (show exO a b = x by rw [exO, if_pos HE.out, ← HP.out]; rfl)
      have HI := hid (show exI a b = y by rw [exI, if_pos HE.out, ← HQ.out]; rfl)
      clear h1 h2 hb1 hb2
      go_enter Try.func62, Try.ntmps62
      go_wp2_with fail
      refine (chMissing_any _ _ a b _ HV.out HU.out hl).mono ?_
      rintro e w1 ⟨r1, rfl, ho1, hb1⟩
      have HU1 := hid (HU.out.below hb1)
      have HV1 := hid (HV.out.below hb1)
      have HB1 := hid hb1
      rw [← HP.out] at ho1
      have HR1 := hid ho1
      clear ho1 hb1
      go_wp2_with fail
      refine (chMissing_any _ _ b a _ HU1.out HV1.out hl').mono ?_
      rintro e w2 ⟨r2, rfl, ho2, hb2⟩
      rw [← HQ.out] at ho2
      have ho1 := HR1.out.below hb2
      have HB2 := hid (Below_chain HB1.out hb2)
      clear hb2
      rcases ho1.form with ⟨_, hn⟩ | ⟨g1, c1, rfl, _, _, _, _, hcell1, _⟩
      · simp at hn
      rcases ho2.form with ⟨_, hn⟩ | ⟨g2, c2, rfl, _, _, _, _, hcell2, _⟩
      · simp at hn
      have hx := hcell1 0 (by simp)
      have hy := hcell2 0 (by simp)
      have hx : w2.cell? ⟨g1, 0, none⟩ = some (.int .i64 x) := hx
      have hy : w2.cell? ⟨g2, 0, none⟩ = some (.int .i64 y) := hy
      clear ho1 ho2 hcell1 hcell2
      go_wp2_with fail
      go_quiet (fail)
      go_wp2_with fail
      go_ret3
      exact ⟨ret_nnb3 HO.out.symm HI.out.symm HE.out.symm, below_drewN HB2.out _⟩
    · have hb2 : ((q.length : Int) != 1) = true := by simp; omega
      have HE := hid (show exB a b = false by rw [HEX.out, decide_eq_false h2, Bool.and_false])
      have HO := hid (show exO a b = 0 by rw [exO, if_neg (by rw [HE.out]; simp)])
      have HI := hid (show exI a b = 0 by rw [exI, if_neg (by rw [HE.out]; simp)])
      clear h1 h2
      go_enter Try.func62, Try.ntmps62
      go_wp2_with fail
      refine (chMissing_any _ _ a b _ HV.out HU.out hl).mono ?_
      rintro e w1 ⟨r1, rfl, ho1, hb1'⟩
      have HU1 := hid (HU.out.below hb1')
      have HV1 := hid (HV.out.below hb1')
      have HB1 := hid hb1'
      rw [← HP.out] at ho1
      obtain ⟨ao1, c1, rfl⟩ := ho1.slice2
      clear ho1 hb1'
      go_wp2_with fail
      refine (chMissing_any _ _ b a _ HU1.out HV1.out hl').mono ?_
      rintro e w2 ⟨r2, rfl, ho2, hb2'⟩
      rw [← HQ.out] at ho2
      obtain ⟨ao2, c2, rfl⟩ := ho2.slice2
      have HB2 := hid (Below_chain HB1.out hb2')
      clear hb2' ho2
      go_wp2_with fail
      go_ret3
      exact ⟨ret_nnb3 HO.out.symm HI.out.symm HE.out.symm, HB2.out⟩
  · have hb1 : ((p.length : Int) != 1) = true := by simp; omega
    have HE := hid (show exB a b = false by rw [HEX.out, decide_eq_false h1, Bool.false_and])
    have HO := hid (show exO a b = 0 by rw [exO, if_neg (by rw [HE.out]; simp)])
    have HI := hid (show exI a b = 0 by rw [exI, if_neg (by rw [HE.out]; simp)])
    clear h1
    go_enter Try.func62, Try.ntmps62
    go_wp2_with fail
    refine (chMissing_any _ _ a b _ HV.out HU.out hl).mono ?_
    rintro e w1 ⟨r1, rfl, ho1, hb1'⟩
    have HU1 := hid (HU.out.below hb1')
    have HV1 := hid (HV.out.below hb1')
    have HB1 := hid hb1'
    rw [← HP.out] at ho1
    obtain ⟨ao1, c1, rfl⟩ := ho1.slice2
    clear ho1 hb1'
    go_wp2_with fail
    refine (chMissing_any _ _ b a _ HU1.out HV1.out hl').mono ?_
    rintro e w2 ⟨r2, rfl, ho2, hb2'⟩
    rw [← HQ.out] at ho2
    obtain ⟨ao2, c2, rfl⟩ := ho2.slice2
    have HB2 := hid (Below_chain HB1.out hb2')
    clear hb2' ho2
    go_wp2_with fail
    go_ret3
    exact ⟨ret_nnb3 HO.out.symm HI.out.symm HE.out.symm, HB2.out⟩
end Go.Proofs.Ytkphbelgamfmnaa
