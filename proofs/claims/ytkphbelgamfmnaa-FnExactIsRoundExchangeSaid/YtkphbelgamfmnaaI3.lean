/- Contracts: isChoice, areBits, without, exchanged, impl.ExchangeOf, areCombinations. Conditions: the slices read as lists (of lists). -/
import Derived.Test.YtkphbelgamfmnaaCh5
import Derived.Test.YtkphbelgamfmnaaCh4
import Derived.Test.YtkphbelgamfmnaaCont
import Derived.Test.YtkphbelgamfmnaaColM
import Derived.Test.YtkphbelgamfmnaaSSL
namespace Go.Proofs.Ytkphbelgamfmnaa
open Go.RowKit
set_option linter.unusedVariables false

theorem isChoice_any (n k : Int) (w : World) : Calls Try.prog 64 #[.int .i64 n, .int .i64 k] w fun e w' => e = .returned (.bool (szB n k)) ∧ w = w' := by
  cases h : inB n 0 12 with
  | true =>
    have H := hid h
    have HV := hid (show szB n k = inB k 0 n by rw [szB, h]; rfl)
    clear h
    by_cases h1 : 0 ≤ k
    · by_cases h2 : k ≤ n
      · have HW := hid (show szB n k = true by rw [HV.out]; exact inB_iff.2 ⟨h1, h2⟩)
        go_enter Try.func64, Try.ntmps64
        go_wp2_with (first | (go_at_call 49; refine (isItemCount_any _ _).mono ?_; rintro e w' ⟨rfl, rfl⟩; rw [H.out]) | fail)
        go_ret
        exact ⟨ret_bool (by first | (rw [HW.out]; done) | (rw [HW.out]; simp; omega)), rfl⟩
      · have HW := hid (show szB n k = false by rw [HV.out]; exact Bool.eq_false_iff.2 (fun h => by have := inB_iff.1 h; omega))
        go_enter Try.func64, Try.ntmps64
        go_wp2_with (first | (go_at_call 49; refine (isItemCount_any _ _).mono ?_; rintro e w' ⟨rfl, rfl⟩; rw [H.out]) | fail)
        go_ret
        exact ⟨ret_bool (by first | (rw [HW.out]; done) | (rw [HW.out]; simp; omega)), rfl⟩
    · have HW := hid (show szB n k = false by rw [HV.out]; exact Bool.eq_false_iff.2 (fun h => by have := inB_iff.1 h; omega))
      go_enter Try.func64, Try.ntmps64
      go_wp2_with (first | (go_at_call 49; refine (isItemCount_any _ _).mono ?_; rintro e w' ⟨rfl, rfl⟩; rw [H.out]) | fail)
      go_ret
      exact ⟨ret_bool (by first | (rw [HW.out]; done) | (rw [HW.out]; simp; omega)), rfl⟩
  | false =>
    have H := hid h
    have HV := hid (show szB n k = false by rw [szB, h]; rfl)
    clear h
    go_enter Try.func64, Try.ntmps64
    go_wp2_with (first | (go_at_call 49; refine (isItemCount_any _ _).mono ?_; rintro e w' ⟨rfl, rfl⟩; rw [H.out]) | fail)
    go_ret
    exact ⟨ret_bool HV.out.symm, rfl⟩
set_option maxHeartbeats 1000000 in
theorem without_any (v u : Value) (a b : List Int) (w : World) (h : Reads w v a) (h' : Reads w u b) (hl : a.length ≤ 1048576) :
    Calls Try.prog 78 #[v, u] w fun e w' => ∃ r, e = .returned r ∧ Own w' w.heap.size r (missL a b) ∧ Below w.heap.size w w' := by
  have HU := hid h'
  obtain ⟨i0, hi, hz0, hz1, hz2⟩ := info_parts Try.info3
  obtain ⟨ao, c, rfl, hc1, hm, h⟩ := h.view
  obtain ⟨wm, hrun, hown0, hgrow0⟩ := run_make_own (P := Try.prog) w w.heap.size 22 3 i0 (.int .i64 0) 1 Try.underlying22 hi hz0 hz1 .i64 .i64 a.length (by rw [hz2]; omega) (by unfold maxLen; omega) (Nat.le_refl _)
  have HO0 := hid (show Own wm w.heap.size (.slice (some ⟨w.heap.size, 0, none⟩) 0 a.length) [] from hown0)
  have HB0 := hid (Below.grown (Below.refl w.heap.size w) hgrow0 (Nat.le_refl _) (fun q hq => by cases hq))
  clear hown0 hgrow0
  rcases h with h | ⟨g, off, rfl, hb, hc⟩
  · have H := hid h
    have HM := hid (show missL a b = [] by rw [h]; rfl)
    clear h
    go_enter Try.func78, Try.ntmps78
    go_wp2_with fail
    clear hrun
    go_loopw [5, 7, 13] (fun ov _ i wr => i = .int .i64 0 ∧ wr = wm ∧ ov = .slice (some ⟨w.heap.size, 0, none⟩) 0 a.length) (fun _ _ i _ => a.length - (intOf i).toNat)
    case atStart => exact ⟨rfl, rfl, rfl⟩
    case round =>
      obtain ⟨rfl, rfl, rfl⟩ := hrel
      have hlt : ¬ (0 : Int) < (a.length : Int) := by rw [H.out]; simp
      go_wp2_with fail
      go_ret
      exact ⟨_, rfl, by rw [HM.out]; exact HO0.out, HB0.out⟩
  · have HC := hid hc
    clear hc h'
    go_enter Try.func78, Try.ntmps78
    go_wp2_with fail
    clear hrun
    go_loopw [5, 7, 13] (fun ov _ i wr => ∃ k : Nat, k ≤ a.length ∧ i = .int .i64 k ∧ Own wr w.heap.size ov (missL (a.take k) b) ∧ Below w.heap.size w wr) (fun _ _ i _ => a.length - (intOf i).toNat)
    case atStart => exact ⟨0, Nat.zero_le _, rfl, HO0.out, HB0.out⟩
    case round =>
      obtain ⟨k, hk, rfl, hown, hbel⟩ := hrel
      have HO := hid hown
      have HB := hid hbel
      have HUR := hid (HU.out.below hbel)
      have hsz := hbel.size
      by_cases hlt : k < a.length
      · have hcx : wr.cell? ⟨g, off + k, none⟩ = some (.int .i64 a[k]) := (hbel.cell (by exact hb)).trans (HC.out k hlt)
        have HLEN := hid (show (missL (a.take k) b).length ≤ 1048575 by have := missL_len (a.take k) b; simp at this; omega)
        obtain ⟨x, hx⟩ : ∃ x, x = a[k] := ⟨_, rfl⟩
        rw [← hx] at hcx
        cases hh : hasB b x with
        | true =>
          have HH := hid hh
          have HN := hid (missL_no (b := b) hlt (by rw [← hx]; exact hh))
          clear hown hbel hx hh
          go_wp2_with (first | (go_at_call 81; refine (Contains_any _ b x _ HUR.out).mono ?_; rintro e w1 ⟨rfl, rfl⟩; rw [HH.out]) | fail)
          go_roundw
          case rel => exact ⟨k + 1, by omega, by go_num, by rw [HN.out]; exact HO.out, HB.out⟩
          case measure => simp [intOf]; omega
        | false =>
          have HH := hid hh
          have HN := hid (show missL (a.take (k + 1)) b = missL (a.take k) b ++ [x] by rw [hx]; exact missL_yes (b := b) hlt (by rw [← hx]; exact hh))
          clear hown hbel hx hh
          obtain ⟨l, hl2⟩ : ∃ l, l = missL (a.take k) b := ⟨_, rfl⟩
          rw [← hl2] at HO HLEN HN
          have hln := HLEN.out
          go_wp2_with (first
            | (go_at_call 81; refine (Contains_any _ b x _ HUR.out).mono ?_; rintro e w1 ⟨rfl, rfl⟩; rw [HH.out])
            | (at_builtin; refine wpList_append_own _ rfl _ _ 22 rfl w.heap.size 3 i0 (.int .i64 0) 1 8 Try.underlying22 hi hz0 hz1 hz2 rfl (by decide) _ _ _ rfl (World.ownsRow.alloc HO.out.row _) ⟨wr.heap.size, 0, none⟩ 1 1 [.int .i64 x] rfl rfl (fun j y hj => new_cell1 j hj) (ints_one [x]) (by unfold maxLen; omega) (by omega) (by simp; omega) ?_; intro v1 w1 hown1 hgrow1 hn1; have HO1 := hid (Own.snoc hown1); have HB1 := hid ((HB.out.alloc hsz (.cells #[.int .i64 x] 3)).grown hgrow1 (by simp; omega) (fun q hq => (World.ownsRow.lt HO.out q hq).1)); clear hown1 hgrow1 hn1)
            | fail)
          go_roundw
          case rel => exact ⟨k + 1, by omega, by go_num, by rw [HN.out]; exact HO1.out, HB1.out⟩
          case measure => simp [intOf]; omega
      · obtain rfl : k = a.length := by omega
        rw [List.take_length] at HO
        clear hown hbel
        go_wp2_with fail
        go_ret
        exact ⟨_, rfl, HO.out, HB.out⟩
set_option maxHeartbeats 1000000 in
theorem exchanged_any (v u : Value) (a b : List Int) (w : World) (h : Reads w v a) (h' : Reads w u b) (hl : a.length ≤ 1048576) (hl' : b.length ≤ 1048576) :
    Calls Try.prog 70 #[v, u] w fun e w' => e = .returned (.tuple #[.int .i64 (exO a b), .int .i64 (exI a b), .bool (exB a b)]) ∧ Below w.heap.size w w' := by
  have HV := hid h
  have HU := hid h'
  clear h h'
  obtain ⟨p, hp⟩ : ∃ p, p = missL a b := ⟨_, rfl⟩
  obtain ⟨q, hq⟩ : ∃ q, q = missL b a := ⟨_, rfl⟩
  have HP := hid hp
  have HQ := hid hq
  have HEX := hid (show exB a b = (decide (p.length = 1) && decide (q.length = 1)) by rw [exB, ← hp, ← hq])
  have hpl : p.length ≤ 1048576 := by rw [hp]; exact Nat.le_trans (missL_len a b) hl
  have hql : q.length ≤ 1048576 := by rw [hq]; exact Nat.le_trans (missL_len b a) hl'
  clear hp hq
  by_cases h1 : p.length = 1
  · have hb1 : ((p.length : Int) != 1) = false := by simp [h1]
    by_cases h2 : q.length = 1
    · have hb2 : ((q.length : Int) != 1) = false := by simp [h2]
      obtain ⟨x, rfl⟩ := List.length_eq_one_iff.1 h1
      obtain ⟨y, rfl⟩ := List.length_eq_one_iff.1 h2
      have HE := hid (show exB a b = true by rw [HEX.out]; rfl)
      have HO := hid (show exO a b = x by rw [exO, if_pos HE.out, ← HP.out]; rfl)
      have HI := hid (show exI a b = y by rw [exI, if_pos HE.out, ← HQ.out]; rfl)
      clear h1 h2 hb1 hb2
      go_enter Try.func70, Try.ntmps70
      go_wp2_with fail
      refine (without_any _ _ a b _ HV.out HU.out hl).mono ?_
      rintro e w1 ⟨r1, rfl, ho1, hb1⟩
      have HU1 := hid (HU.out.below hb1)
      have HV1 := hid (HV.out.below hb1)
      have HB1 := hid hb1
      rw [← HP.out] at ho1
      have HR1 := hid ho1
      clear ho1 hb1
      go_wp2_with fail
      refine (without_any _ _ b a _ HU1.out HV1.out hl').mono ?_
      rintro e w2 ⟨r2, rfl, ho2, hb2⟩
      rw [← HQ.out] at ho2
      have ho1 := HR1.out.below hb2
      have HB2 := hid (Below_chain HB1.out hb2)
      clear hb2
      rcases ho1.form with ⟨_, hn⟩ | ⟨g1, c1, rfl, _, _, _, _, hcell1, _⟩
      · simp at hn
      rcases ho2.form with ⟨_, hn⟩ | ⟨g2, c2, rfl, _, _, _, _, hcell2, _⟩
      · simp at hn
      have hx := hcell1 0 (by simp)
      have hy := hcell2 0 (by simp)
      have hx : w2.cell? ⟨g1, 0, none⟩ = some (.int .i64 x) := hx
      have hy : w2.cell? ⟨g2, 0, none⟩ = some (.int .i64 y) := hy
      clear ho1 ho2 hcell1 hcell2
      go_wp2_with fail
      go_quiet (fail)
      go_wp2_with fail
      go_ret3
      exact ⟨ret_nnb3 HO.out.symm HI.out.symm HE.out.symm, below_drewN HB2.out _⟩
    · have hb2 : ((q.length : Int) != 1) = true := by simp; omega
      have HE := hid (show exB a b = false by rw [HEX.out, decide_eq_false h2, Bool.and_false])
      have HO := hid (show exO a b = 0 by rw [exO, if_neg (by rw [HE.out]; simp)])
      have HI := hid (show exI a b = 0 by rw [exI, if_neg (by rw [HE.out]; simp)])
      clear h1 h2
      go_enter Try.func70, Try.ntmps70
      go_wp2_with fail
      refine (without_any _ _ a b _ HV.out HU.out hl).mono ?_
      rintro e w1 ⟨r1, rfl, ho1, hb1'⟩
      have HU1 := hid (HU.out.below hb1')
      have HV1 := hid (HV.out.below hb1')
      have HB1 := hid hb1'
      rw [← HP.out] at ho1
      obtain ⟨ao1, c1, rfl⟩ := ho1.slice2
      clear ho1 hb1'
      go_wp2_with fail
      refine (without_any _ _ b a _ HU1.out HV1.out hl').mono ?_
      rintro e w2 ⟨r2, rfl, ho2, hb2'⟩
      rw [← HQ.out] at ho2
      obtain ⟨ao2, c2, rfl⟩ := ho2.slice2
      have HB2 := hid (Below_chain HB1.out hb2')
      clear hb2' ho2
      go_wp2_with fail
      go_ret3
      exact ⟨ret_nnb3 HO.out.symm HI.out.symm HE.out.symm, HB2.out⟩
  · have hb1 : ((p.length : Int) != 1) = true := by simp; omega
    have HE := hid (show exB a b = false by rw [HEX.out, decide_eq_false h1, Bool.false_and])
    have HO := hid (show exO a b = 0 by rw [exO, if_neg (by rw [HE.out]; simp)])
    have HI := hid (show exI a b = 0 by rw [exI, if_neg (by rw [HE.out]; simp)])
    clear h1
    go_enter Try.func70, Try.ntmps70
    go_wp2_with fail
    refine (without_any _ _ a b _ HV.out HU.out hl).mono ?_
    rintro e w1 ⟨r1, rfl, ho1, hb1'⟩
    have HU1 := hid (HU.out.below hb1')
    have HV1 := hid (HV.out.below hb1')
    have HB1 := hid hb1'
    rw [← HP.out] at ho1
    obtain ⟨ao1, c1, rfl⟩ := ho1.slice2
    clear ho1 hb1'
    go_wp2_with fail
    refine (without_any _ _ b a _ HU1.out HV1.out hl').mono ?_
    rintro e w2 ⟨r2, rfl, ho2, hb2'⟩
    rw [← HQ.out] at ho2
    obtain ⟨ao2, c2, rfl⟩ := ho2.slice2
    have HB2 := hid (Below_chain HB1.out hb2')
    clear hb2' ho2
    go_wp2_with fail
    go_ret3
    exact ⟨ret_nnb3 HO.out.symm HI.out.symm HE.out.symm, HB2.out⟩
theorem filter_ex {a b : List Int} (hx : exB a b = true) (ha : a.Nodup) (hb : b.Nodup) : a.length = b.length := by
  simp only [exB, Bool.and_eq_true, decide_eq_true_eq] at hx
  have h1 : ∀ l m : List Int, l.length = (missL l m).length + (l.filter (fun x => hasB m x)).length := by
    intro l m
    unfold missL
    induction l with
    | nil => rfl
    | cons x t ih =>
      by_cases h : hasB m x = true
      · simp [h]; omega
      · have h : hasB m x = false := by simpa using h
        simp [h]; omega
  have h2 : ∀ l m : List Int, l.Nodup → m.Nodup → (l.filter (fun x => hasB m x)).length ≤ (m.filter (fun x => hasB l x)).length := by
    intro l m hl hm
    have hn := hl.sublist (List.filter_sublist (p := fun x => hasB m x))
    obtain ⟨L, hL⟩ : ∃ L, L = l.filter (fun x => hasB m x) := ⟨_, rfl⟩
    obtain ⟨M, hM⟩ : ∃ M, M = m.filter (fun x => hasB l x) := ⟨_, rfl⟩
    rw [← hL] at hn ⊢
    rw [← hM]
    have hs : ∀ x ∈ L, x ∈ M := fun x hx => by
      rw [hL, List.mem_filter, hasB_iff] at hx
      rw [hM, List.mem_filter, hasB_iff]
      exact ⟨hx.2, hx.1⟩
    clear hL hM
    induction L generalizing M with
    | nil => simp
    | cons x t ih =>
      rw [List.nodup_cons] at hn
      have hxm := hs x (by simp)
      have h5 := (List.perm_cons_erase hxm).length_eq
      have h6 := ih hn.2 (M.erase x) (fun y hy => (List.mem_erase_of_ne (fun e => hn.1 (by rw [← e]; exact hy))).2 (hs y (by simp [hy])))
      simp at h5 ⊢
      omega
  have h3 := h1 a b
  have h4 := h1 b a
  have h5 := h2 a b ha hb
  have h6 := h2 b a hb ha
  omega
end Go.Proofs.Ytkphbelgamfmnaa
