/- Contracts: placeOfTurn, impl.TrotterAt. Conditions: none. -/
import Derived.Test.YteenmndgejeihaaTrK
import Derived.Test.YteenmndgejeihaaTrS2
import Derived.Shelf.Spec.SlicesInsert
import Derived.Shelf.Lay
import Derived.Shelf.Lays2
import Derived.Ground.Names2Prog
import Derived.Lib.LazyBuf
namespace Go.Proofs
open Go.Shelf
shelf_lay Lays2.n21 Nm2 21 at Try as Try.laysIns
end Go.Proofs
namespace Go.Proofs.Yteenmndgejeihaa
open Go.RowKit Go.Shelf
set_option linter.unusedVariables false
set_option maxRecDepth 4000


theorem shape_row {w : World} {g n : Nat} {T : TypeId} {f : Nat → Value} (h : w.rowIs g T n f) : w.shape? g = some (T, n) := by
  obtain ⟨c, hc, hs, _⟩ := h
  simp [World.shape?, hc, hs]
theorem int_one2 (l : List Int) : ∀ v ∈ l.map (Value.int .i64), v.oneCell' = true := by
  intro v hv
  obtain ⟨x, _, rfl⟩ := List.mem_map.1 hv
  rfl
theorem below_setC8 {B g : Nat} {a : World} (hb : B ≤ g) : ∀ (vs : List Value) (o : Nat) (w : World), Below B a w → Below B a (w.setCells g o vs)
  | [], _, _, h => h
  | v :: r, o, w, h => below_setC8 hb r (o + 1) _ (h.setCell (by exact hb) v)
theorem insT_get {l : List Int} {p j : Nat} {x : Int} (hp : p ≤ l.length) : (insT l p x).getD j 0 = if j < p then l.getD j 0 else if j = p then x else l.getD (j - 1) 0 := by
  unfold insT
  simp only [List.getD_eq_getElem?_getD]
  by_cases h1 : j < p
  · rw [if_pos h1, List.getElem?_append_left (by simp; omega), List.getElem?_take, if_pos h1]
  · rw [if_neg h1, List.getElem?_append_right (by simp; omega), List.length_take, Nat.min_eq_left hp]
    by_cases h2 : j = p
    · subst h2
      rw [if_pos rfl, Nat.sub_self]
      rfl
    · rw [if_neg h2]
      obtain ⟨d, rfl⟩ : ∃ d, j = p + (d + 1) := ⟨j - p - 1, by omega⟩
      rw [show p + (d + 1) - p = d + 1 by omega, List.getElem?_cons_succ, List.getElem?_drop, show p + (d + 1) - 1 = p + d by omega]
theorem ins_end {W w' : World} {g N p : Nat} {f : Nat → Value} {l : List Int} (hl : l.length = p) (h : W.rowIs g 3 N f) (hpre : ∀ j, j < p → f j = .int .i64 (l.getD j 0)) (hw : w' = W.setCells g (0 + p) [.int .i64 (p : Int)]) :
    ∃ f', w'.rowIs g 3 N f' ∧ ∀ j, j < p + 1 → f' j = .int .i64 ((insT l p (p : Int)).getD j 0) := by
  subst hw
  refine ⟨_, rowIs_setCells _ _ _ _ h, fun j hj => ?_⟩
  rw [insT_get (by omega)]
  simp only [List.length_cons, List.length_nil, Nat.zero_add]
  by_cases e : j = p
  · subst e
    rw [if_pos (by omega), if_neg (by omega), if_pos rfl, Nat.sub_self]
    rfl
  · rw [if_neg (by omega), if_pos (by omega)]
    exact hpre j (by omega)
theorem ins_mid {W w' : World} {g N k p : Nat} {x : Int} {f : Nat → Value} {l : List Int} (hl : l.length = k) (hp : p < k) (h : W.rowIs g 3 N f) (hpre : ∀ j, j < k → f j = .int .i64 (l.getD j 0))
    (hw : w' = (W.drew.setCells g (0 + (p + 1)) ((l.map (Value.int .i64)).drop p)).setCells g (0 + p) [.int .i64 x]) :
    ∃ f', w'.rowIs g 3 N f' ∧ ∀ j, j < k + 1 → f' j = .int .i64 ((insT l p x).getD j 0) := by
  subst hw
  refine ⟨_, rowIs_setCells _ _ _ _ (rowIs_setCells _ _ _ _ (World.rowIs.drew h)), fun j hj => ?_⟩
  rw [insT_get (by omega)]
  simp only [List.length_cons, List.length_nil, Nat.zero_add, List.length_drop, List.length_map]
  by_cases e : j = p
  · subst e
    rw [if_pos (by omega), if_neg (by omega), if_pos rfl, Nat.sub_self]
    rfl
  · rw [if_neg (by omega)]
    by_cases h1 : j < p
    · rw [if_neg (by omega), if_pos h1]
      exact hpre j (by omega)
    · rw [if_pos (by omega), if_neg h1, if_neg e, List.getElem?_drop, List.getElem?_map, show p + (j - (p + 1)) = j - 1 by omega, List.getElem?_eq_getElem (show j - 1 < l.length by omega)]
      rw [getD_at (show j - 1 < l.length by omega)]
      rfl
theorem placeOfTurn_any (x r t : Nat) (w : World) (hx : x ≤ 1000) (ht : t ≤ x) :
    Calls Try.prog 68 #[.int .i64 (x : Int), .int .i64 (r : Int), .int .i64 (t : Int)] w fun e w' => e = .returned (.int .i64 (potN x r t : Int)) ∧ w = w' := by
  by_cases h : r % 2 = 0
  · have hp : (r : Int) % 2 = 0 := by omega
    have HV := hid (show (potN x r t : Int) = (x : Int) - (t : Int) by unfold potN; rw [if_pos h]; omega)
    have hw : IntKind.i64.wrap ((x : Int) - (t : Int)) = (x : Int) - (t : Int) := IntWalk.i64_in _ (by omega)
    clear h
    go_enter Try.func68, Try.ntmps68
    go_wp2_with fail
    go_ret
    exact ⟨ret_int HV.out.symm, rfl⟩
  · have hp : (r : Int) % 2 = 1 := by omega
    have HV := hid (show (potN x r t : Int) = (t : Int) by unfold potN; rw [if_neg h])
    clear h
    go_enter Try.func68, Try.ntmps68
    go_wp2_with fail
    go_ret
    exact ⟨ret_int HV.out.symm, rfl⟩
theorem run_make0 (n : Nat) (hn : n ≤ 12) (w : World) : Sem.run Try.prog (Instr.makeSlice 22 (.int .i64 0) (.int .i64 (n : Int))) w = .ok (.slice (some ⟨w.heap.size, 0, none⟩) 0 n) (w.alloc (.cells (madeCells #[.int .i64 0] n) 3)) := by
  obtain ⟨i0, hi, hz0, hz1, hz2⟩ := info_parts Try.info3
  have hr := run_make (P := Try.prog) w 22 3 i0 (.int .i64 0) Try.underlying22 hi hz0 .i64 .i64 0 n (Int.le_refl _) (by omega) (by rw [hz2]; omega) (by omega)
  simp only [Int.toNat_natCast, Int.toNat_zero, hz1, Nat.mul_one] at hr
  exact hr
set_option maxHeartbeats 400000 in
theorem impl_TrotterAt_any (n r : Int) (w : World) :
    Calls Try.prog 19 #[.int .i64 n, .int .i64 r] w fun e w' => ∃ u, e = .returned (.tuple #[u, .bool (taB n r)]) ∧ Own w' w.heap.size u (taRes n r) ∧ Below w.heap.size w w' := by
  cases hn : inB n 0 12 with
  | false =>
    have HN := hid hn
    have HB := hid (show false = taB n r by rw [taB, hn]; rfl)
    clear hn
    go_enter Try.func19, Try.ntmps19
    go_wp2_with (first | (go_at_call 66; refine (isItemCount_any _ _).mono ?_; rintro e w' ⟨rfl, rfl⟩; rw [HN.out]) | fail)
    go_ret2
    exact ⟨_, ret_sbA HB.out, by rw [taRes_no HB.out.symm]; exact Own.nil _ _, Below.refl _ _⟩
  | true =>
    have HN := hid hn
    have hn2 := inB_iff.1 hn
    obtain ⟨N, rfl⟩ : ∃ N : Nat, n = (N : Int) := ⟨n.toNat, by omega⟩
    have hf := fact_le N (by omega)
    have hf0 := rk_pos N
    by_cases hr0 : r < 0
    · have HB := hid (show false = taB N r by rw [taB, hn, Int.toNat_natCast, show inB r 0 ((fact N : Int) - 1) = false by rw [Bool.eq_false_iff]; intro h; have := inB_iff.1 h; omega]; rfl)
      clear hn
      go_enter Try.func19, Try.ntmps19
      go_wp2_with (first | (go_at_call 66; refine (isItemCount_any _ _).mono ?_; rintro e w' ⟨rfl, rfl⟩; rw [HN.out]) | fail)
      go_ret2
      exact ⟨_, ret_sbA HB.out, by rw [taRes_no HB.out.symm]; exact Own.nil _ _, Below.refl _ _⟩
    by_cases hr1 : (fact N : Int) ≤ r
    · have HB := hid (show false = taB N r by rw [taB, hn, Int.toNat_natCast, show inB r 0 ((fact N : Int) - 1) = false by rw [Bool.eq_false_iff]; intro h; have := inB_iff.1 h; omega]; rfl)
      clear hn
      go_enter Try.func19, Try.ntmps19
      go_wp2_with (first | (go_at_call 66; refine (isItemCount_any _ _).mono ?_; rintro e w' ⟨rfl, rfl⟩; rw [HN.out]) | (go_at_call 67; refine (factorial_any N _ (by omega)).mono ?_; rintro e w1 ⟨rfl, rfl⟩) | fail)
      go_ret2
      exact ⟨_, ret_sbA HB.out, by rw [taRes_no HB.out.symm]; exact Own.nil _ _, Below.refl _ _⟩
    obtain ⟨R, rfl⟩ : ∃ R : Nat, r = (R : Int) := ⟨r.toNat, by omega⟩
    have HB := hid (show true = taB N R by rw [taB, hn, Int.toNat_natCast, show inB (R : Int) 0 ((fact N : Int) - 1) = true from inB_iff.2 ⟨by omega, by omega⟩]; rfl)
    have HX := hid (show taRes N R = trL N R by rw [taRes_yes HB.out.symm, Int.toNat_natCast, Int.toNat_natCast])
    have hRb : R ≤ 1000000000 := by omega
    have hNb : N ≤ 12 := by omega
    have hw1 : IntKind.i64.wrap ((N : Int) - 1) = (N : Int) - 1 := IntWalk.i64_in _ (by omega)
    have hmk := run_make_ints N (by omega) w
    have HR0 := hid (World.rowIs_made w (.int .i64 0) N 3)
    have HB0 := hid (show Below w.heap.size w (w.alloc (.cells (madeCells #[.int .i64 0] N) 3)) from (Below.refl _ _).alloc (Nat.le_refl _) _)
    have hs0 : w.heap.size < (w.alloc (.cells (madeCells #[.int .i64 0] N) 3)).heap.size := by simp
    obtain ⟨wm, hwm⟩ : ∃ wm, wm = w.alloc (.cells (madeCells #[.int .i64 0] N) 3) := ⟨_, rfl⟩
    rw [← hwm] at hmk HR0 HB0 hs0
    obtain ⟨ps, hps⟩ : ∃ ps, ps = plI N R := ⟨_, rfl⟩
    have HPS := hid hps
    have hr0' : ¬ (R : Int) < 0 := by omega
    have hd0 : decide ((R : Int) < 0) = false := decide_eq_false hr0'
    have hd1 : decide ((fact N : Int) ≤ (R : Int)) = false := decide_eq_false hr1
    have hd2 : decide (fact N ≤ R) = false := decide_eq_false (by omega)
    clear hn hwm hps
    go_enter Try.func19, Try.ntmps19
    go_wp2_with (first | (go_at_call 66; refine (isItemCount_any _ _).mono ?_; rintro e w' ⟨rfl, rfl⟩; rw [HN.out]) | (go_at_call 67; refine (factorial_any N _ (by omega)).mono ?_; rintro e w1 ⟨rfl, rfl⟩) | fail)
    go_loopw [1, 7] (fun rv xv wr => ∃ (m Q : Nat), m ≤ N ∧ rv = .int .i64 (Q : Int) ∧ xv = .int .i64 ((m : Int) - 1) ∧ Q ≤ 1000000000 ∧ ps.take m = plI m Q ∧ wr.rowIs w.heap.size 3 N (fun j => .int .i64 (if j < m then 0 else ps.getD j 0)) ∧ Below w.heap.size w wr) (fun _ xv _ => ((intOf xv) + 1).toNat)
    case atStart => exact ⟨N, R, Nat.le_refl _, rfl, rfl, hRb, by have := HPS.out; subst this; rw [List.take_of_length_le (by rw [plI_len]; exact Nat.le_refl _)], HR0.out.congr (fun j hj => by rw [if_pos hj]), HB0.out⟩
    case round =>
      obtain ⟨m, Q, hm, rfl, rfl, hQ, htk, hrow, hbel⟩ := hrel
      have HROW := hid hrow
      have HBE := hid hbel
      have HTK := hid htk
      by_cases h0 : m = 0
      · subst h0
        obtain ⟨wp, rfl⟩ : ∃ wp : World, wp = wr := ⟨_, rfl⟩
        rw [show ((0 : Nat) : Int) - 1 = -1 from rfl]
        have hmk2 := run_make0 N hNb wp
        have HL0 := hid (World.rowIs_made wp (.int .i64 0) N 3)
        have HBL := hid (hbel.alloc hbel.size (.cells (madeCells #[.int .i64 0] N) 3))
        have HROW2 := hid (World.rowIs.alloc hrow (.cells (madeCells #[.int .i64 0] N) 3))
        have hsr := World.rowIs.lt hrow
        obtain ⟨wl, hwl⟩ : ∃ wl, wl = wp.alloc (.cells (madeCells #[.int .i64 0] N) 3) := ⟨_, rfl⟩
        rw [← hwl] at hmk2 HL0 HBL HROW2
        clear hrow hbel htk hwl
        have HPL := hid (HROW2.out.congr (g := fun j => .int .i64 (ps.getD j 0)) (fun j hj => by rw [if_neg (by omega)]))
        have HBL2 := hid (show blT ps N = trL N R by have := HPS.out; subst this; exact blT_tr N R)
        have HRG := hid (show ∀ k, k < N → 0 ≤ ps.getD k 0 ∧ ps.getD k 0 ≤ k by have := HPS.out; subst this; exact fun k hk => plI_range N R k hk)
        have HLEN := hid (show ∀ k, k ≤ N → (blT ps k).length = k by have := HPS.out; subst this; exact fun k hk => blT_len k hk)
        have HRB := hid hRb
        have HQ := hid hQ
        clear hRb hQ hf hf0 hr1
        go_wp2_with fail
        go_loopw [9, 52] (fun lv iv w2 => ∃ (k : Nat) (f : Nat → Value), k ≤ N ∧ lv = .slice (some ⟨wp.heap.size, 0, none⟩) k N ∧ iv = .int .i64 (k : Int) ∧ w2.rowIs wp.heap.size 3 N f ∧ (∀ j, j < k → f j = .int .i64 ((blT ps k).getD j 0)) ∧
          w2.rowIs w.heap.size 3 N (fun j => .int .i64 (ps.getD j 0)) ∧ Below w.heap.size w w2) (fun _ iv _ => N - (intOf iv).toNat)
        case atStart => exact ⟨0, _, Nat.zero_le _, rfl, rfl, HL0.out, fun j hj => absurd hj (by omega), HPL.out, HBL.out⟩
        case round =>
          obtain ⟨k, f, hk, rfl, rfl, hrl, hpre, hpl, hbel⟩ := hrel
          have HRL := hid hrl
          have HPRE := hid hpre
          have HPL2 := hid hpl
          have HBE2 := hid hbel
          by_cases hlt : k < N
          · obtain ⟨h1, h2⟩ := HRG.out k hlt
            obtain ⟨p, hp⟩ : ∃ p : Nat, ps.getD k 0 = (p : Int) := ⟨(ps.getD k 0).toNat, by omega⟩
            have hpc := hpl.cell hlt
            rw [hp] at hpc
            have hpk : p ≤ k := by omega
            have HP := hid hp
            clear hrl hpre hpl hbel h1 h2 hp
            have HAL := hid (World.rowIs.alloc HRL.out (.cells #[.int .i64 (k : Int)] 3))
            have HAP := hid (World.rowIs.alloc HPL2.out (.cells #[.int .i64 (k : Int)] 3))
            have HAB := hid (HBE2.out.alloc HBE2.out.size (.cells #[.int .i64 (k : Int)] 3))
            have HNEW := hid (World.rowIs_alloc wr #[.int .i64 (k : Int)] 3 (fun _ => .int .i64 (k : Int)) (fun t ht => by
              match t, ht with
              | 0, _ => rfl
              | t + 1, h => exact absurd h (by simp)))
            have hglt := World.rowIs.lt HRL.out
            have hsw : w.heap.size ≤ wp.heap.size := Nat.le_of_lt hsr
            have HLK := hid (HLEN.out k (by omega))
            have HBK := hid (show blT ps (k + 1) = insT (blT ps k) p k by rw [blT, HP.out, Int.toNat_natCast])
            obtain ⟨l, hl⟩ : ∃ l, l = blT ps k := ⟨_, rfl⟩
            rw [← hl] at HLK HBK HPRE
            clear hl
            by_cases hpk2 : p = k
            · subst hpk2
              have hkc : Calls Try.prog 69 #[.slice (some ⟨wp.heap.size, 0, none⟩) p N, .int .i64 (p : Int), .slice (some ⟨wr.heap.size, 0, none⟩) 1 1] (wr.alloc (.cells #[.int .i64 (p : Int)] 3)) _ :=
                Any2.slices_Insert_int_end_room Try.laysIns wp.heap.size 0 p N wr.heap.size 0 1 1 [.int .i64 (p : Int)] _ (by omega) (by omega) (by omega) rfl
                  (fun j hj => by rw [HAL.out.cell (by omega)]; rfl) (fun j hj => HAL.out.frozen _)
                  (fun j v hj => by
                    match j, hj with
                    | 0, hj => simp at hj; subst hj; exact HNEW.out.cell (i := 0) (by simp)) (by simp [Value.oneCell'])
              have HKC := hid hkc
              clear hkc
              go_wp2_with (first | (go_at_call 69; refine HKC.out.mono ?_; rintro e w5 ⟨rfl, hw5⟩; have HW5 := hid hw5; clear hw5) | fail)
              have HEND := hid (ins_end HLK.out HAL.out HPRE.out HW5.out)
              have HPL5 := hid (show w5.rowIs w.heap.size 3 N (fun j => .int .i64 (ps.getD j 0)) by rw [HW5.out]; exact rowIs_setCells_other (by omega) _ _ _ HAP.out)
              have HB5 := hid (show Below w.heap.size w w5 by rw [HW5.out]; exact below_setC8 hsw _ _ _ HAB.out)
              go_roundw
              case rel =>
                obtain ⟨f', h1, h2⟩ := HEND.out
                exact ⟨p + 1, f', hlt, rfl, by go_num, h1, by rw [HBK.out]; exact h2, HPL5.out, HB5.out⟩
              case measure => simp [intOf]; omega
            · have hkc : Calls Try.prog 69 #[.slice (some ⟨wp.heap.size, 0, none⟩) k N, .int .i64 (p : Int), .slice (some ⟨wr.heap.size, 0, none⟩) 1 1] (wr.alloc (.cells #[.int .i64 (k : Int)] 3)) _ :=
                Any2.slices_Insert_int_shift Try.laysIns wp.heap.size 0 k N p wr.heap.size 0 1 1 (l.map (Value.int .i64)) [.int .i64 (k : Int)] _ (by omega) (by omega) (by omega) (by omega) (by omega) (by rw [List.length_map, HLK.out]) rfl
                  (fun j v hj => by
                    rw [Nat.zero_add]
                    rw [List.getElem?_map] at hj
                    obtain ⟨y, hy, rfl⟩ := Option.map_eq_some_iff.1 hj
                    obtain ⟨hjl, hy2⟩ := List.getElem?_eq_some_iff.1 hy
                    rw [HLK.out] at hjl
                    rw [HAL.out.cell (by omega), HPRE.out j hjl, ← hy2, getD_at])
                  (fun j hj => by rw [HAL.out.cell (by omega)]; rfl) (fun j hj => HAL.out.frozen _)
                  (fun j v hj => by
                    match j, hj with
                    | 0, hj => simp at hj; subst hj; exact HNEW.out.cell (i := 0) (by simp)) (int_one2 l) (by simp [Value.oneCell'])
                  3 3 1 N (shape_row HNEW.out) (shape_row HAL.out) (by omega) (HNEW.out.frozen _) (HNEW.out.frozen _)
              have HKC := hid hkc
              clear hkc
              go_wp2_with (first | (go_at_call 69; refine HKC.out.mono ?_; rintro e w5 ⟨rfl, hw5⟩; have HW5 := hid hw5; clear hw5) | fail)
              have HEND := hid (ins_mid HLK.out (show p < k by omega) HAL.out HPRE.out HW5.out)
              have HPL5 := hid (show w5.rowIs w.heap.size 3 N (fun j => .int .i64 (ps.getD j 0)) by rw [HW5.out]; exact rowIs_setCells_other (by omega) _ _ _ (rowIs_setCells_other (by omega) _ _ _ (World.rowIs.drew HAP.out)))
              have HB5 := hid (show Below w.heap.size w w5 by rw [HW5.out]; exact below_setC8 hsw _ _ _ (below_setC8 hsw _ _ _ (Below.drew HAB.out)))
              go_roundw
              case rel =>
                obtain ⟨f', h1, h2⟩ := HEND.out
                exact ⟨k + 1, f', hlt, rfl, by go_num, h1, by rw [HBK.out]; exact h2, HPL5.out, HB5.out⟩
              case measure => simp [intOf]; omega
          · obtain rfl : k = N := by omega
            have HOF := hid (Own.of_rowIs (w := wr) (g := wp.heap.size) (n := k) (xs := blT ps k) (HRL.out.congr (fun j hj => HPRE.out j hj)) (HLEN.out k (Nat.le_refl _)) (by unfold maxLen; omega))
            have hsw : w.heap.size ≤ wp.heap.size := Nat.le_of_lt hsr
            clear hrl hpre hpl hbel
            go_wp2_with fail
            go_ret2
            exact ⟨_, ret_sbA HB.out, by rw [HX.out, ← HBL2.out]; exact HOF.out.mono hsw, HBE2.out⟩
      · obtain ⟨x, rfl⟩ : ∃ x, m = x + 1 := ⟨m - 1, by omega⟩
        have ex : ((x + 1 : Nat) : Int) - 1 = (x : Int) := by omega
        have hx12 : x ≤ 12 := by omega
        have htl := Nat.mod_lt Q (show 0 < x + 1 by omega)
        have hql : Q / (x + 1) ≤ Q := Nat.div_le_self _ _
        have HLAST := hid (plI_last x Q)
        have HTAKE := hid (plI_take x Q)
        have HPOT := hid (trAt_pot x Q)
        obtain ⟨t, ht⟩ : ∃ t, t = Q % (x + 1) := ⟨_, rfl⟩
        obtain ⟨q, hq⟩ : ∃ q, q = Q / (x + 1) := ⟨_, rfl⟩
        rw [← ht] at htl HPOT
        rw [← hq] at hql HTAKE HPOT
        have f1 : (Q : Int) % ((x : Int) + 1) = (t : Int) := by rw [ht]; simp
        have f2 : (Q : Int) / ((x : Int) + 1) = (q : Int) := by rw [hq]; simp
        have f3 : wrap64 (q : Int) = (q : Int) := IntWalk.wrap64_in _ (by omega)
        have f4 : IntKind.i64.wrap ((x : Int) + 1) = (x : Int) + 1 := IntWalk.i64_in _ (by omega)
        have f5 : ¬ (x : Int) + 1 = 0 := by omega
        have f6 : IntKind.i64.wrap ((x : Int) - 1) = (x : Int) - 1 := IntWalk.i64_in _ (by omega)
        have f7 : (0 : Int) ≤ (x : Int) := by omega
        have f8 : (x : Int) < (N : Int) := by omega
        have hxN : x < N := by omega
        rw [ex]
        have hcz := hrow.cell hxN
        have hfz := hrow.frozen x
        obtain ⟨zz, hzz⟩ : ∃ zz, wr.cell? ⟨w.heap.size, x, none⟩ = some zz := ⟨_, hcz⟩
        have g1 := hid (Nat.le_of_lt hxN)
        have g2 := hid (Nat.le_trans hql hQ)
        have g4 := hid (show t ≤ x by omega)
        clear hrow hbel htk ht hq ex hcz hm h0 hQ htl hql
        go_wp2_with (first | (go_at_call 68; refine (placeOfTurn_any x q t _ (by omega) g4.out).mono ?_; rintro e w1 ⟨rfl, rfl⟩; rw [← HPOT.out]) | fail)
        have HR2 := hid (HROW.out.set x (.int .i64 (trAt x Q : Int)))
        have HB2 := hid (HBE.out.setCell (p := ⟨w.heap.size, x, none⟩) (Nat.le_refl _) (.int .i64 (trAt x Q : Int)))
        have HTK2 := hid (show ps.take x = plI x q by
          have h := congrArg (List.take x) HTK.out
          rw [HTAKE.out, List.take_take, Nat.min_eq_left (by omega)] at h
          exact h)
        have HPX := hid (show ps.getD x 0 = (trAt x Q : Int) by
          have h := congrArg (fun l => List.getD l x 0) HTK.out
          change List.getD _ x 0 = List.getD _ x 0 at h
          rw [HLAST.out] at h
          rw [← h]
          simp only [List.getD_eq_getElem?_getD, List.getElem?_take]
          rw [if_pos (by omega)])
        clear hzz hfz
        go_roundw
        case rel => exact ⟨x, q, g1.out, rfl, rfl, g2.out, HTK2.out, HR2.out.congr (fun j hj => by
          by_cases h1 : j = x
          · subst h1
            rw [if_pos rfl, if_neg (by omega), HPX.out]
          · rw [if_neg h1]
            by_cases h2 : j < x
            · rw [if_pos (by omega), if_pos h2]
            · rw [if_neg (by omega), if_neg h2]), HB2.out⟩
        case measure => simp [intOf]
end Go.Proofs.Yteenmndgejeihaa
