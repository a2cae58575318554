/- Contracts: gcChanges, countBits and both ChangesOf functions. Conditions: the slices read as lists of at most 2^20 numbers; the table of math/bits holds what the program's text lays. -/
import Derived.Test.YteejdagnlepegaaDoorDelt2
namespace Go.Proofs.YteejdagnlepegaaDoor
open Go.RowKit
set_option linter.unusedVariables false

/-- how often b is among the first k -/
def cntTo (ds : List Int) (b : Nat) : Nat → Nat
  | 0 => 0
  | k + 1 => cntTo ds b k + if ds.getD k 0 = (b : Int) then 1 else 0
theorem cntTo_le (ds : List Int) (b k : Nat) : cntTo ds b k ≤ k := by
  induction k with
  | zero => exact Nat.le_refl _
  | succ k ih => rw [cntTo]; split <;> omega
def countsL (n : Nat) (ds : List Int) : List Int := (List.range n).map (fun b : Nat => (cntTo ds b ds.length : Int))
theorem countsL_length (n : Nat) (ds : List Int) : (countsL n ds).length = n := by simp [countsL]
theorem countsL_getD {n : Nat} {ds : List Int} {i : Nat} (h : i < n) : (countsL n ds).getD i 0 = cntTo ds i ds.length := by simp [countsL, h]
/-- all are numbers below n -/
def bitsIn (n : Nat) (ds : List Int) : Prop := ∀ i, i < ds.length → ∃ y : Nat, ds.getD i 0 = (y : Int) ∧ y < n
theorem cnt_set {w : World} {g n : Nat} {ds : List Int} {k y : Nat} (hy : ds.getD k 0 = (y : Int)) (h : w.rowIs g 3 n (fun j => .int .i64 (cntTo ds j k : Int))) :
    (w.setCell ⟨g, y, none⟩ (.int .i64 ((cntTo ds y k : Int) + 1))).rowIs g 3 n (fun j => .int .i64 (cntTo ds j (k + 1) : Int)) := by
  refine (h.set y (.int .i64 ((cntTo ds y k : Int) + 1))).congr (fun i hi => ?_)
  by_cases e : i = y
  · subst e
    rw [if_pos rfl, cntTo, if_pos hy]; simp
  · rw [if_neg e, cntTo, if_neg (by rw [hy]; omega)]; simp
theorem cnt_own {w : World} {g n : Nat} {ds : List Int} (hn : n ≤ 1048576) (h : w.rowIs g 3 n (fun j => .int .i64 (cntTo ds j ds.length : Int))) : Own w g (.slice (some ⟨g, 0, none⟩) n n) (countsL n ds) :=
  Own.of_rowIs (h.congr (fun i hi => by rw [countsL_getD hi])) (countsL_length n ds) (by unfold maxLen; omega)
theorem gcChanges_any (n : Nat) (v : Value) (ds : List Int) (w : World) (h : Reads w v ds) (hn : n ≤ 1048576) (hl : ds.length ≤ 1048576) (hb0 : bitsIn n ds) :
    Calls Tryd.prog 32 #[.int .i64 (n : Int), v] w fun e w' => ∃ u, e = .returned u ∧ Own w' w.heap.size u (countsL n ds) ∧ Below w.heap.size w w' ∧ u = .slice (some ⟨w.heap.size, 0, none⟩) n n := by
  obtain ⟨ao, c, rfl, hc1, hm, h⟩ := h.view
  have HB := hid hb0
  have hmk := run_make_ints n hn w
  have HM := hid ((World.rowIs_made w (.int .i64 0) n 3).congr (g := fun j => .int .i64 (cntTo ds j 0 : Int)) (fun i hi => by simp [cntTo]))
  have HB0 := hid ((Below.refl w.heap.size w).alloc (Nat.le_refl _) (.cells (madeCells #[.int .i64 0] n) 3))
  clear hb0
  rcases h with h | ⟨b, off, rfl, hb, hc⟩
  · subst h
    go_enter Tryd.func32, Tryd.ntmps32
    go_wp2
    clear hmk
    refine wp_loop_rounds 1 ?_
    rw [rounds_succ]
    go_wp2
    go_ret
    exact ⟨_, rfl, cnt_own hn HM.out, HB0.out, rfl⟩
  · have HC := hid hc
    clear hc
    go_enter Tryd.func32, Tryd.ntmps32
    go_wp2
    clear hmk
    go_loopw [7, 12] (fun _ i wr => ∃ k : Nat, k ≤ ds.length ∧ i = .int .i64 k ∧ wr.rowIs w.heap.size 3 n (fun j => .int .i64 (cntTo ds j k : Int)) ∧ Below w.heap.size w wr) (fun _ i _ => ds.length - (intOf i).toNat)
    case atStart => exact ⟨0, Nat.zero_le _, rfl, HM.out, HB0.out⟩
    case round =>
      obtain ⟨k, hk, rfl, hrow, hbel⟩ := hrel
      by_cases hlt : k < ds.length
      · obtain ⟨y, hy, hyn⟩ := HB.out k hlt
        have hcx : wr.cell? ⟨b, off + k, none⟩ = some (.int .i64 (y : Int)) := by
          have := (hbel.cell (p := ⟨b, off + k, none⟩) (by exact hb)).trans (HC.out k hlt)
          rwa [← getD_at hlt, hy] at this
        have hcy : wr.cell? ⟨w.heap.size, y, none⟩ = some (.int .i64 (cntTo ds y k : Int)) := hrow.cell hyn
        have hf := hrow.frozen y
        have hle := cntTo_le ds y k
        have HSS := hid (cnt_set hy hrow)
        obtain ⟨q, hq⟩ : ∃ q, q = cntTo ds y k := ⟨_, rfl⟩
        rw [← hq] at hcy hle HSS
        have HBL := hid (hbel.setCell (p := ⟨w.heap.size, y, none⟩) (Nat.le_refl _) (.int .i64 ((q : Int) + 1)))
        have u1 : IntKind.i64.wrap ((q : Int) + 1) = (q : Int) + 1 := IntWalk.i64_in _ (by omega)
        have u2 : (y : Int) < (n : Int) := by omega
        have u3 : (0 : Int) ≤ (y : Int) := by omega
        clear hrow hbel hq hy
        go_wp2
        go_roundw
        case rel => exact ⟨k + 1, by omega, by go_num, HSS.out, HBL.out⟩
        case measure => simp [intOf]; omega
      · obtain rfl : k = ds.length := by omega
        have HR := hid hrow
        clear hrow
        go_wp2
        go_ret
        exact ⟨_, rfl, cnt_own hn HR.out, hbel, rfl⟩
theorem countBits_any (n : Nat) (v : Value) (ds : List Int) (w : World) (h : Reads w v ds) (hn : n ≤ 1048576) (hl : ds.length ≤ 1048576) (hb0 : bitsIn n ds) :
    Calls Tryd.prog 33 #[.int .i64 (n : Int), v] w fun e w' => ∃ u, e = .returned u ∧ Own w' w.heap.size u (countsL n ds) ∧ Below w.heap.size w w' ∧ u = .slice (some ⟨w.heap.size, 0, none⟩) n n := by
  obtain ⟨ao, c, rfl, hc1, hm, h⟩ := h.view
  have HB := hid hb0
  have hmk := run_make_ints n hn w
  have HM := hid ((World.rowIs_made w (.int .i64 0) n 3).congr (g := fun j => .int .i64 (cntTo ds j 0 : Int)) (fun i hi => by simp [cntTo]))
  have HB0 := hid ((Below.refl w.heap.size w).alloc (Nat.le_refl _) (.cells (madeCells #[.int .i64 0] n) 3))
  clear hb0
  rcases h with h | ⟨b, off, rfl, hb, hc⟩
  · subst h
    go_enter Tryd.func33, Tryd.ntmps33
    go_wp2
    clear hmk
    refine wp_loop_rounds 1 ?_
    rw [rounds_succ]
    go_wp2
    go_ret
    exact ⟨_, rfl, cnt_own hn HM.out, HB0.out, rfl⟩
  · have HC := hid hc
    clear hc
    go_enter Tryd.func33, Tryd.ntmps33
    go_wp2
    clear hmk
    go_loopw [7, 12] (fun _ i wr => ∃ k : Nat, k ≤ ds.length ∧ i = .int .i64 k ∧ wr.rowIs w.heap.size 3 n (fun j => .int .i64 (cntTo ds j k : Int)) ∧ Below w.heap.size w wr) (fun _ i _ => ds.length - (intOf i).toNat)
    case atStart => exact ⟨0, Nat.zero_le _, rfl, HM.out, HB0.out⟩
    case round =>
      obtain ⟨k, hk, rfl, hrow, hbel⟩ := hrel
      by_cases hlt : k < ds.length
      · obtain ⟨y, hy, hyn⟩ := HB.out k hlt
        have hcx : wr.cell? ⟨b, off + k, none⟩ = some (.int .i64 (y : Int)) := by
          have := (hbel.cell (p := ⟨b, off + k, none⟩) (by exact hb)).trans (HC.out k hlt)
          rwa [← getD_at hlt, hy] at this
        have hcy : wr.cell? ⟨w.heap.size, y, none⟩ = some (.int .i64 (cntTo ds y k : Int)) := hrow.cell hyn
        have hf := hrow.frozen y
        have hle := cntTo_le ds y k
        have HSS := hid (cnt_set hy hrow)
        obtain ⟨q, hq⟩ : ∃ q, q = cntTo ds y k := ⟨_, rfl⟩
        rw [← hq] at hcy hle HSS
        have HBL := hid (hbel.setCell (p := ⟨w.heap.size, y, none⟩) (Nat.le_refl _) (.int .i64 ((q : Int) + 1)))
        have u1 : IntKind.i64.wrap ((q : Int) + 1) = (q : Int) + 1 := IntWalk.i64_in _ (by omega)
        have u2 : (y : Int) < (n : Int) := by omega
        have u3 : (0 : Int) ≤ (y : Int) := by omega
        clear hrow hbel hq hy
        go_wp2
        go_roundw
        case rel => exact ⟨k + 1, by omega, by go_num, HSS.out, HBL.out⟩
        case measure => simp [intOf]; omega
      · obtain rfl : k = ds.length := by omega
        have HR := hid hrow
        clear hrow
        go_wp2
        go_ret
        exact ⟨_, rfl, cnt_own hn HR.out, hbel, rfl⟩
theorem delta_lt {n : Int} {m : Nat} {xs : List Int} (h : wordsB n xs = true) (hm : n = m) (hd : deltasB xs = true) : bitsIn m (deltasL xs) := by
  obtain ⟨h1, h2, h3⟩ := wordsB_iff.1 h
  intro i hi
  rw [deltasL_length] at hi
  rw [deltasL_getD hi]
  have h0 := (allTo_iff _ _).1 hd i hi
  simp only [decide_eq_true_eq] at h0
  obtain ⟨a, e1, ha, ha2⟩ := word_nat h1 (h3 i (by omega))
  obtain ⟨b, e2, hb, hb2⟩ := word_nat h1 (h3 (i + 1) (by omega))
  have hD : deltaAt xs i = bitD (a ^^^ b) := by unfold deltaAt; rw [e1, e2]; rfl
  rw [hD] at h0 ⊢
  have hlt : a ^^^ b < 2 ^ m := by
    have : n.toNat = m := by omega
    rw [this] at ha hb
    exact Nat.xor_lt_two_pow ha hb
  have hp : popN (a ^^^ b) = 1 := by
    by_cases hp : popN (a ^^^ b) = 1
    · exact hp
    · rw [bitD_pop _ (xor_lt ha2 hb2) hp] at h0; omega
  obtain ⟨k, hk, e⟩ := pop_pow _ (xor_lt ha2 hb2) hp
  refine ⟨k, by rw [e, bitD_pow k hk], ?_⟩
  rw [e] at hlt
  exact (Nat.pow_lt_pow_iff_right (by omega)).1 hlt
def cgRes (n : Int) (xs : List Int) : List Int := if doB n xs = true then countsL n.toNat (deltasL xs) else []
theorem cgRes_yes {n : Int} {xs : List Int} (h : doB n xs = true) : cgRes n xs = countsL n.toNat (deltasL xs) := by unfold cgRes; rw [if_pos h]
theorem cgRes_no {n : Int} {xs : List Int} (h : doB n xs = false) : cgRes n xs = [] := by unfold cgRes; rw [if_neg (by rw [h]; simp)]
theorem doB_facts {n : Int} {xs : List Int} (h : doB n xs = true) : wordsB n xs = true ∧ deltasB xs = true ∧ doRes n xs = deltasL xs ∧ ∃ m : Nat, n = m ∧ m ≤ 10 := by
  simp only [doB, Bool.and_eq_true] at h
  obtain ⟨m, h1, _, h2⟩ := pow_nat (wordsB_iff.1 h.1).1
  exact ⟨h.1, h.2, by rw [doRes_yes h.1, deltasR_yes h.2], m, h1, h2⟩
theorem bound_ChangesOf (n : Int) (xs : List Int) : (cgRes n xs).length ≤ 1048576 := by
  cases h : doB n xs with
  | false => rw [cgRes_no h]; simp
  | true =>
    obtain ⟨_, _, _, m, h1, h2⟩ := doB_facts h
    rw [cgRes_yes h, countsL_length]
    omega
theorem spec_ChangesOf_any (n : Int) (v : Value) (xs : List Int) (w : World) (_wn : (Lit.int .i64 n).wf = true) (h : Sits w v xs) (hl : xs.length ≤ 1048576) (_hwf : ∀ x ∈ xs, (Lit.int .i64 x).wf = true) (ht : TZ w) :
    Calls Tryd.prog 16 #[.int .i64 n, v] w fun e w' => ∃ u, e = .returned (.tuple #[u, .bool (doB n xs)]) ∧ Own w' w.heap.size u (cgRes n xs) ∧ Below w.heap.size w w' := by
  have HS := hid h
  have HT := hid ht
  have HW := hid _hwf
  have _wn' := _wn
  clear h ht
  by_cases h1 : doB n xs = true
  · obtain ⟨k1, k2, k3, m, rfl, hm10⟩ := doB_facts h1
    have HF := hid h1
    have HX : Hid (cgRes (m : Int) xs = countsL m (deltasL xs)) := by show _ = _; rw [cgRes_yes h1]; rfl
    have HD := hid k3
    have HBI := hid (delta_lt k1 rfl k2)
    have HLD := hid (deltasL_length xs)
    have hm20 : m ≤ 1048576 := by omega
    go_enter Tryd.func16, Tryd.ntmps16
    go_wp2_with (first
      | (go_at_call 10; refine (spec_DeltasOf_any _ _ xs _ _wn' HS.out hl HW.out HT.out).mono ?_; rintro e w1 ⟨u, rfl, ho, hb1⟩; rw [HD.out] at ho; rw [HF.out]; have HO := hid ho; have HB1 := hid hb1; clear ho hb1)
      | (go_at_call 32; refine (gcChanges_any m _ (deltasL xs) _ HO.out.reads hm20 (by rw [HLD.out]; omega) HBI.out).mono ?_; rintro e w2 ⟨z, rfl, hz, hb2, hzz⟩; subst hzz; have HZ := hid (hz.mono HB1.out.size); have HB2 := hid (Below_chain HB1.out hb2); clear hz hb2)
      | fail)
    go_ret2
    exact ⟨_, ret_sb8 HF.out.symm, by rw [HX.out]; exact HZ.out, HB2.out⟩
  · have h1 : doB n xs = false := by simpa using h1
    have HF := hid h1
    have HX := hid (cgRes_no h1)
    clear h1
    go_enter Tryd.func16, Tryd.ntmps16
    go_wp2_with (first
      | (go_at_call 10; refine (spec_DeltasOf_any _ _ xs _ _wn' HS.out hl HW.out HT.out).mono ?_; rintro e w1 ⟨u, rfl, ho, hb1⟩; rw [HF.out]; have HB1 := hid hb1; clear ho hb1)
      | fail)
    go_ret2
    exact ⟨_, ret_sb8 HF.out.symm, by rw [HX.out]; exact Own.nil _ _, HB1.out⟩
theorem impl_ChangesOf_any (n : Int) (v : Value) (xs : List Int) (w : World) (_wn : (Lit.int .i64 n).wf = true) (h : Sits w v xs) (hl : xs.length ≤ 1048576) (_hwf : ∀ x ∈ xs, (Lit.int .i64 x).wf = true) (ht : TZ w) :
    Calls Tryd.prog 17 #[.int .i64 n, v] w fun e w' => ∃ u, e = .returned (.tuple #[u, .bool (doB n xs)]) ∧ Own w' w.heap.size u (cgRes n xs) ∧ Below w.heap.size w w' := by
  have HS := hid h
  have HT := hid ht
  have HW := hid _hwf
  have _wn' := _wn
  clear h ht
  by_cases h1 : doB n xs = true
  · obtain ⟨k1, k2, k3, m, rfl, hm10⟩ := doB_facts h1
    have HF := hid h1
    have HX : Hid (cgRes (m : Int) xs = countsL m (deltasL xs)) := by show _ = _; rw [cgRes_yes h1]; rfl
    have HD := hid k3
    have HBI := hid (delta_lt k1 rfl k2)
    have HLD := hid (deltasL_length xs)
    have hm20 : m ≤ 1048576 := by omega
    go_enter Tryd.func17, Tryd.ntmps17
    go_wp2_with (first
      | (go_at_call 12; refine (impl_DeltasOf_any _ _ xs _ _wn' HS.out hl HW.out HT.out).mono ?_; rintro e w1 ⟨u, rfl, ho, hb1⟩; rw [HD.out] at ho; rw [HF.out]; have HO := hid ho; have HB1 := hid hb1; clear ho hb1)
      | (go_at_call 33; refine (countBits_any m _ (deltasL xs) _ HO.out.reads hm20 (by rw [HLD.out]; omega) HBI.out).mono ?_; rintro e w2 ⟨z, rfl, hz, hb2, hzz⟩; subst hzz; have HZ := hid (hz.mono HB1.out.size); have HB2 := hid (Below_chain HB1.out hb2); clear hz hb2)
      | fail)
    go_ret2
    exact ⟨_, ret_sb8 HF.out.symm, by rw [HX.out]; exact HZ.out, HB2.out⟩
  · have h1 : doB n xs = false := by simpa using h1
    have HF := hid h1
    have HX := hid (cgRes_no h1)
    clear h1
    go_enter Tryd.func17, Tryd.ntmps17
    go_wp2_with (first
      | (go_at_call 12; refine (impl_DeltasOf_any _ _ xs _ _wn' HS.out hl HW.out HT.out).mono ?_; rintro e w1 ⟨u, rfl, ho, hb1⟩; rw [HF.out]; have HB1 := hid hb1; clear ho hb1)
      | fail)
    go_ret2
    exact ⟨_, ret_sb8 HF.out.symm, by rw [HX.out]; exact Own.nil _ _, HB1.out⟩
end Go.Proofs.YteejdagnlepegaaDoor
