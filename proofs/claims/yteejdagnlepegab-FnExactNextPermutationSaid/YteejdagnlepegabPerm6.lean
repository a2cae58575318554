/- Contract: impl.NextPermutation. Conditions: the slice reads as a list of at most 2^20 numbers. -/
import Derived.Test.YteejdagnlepegabPerm5
import Derived.Test.YteejdagnlepegabNxt1
import Derived.Ground.NamesProg
import Derived.Shelf.Lay
import Derived.Shelf.Slices.Cells
import Derived.Lib.LazyBuf
namespace Go.Proofs
open Go.Shelf
shelf_lay Lays.n112 Nm 112 at Try as Try.laysRev
end Go.Proofs
namespace Go.Proofs.Yteejdagnlepegab
set_option linter.unusedVariables false
open Go.RowKit Go.Shelf

/-- i and j exchanged -/
def swapL (xs : List Int) (i j : Nat) : List Int := (xs.set i (xs.getD j 0)).set j (xs.getD i 0)
/-- i and j exchanged, and all behind i turned round -/
def nxtL (xs : List Int) (i j : Nat) : List Int := (swapL xs i j).take (i + 1) ++ ((swapL xs i j).drop (i + 1)).reverse
theorem swapL_length (xs : List Int) (i j : Nat) : (swapL xs i j).length = xs.length := by simp [swapL]
theorem nxtL_length {xs : List Int} {i j : Nat} (h : i < xs.length) : (nxtL xs i j).length = xs.length := by
  simp [nxtL, swapL_length]; omega
def npI (xs : List Int) : Int := lastIx (lessAt xs) (xs.length - 1)
def npJ (xs : List Int) : Int := lastIx (overAt xs (xs.getD (npI xs).toNat 0)) xs.length
def npB (xs : List Int) : Bool := permB xs && decide (0 ≤ npI xs)
def npRes (xs : List Int) : List Int := if npB xs = true then nxtL xs (npI xs).toNat (npJ xs).toNat else []
theorem npRes_yes {xs : List Int} (h : npB xs = true) : npRes xs = nxtL xs (npI xs).toNat (npJ xs).toNat := by unfold npRes; rw [if_pos h]
theorem npRes_no {xs : List Int} (h : npB xs = false) : npRes xs = [] := by unfold npRes; rw [if_neg (by rw [h]; simp)]
theorem ret_sb8 {u : Value} {b b' : Bool} (h : b = b') : Ending.returned (.tuple #[u, .bool b]) = .returned (.tuple #[u, .bool b']) := by rw [h]
theorem lastIx_hit (f : Nat → Bool) : ∀ n, 0 ≤ lastIx f n → f (lastIx f n).toNat = true
  | 0, h => by simp [lastIx] at h
  | n + 1, h => by
    rw [lastIx] at h ⊢
    split
    · simpa using ‹f n = true›
    · rename_i h2
      rw [if_neg h2] at h
      exact lastIx_hit f n h
theorem np_ix {xs : List Int} (h : 0 ≤ npI xs) : ∃ i j : Nat, npI xs = i ∧ npJ xs = j ∧ i + 1 < xs.length ∧ i < j ∧ j < xs.length ∧ xs.getD i 0 < xs.getD j 0 := by
  have h1 := lastIx_lt (lessAt xs) (xs.length - 1)
  have h2 := lastIx_hit _ _ h
  obtain ⟨i, hi⟩ : ∃ i : Nat, npI xs = i := ⟨(npI xs).toNat, by omega⟩
  have hi' : lastIx (lessAt xs) (xs.length - 1) = i := hi
  rw [hi'] at h1 h2
  rw [Int.toNat_natCast, lessAt, decide_eq_true_eq] at h2
  have hl : i + 1 < xs.length := by omega
  have h3 : ¬ npJ xs < i + 1 := by
    intro hlt
    have h4 : ∀ n, i + 1 < n → n ≤ xs.length → (i : Int) + 1 ≤ lastIx (overAt xs (xs.getD i 0)) n := by
      intro n
      induction n with
      | zero => intro h; omega
      | succ n ih =>
        intro ha hb
        rw [lastIx]
        split
        · omega
        · rename_i hno
          rcases Nat.lt_or_ge (i + 1) n with h5 | h5
          · exact ih h5 (by omega)
          · have : n = i + 1 := by omega
            subst this
            exact absurd (by rw [overAt, decide_eq_true_eq]; exact h2) hno
    have := h4 xs.length hl (Nat.le_refl _)
    rw [npJ, hi, Int.toNat_natCast] at hlt
    omega
  obtain ⟨j, hj⟩ : ∃ j : Nat, npJ xs = j := ⟨(npJ xs).toNat, by omega⟩
  have h5 := lastIx_lt (overAt xs (xs.getD (npI xs).toNat 0)) xs.length
  have h6 : npJ xs < xs.length := h5
  have h7 := lastIx_hit (overAt xs (xs.getD (npI xs).toNat 0)) xs.length (show 0 ≤ npJ xs by omega)
  have h8 : overAt xs (xs.getD (npI xs).toNat 0) (npJ xs).toNat = true := h7
  rw [hi, hj, Int.toNat_natCast, Int.toNat_natCast, overAt, decide_eq_true_eq] at h8
  exact ⟨i, j, hi, hj, hl, by omega, by omega, h8⟩
theorem bound_NextPermutation (xs : List Int) : (npRes xs).length ≤ 1048576 := by
  cases h : npB xs with
  | false => rw [npRes_no h]; simp
  | true =>
    rw [npRes_yes h]
    simp only [npB, Bool.and_eq_true, decide_eq_true_eq] at h
    obtain ⟨i, j, h1, h2, h3, _⟩ := np_ix h.2
    have := permB_len h.1
    rw [h1, Int.toNat_natCast, nxtL_length (by omega)]
    omega
theorem rowIs_drew6 {w : World} {g T n : Nat} {f : Nat → Value} (h : w.rowIs g T n f) : w.drew.rowIs g T n f := h
theorem swap_row {w : World} {g i j n : Nat} {xs : List Int} {x y : Int} (hi : i < xs.length) (hj : j < xs.length) (hx : x = xs.getD i 0) (hy : y = xs.getD j 0) (h : w.rowIs g 3 n (fun t => .int .i64 (xs.getD t 0))) :
    ((w.setCell ⟨g, i, none⟩ (.int .i64 y)).setCell ⟨g, j, none⟩ (.int .i64 x)).rowIs g 3 n (fun t => .int .i64 ((swapL xs i j).getD t 0)) := by
  refine ((h.set i (.int .i64 y)).set j (.int .i64 x)).congr (fun t _ => ?_)
  subst hx hy
  simp only [swapL, List.getD_eq_getElem?_getD, List.getElem?_set, List.length_set]
  by_cases h1 : t = j
  · subst h1; simp [hj]
  · by_cases h2 : t = i
    · subst h2; simp [h1, Ne.symm h1, hi]
    · simp [h1, h2, Ne.symm h1, Ne.symm h2]
theorem below_setC {B g : Nat} {a : World} (hb : B ≤ g) : ∀ (vs : List Value) (o : Nat) (w : World), Below B a w → Below B a (w.setCells g o vs)
  | [], _, _, h => h
  | v :: r, o, w, h => below_setC hb r (o + 1) _ (h.setCell (by exact hb) v)
theorem rowIs_setC {b : Nat} {t : TypeId} {n : Nat} : ∀ (vs : List Value) (o : Nat) (w : World) (f : Nat → Value), w.rowIs b t n f → (w.setCells b o vs).rowIs b t n (fun j => if o ≤ j ∧ j < o + vs.length then vs[j - o]?.getD default else f j) := Go.rowIs_setCells
theorem rowIs_drewN6 {w : World} {g T n : Nat} {f : Nat → Value} (h : w.rowIs g T n f) (q : Nat) : (w.drewN q).rowIs g T n f := h
theorem rev_row {w w' : World} {g i j q : Nat} {xs : List Int} (hi : i < xs.length) (h : w.rowIs g 3 xs.length (fun t => .int .i64 ((swapL xs i j).getD t 0)))
    (e : w' = (w.drewN q).setCells g (i + 1) ((((swapL xs i j).drop (i + 1)).take (xs.length - (i + 1))).reverse.map (Value.int .i64))) : w'.rowIs g 3 xs.length (fun t => .int .i64 ((nxtL xs i j).getD t 0)) := by
  subst e
  have hl := swapL_length xs i j
  obtain ⟨ys, hy⟩ : ∃ ys, ys = swapL xs i j := ⟨_, rfl⟩
  have ht : ((swapL xs i j).drop (i + 1)).take (xs.length - (i + 1)) = (swapL xs i j).drop (i + 1) := List.take_of_length_le (by rw [List.length_drop, hl]; exact Nat.le_refl _)
  rw [ht]
  refine (rowIs_setC _ _ _ _ (rowIs_drewN6 h q)).congr (fun t hlt => ?_)
  rw [nxtL, ← hy]
  rw [← hy] at hl
  simp only [List.length_map, List.length_reverse, List.length_drop, List.getD_eq_getElem?_getD]
  by_cases h1 : i + 1 ≤ t
  · rw [if_pos ⟨h1, by omega⟩, List.getElem?_append_right (by rw [List.length_take]; omega), List.length_take, Nat.min_eq_left (by omega)]
    have h2 : t - (i + 1) < (ys.drop (i + 1)).reverse.length := by rw [List.length_reverse, List.length_drop]; omega
    rw [List.getElem?_map, List.getElem?_eq_getElem h2]
    rfl
  · rw [if_neg (by omega), List.getElem?_append_left (by rw [List.length_take]; omega), List.getElem?_take, if_pos (by omega)]
theorem impl_NextPermutation_any (v : Value) (xs : List Int) (w : World) (h : Sits w v xs) (hl : xs.length ≤ 1048576) (_hwf : ∀ n ∈ xs, (Lit.int .i64 n).wf = true) :
    Calls Try.prog 17 #[v] w fun e w' => ∃ u, e = .returned (.tuple #[u, .bool (npB xs)]) ∧ Own w' w.heap.size u (npRes xs) ∧ Below w.heap.size w w' := by
  have HR := hid h.reads
  have HS := hid h
  obtain ⟨b, off, c, rfl, hc1, hm, hb, hc⟩ := h
  have HC := hid hc
  clear hc
  by_cases hp : permB xs = true
  · by_cases hi : 0 ≤ npI xs
    · have HF : Hid (npB xs = true) := by show npB xs = true; rw [npB, hp, decide_eq_true hi]; rfl
      have HX := hid (npRes_yes HF.out)
      obtain ⟨i, j, e1, e2, h3, h4, h5, h6⟩ := np_ix hi
      have HE1 := hid (show lastIx (lessAt xs) (xs.length - 1) = i from e1)
      have HE2 := hid (show lastIx (overAt xs (xs.getD i 0)) xs.length = j by have h := e2; rw [npJ, e1, Int.toNat_natCast] at h; exact h)
      rw [e1, e2, Int.toNat_natCast, Int.toNat_natCast] at HX
      obtain ⟨n, hn⟩ : ∃ n, n = xs.length := ⟨_, rfl⟩
      obtain ⟨x, hx⟩ : ∃ x, x = xs.getD i 0 := ⟨_, rfl⟩
      obtain ⟨y, hy⟩ : ∃ y, y = xs.getD j 0 := ⟨_, rfl⟩
      have HXI := hid hx
      have HYJ := hid hy
      have hi0 : i < xs.length := by omega
      have hgi : xs[i] = x := by rw [hx, getD_at hi0]
      have HGI := hid hgi
      rw [← hx] at HE2
      have q1 : (0 : Int) ≤ (i : Int) := by omega
      have q2 : (i : Int) < (xs.length : Int) := by omega
      have q3 : (j : Int) < (xs.length : Int) := by omega
      have q4 : (0 : Int) ≤ (j : Int) := by omega
      clear hi e1 e2 hx hy hgi h6
      go_enter Try.func17, Try.ntmps17
      go_wp2_with (first
        | (go_at_call 43; refine (impl_IsPermutation_any _ xs _ HR.out).mono ?_; rintro e w1 ⟨rfl, hb1⟩; have HB1 := hid hb1; have HR1 := hid (HR.out.below hb1); clear hb1)
        | (go_at_call 44; refine (lastRelatedPair_lt _ xs _ HR1.out).mono ?_; rintro e w2 ⟨rfl, hq⟩; rw [HE1.out]; have HB2 := hid (HB1.out.trans (Drew.below hq _)); have hcx2 := (HB2.out.cell (p := ⟨b, off + i, none⟩) (by exact hb)).trans (HC.out i hi0); rw [HGI.out] at hcx2; have HR2 := hid (HR.out.below HB2.out); have HS2 := hid (HS.out.below HB2.out); clear hq)
        | (go_at_call 46; refine (lastRelated_gt _ xs x _ HR2.out).mono ?_; rintro e w3 ⟨rfl, hq⟩; rw [HE2.out]; have HB3 := hid (HB2.out.trans (Drew.below hq _)); have HS3 := hid (HS.out.below HB3.out); clear hq)
        | (go_at_call 48; refine (copyOf_any _ xs _ HS3.out hl).mono ?_; rintro e w4 ⟨rfl, hrow, hb4⟩; have hci := hrow.cell hi0; have hcj := hrow.cell h5; have hfi := hrow.frozen i; have hfj := hrow.frozen j; rw [← HXI.out] at hci; rw [← HYJ.out] at hcj; have HROW := hid hrow; have HB4 := hid (Below_chain HB3.out hb4); have HS34 := hid (HB3.out.size); clear hrow hb4)
        | fail)
      have hne : ¬ i = j := by omega
      have hij : (⟨w3.heap.size, i, none⟩ : Addr) ≠ ⟨w3.heap.size, j, none⟩ := by simp
      have hji : (⟨w3.heap.size, j, none⟩ : Addr) ≠ ⟨w3.heap.size, i, none⟩ := by simp
      go_region_law (fail)
      all_goals
        have HROW5 := hid (rowIs_drew6 (swap_row (by omega) h5 HXI.out HYJ.out HROW.out))
        have HB5 := hid ((((HB4.out.setCell (p := ⟨w3.heap.size, i, none⟩) HS34.out (.int .i64 y)).setCell (p := ⟨w3.heap.size, j, none⟩) HS34.out (.int .i64 x))).drew)
        obtain ⟨w5, hw5⟩ : ∃ w5, w5 = ((w4.setCell ⟨w3.heap.size, i, none⟩ (.int .i64 y)).setCell ⟨w3.heap.size, j, none⟩ (.int .i64 x)).drew := ⟨_, rfl⟩
        rw [← hw5] at HROW5 HB5 ⊢
        clear hw5 hci hcj hfi hfj hcx2
        go_wp2_with fail
        refine (Any.slices_Reverse_int_cells Try.laysRev w3.heap.size (i + 1) (xs.length - (i + 1)) _ ((swapL xs i j).drop (i + 1)) w5 (by rw [List.length_drop, swapL_length]; exact Nat.le_refl _) (by omega) (fun t ht => ?_) (fun t _ => HROW5.out.frozen _)).mono ?_
        · rw [List.length_drop, swapL_length] at ht
          rw [HROW5.out.cell (by omega)]
          simp [List.getD_eq_getElem?_getD]
        · rintro e w6 ⟨rfl, q, hw6⟩
          have HROW6 := hid (rev_row hi0 HROW5.out hw6)
          have HB6 := hid (show Below w.heap.size w w6 by rw [hw6]; exact Go.Proofs.Yteejdagnlepegab.below_setC HS34.out _ _ _ (below_drewN HB5.out q))
          clear hw6
          go_wp2_with fail
          go_ret2
          exact ⟨_, ret_sb8 HF.out.symm, by rw [HX.out]; exact (Own.of_rowIs HROW6.out (nxtL_length hi0) (by unfold maxLen; omega)).mono HS34.out, HB6.out⟩
    · have HF : Hid (npB xs = false) := by show npB xs = false; rw [npB, decide_eq_false hi]; simp
      have HX := hid (npRes_no HF.out)
      have hneg : lastIx (lessAt xs) (xs.length - 1) = -1 := by
        have h1 := lastIx_ge (lessAt xs) (xs.length - 1)
        have h2 : ¬ 0 ≤ lastIx (lessAt xs) (xs.length - 1) := hi
        omega
      have HE1 := hid hneg
      clear hi hneg
      go_enter Try.func17, Try.ntmps17
      go_wp2_with (first
        | (go_at_call 43; refine (impl_IsPermutation_any _ xs _ HR.out).mono ?_; rintro e w1 ⟨rfl, hb1⟩; have HB1 := hid hb1; have HR1 := hid (HR.out.below hb1); clear hb1)
        | (go_at_call 44; refine (lastRelatedPair_lt _ xs _ HR1.out).mono ?_; rintro e w2 ⟨rfl, hq⟩; rw [HE1.out]; have HB2 := hid (HB1.out.trans (Drew.below hq _)); clear hq)
        | fail)
      go_ret2
      exact ⟨_, ret_sb8 HF.out.symm, by rw [HX.out]; exact Own.nil _ _, HB2.out⟩
  · have hp : permB xs = false := by simpa using hp
    have HF : Hid (npB xs = false) := by show npB xs = false; rw [npB, hp]; rfl
    have HX := hid (npRes_no HF.out)
    go_enter Try.func17, Try.ntmps17
    go_wp2_with (first | (go_at_call 43; refine (impl_IsPermutation_any _ xs _ HR.out).mono ?_; rintro e w1 ⟨rfl, hb1⟩; have HB1 := hid hb1; clear hb1) | fail)
    go_ret2
    exact ⟨_, ret_sb8 HF.out.symm, by rw [HX.out]; exact Own.nil _ _, HB1.out⟩
end Go.Proofs.Yteejdagnlepegab
