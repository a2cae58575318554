/- Contract: impl.IsMixedList (stage 4). Conditions: the slices read as lists and are not nil. -/
import Derived.Test.YtkphbelgamfmnaaMlI
import Derived.Test.YtkphbelgamfmnaaOnM
namespace Go.Proofs.Ytkphbelgamfmnaa
open Go.RowKit
set_option linter.unusedVariables false
set_option maxRecDepth 4000

theorem metGB {f g : Nat → Int} {k : Nat} {r : Int} (h : ∀ j, j < k → f j = g j) : metG f k r = metB g k r := by
  rw [Bool.eq_iff_iff, metG_iff, metB_iff]
  exact ⟨fun ⟨j, hj, e⟩ => ⟨j, hj, by rw [← h j hj]; exact e⟩, fun ⟨j, hj, e⟩ => ⟨j, hj, by rw [h j hj]; exact e⟩⟩
theorem on_mix {xs : List Int} (hb : basesB xs = true) (L : List (List Int)) (n : Nat) : allTo n (onG (rankRes xs) (rankB xs) L) = (allTo n (digL xs L) && onceB (rkAt xs L) n) := by
  have key : ∀ j, rankB xs (L.getD j []) = digL xs L j := fun j => by rw [rankB, hb, Bool.true_and]; rfl
  have key2 : ∀ j, digL xs L j = true → rankRes xs (L.getD j []) = rkAt xs L j := fun j h => by rw [rankRes_yes (by rw [key]; exact h)]; rfl
  rw [Bool.eq_iff_iff, Bool.and_eq_true, onceB, allTo_iff, allTo_iff, allTo_iff]
  constructor
  · intro h
    have hd : ∀ i, i < n → digL xs L i = true := fun i hi => by
      have := h i hi
      rw [onG, Bool.and_eq_true, key] at this
      exact this.1
    refine ⟨hd, fun i hi => ?_⟩
    have := h i hi
    rw [onG, Bool.and_eq_true, key2 i (hd i hi), metGB (g := rkAt xs L) (fun j hj => key2 j (hd j (by omega)))] at this
    exact this.2
  · intro ⟨hd, ho⟩ i hi
    rw [onG, key, hd i hi, key2 i (hd i hi), metGB (g := rkAt xs L) (fun j hj => key2 j (hd j (by omega)))]
    exact ho i hi
abbrev mixBox (v : Value) : Obj := .cells #[v] 22
theorem mix_box (w : World) (b off n c : Nat) : (w.alloc (mixBox (.slice (some ⟨b, off, none⟩) n c))).cell? ⟨w.heap.size, 0, none⟩ = some (.slice (some ⟨b, off, none⟩) n c) := by simp
theorem impl_IsMixedList_any (v u : Value) (xs : List Int) (L : List (List Int)) (w : World) (h : Sits w v xs) (h' : SitsL w u L) :
    Calls Try.prog 15 #[v, u] w fun e w' => e = .returned (.tuple #[.bool (mlV xs L), .bool (mlOk xs L)]) ∧ Below w.heap.size w w' := by
  have hba : Below w.heap.size w (w.alloc (mixBox v)) := (Below.refl w.heap.size w).alloc (Nat.le_refl _) _
  have HBA := hid hba
  have HSL := hid (h'.below hba)
  obtain ⟨b, off, c, rfl, hc1, hm, hb0, hc⟩ := h'
  have HS := hid (h.below hba)
  obtain ⟨bx, ox, cx, rfl, _⟩ := h
  have HCA := hid (mix_box w bx ox xs.length cx)
  clear hc hba
  by_cases hb : basesB xs = true
  · have HB := hid hb
    have HPR := hid (prodRes_yes hb)
    have hpp := basesB_iff.1 hb
    have HALL := hid hpp.2.1
    have hp0 : 0 ≤ prodTo xs xs.length := by have := prodTo_pos hpp.2.1; omega
    obtain ⟨p, hp⟩ : ∃ p : Nat, prodTo xs xs.length = (p : Int) := ⟨(prodTo xs xs.length).toNat, by omega⟩
    have hp20 : p ≤ 1048576 := by have := hpp.2.2; omega
    rw [hp] at HPR
    by_cases hl : L.length ≤ 1100
    · have HOK := hid (mlOk_yes hb hl)
      obtain ⟨o, ho⟩ : ∃ o, o = onA (rankRes xs) (rankB xs) p L := ⟨_, rfl⟩
      have HO := hid ho
      have HLT := hid (show ∀ l ∈ L, rankB xs l = true → 0 ≤ rankRes xs l ∧ rankRes xs l < (p : Int) from fun l hl2 hr => by
        obtain ⟨i, hi, rfl⟩ := List.mem_iff_getElem.1 hl2
        have h1 : digL xs L i = true := by rw [rankB, Bool.and_eq_true] at hr; unfold digL; rw [getDL hi]; exact hr.2
        have h2 := rk_range HALL.out h1
        rw [rankRes_yes hr, ← hp]
        rw [rkAt, getDL hi] at h2
        exact h2)
      have HV := hid (show mlV xs L = (o && allTo L.length (nbL L)) by
        rw [ho, onA, on_mix hb, mlV, HOK.out, Bool.true_and, hp]
        have : decide ((L.length : Int) = (p : Int)) = decide (L.length = p) := by
          rw [decide_eq_decide]; omega
        rw [this, Bool.and_assoc, Bool.and_assoc])
      cases o with
      | true =>
        have HDD := hid (show allTo L.length (digL xs L) = true by
          rw [onA, on_mix hb, Bool.eq_iff_iff, Bool.and_eq_true, Bool.and_eq_true] at ho
          exact (ho.1 rfl).2.1)
        have HNV := hid (show allTo L.length (nbL L) = mlV xs L by rw [HV.out, Bool.true_and])
        obtain ⟨nb, hnb⟩ : ∃ nb, nb = allTo L.length (nbL L) := ⟨_, rfl⟩
        have HNB := hid hnb
        clear ho hb hnb hp hpp
        go_enter Try.func15, Try.ntmps15
        go_wp2_with (first
          | (go_at_call 33; refine (productOf_any _ xs _ HS.out).mono ?_; rintro e w1 ⟨rfl, rfl⟩; rw [HB.out, HPR.out])
          | (go_at_call 36; refine (areAllOnce_M xs _ ⟨w.heap.size, 0, none⟩ p hp20 _ L _ HCA.out HS.out HSL.out (fun _ _ => trivial) HLT.out).mono ?_; rintro e w1 ⟨rfl, hb1⟩; rw [← HO.out]; have HB1 := hid (Below_chain HBA.out hb1); have HSL1 := hid (HSL.out.below hb1); clear hb1)
          | (go_at_call 37; refine (areDigitNeighbours_any _ xs L _ HSL1.out HB.out HDD.out hl).mono ?_; rintro e w2 ⟨rfl, hb2⟩; rw [← HNB.out]; have HB2 := hid hb2; clear hb2)
          | fail)
        go_ret2
        exact ⟨ret_bb (HNB.out.trans HNV.out) HOK.out.symm, Below_chain HB1.out HB2.out⟩
      | false =>
        have HV2 := hid (show mlV xs L = false by rw [HV.out, Bool.false_and])
        clear ho hb hp hpp
        go_enter Try.func15, Try.ntmps15
        go_wp2_with (first
          | (go_at_call 33; refine (productOf_any _ xs _ HS.out).mono ?_; rintro e w1 ⟨rfl, rfl⟩; rw [HB.out, HPR.out])
          | (go_at_call 36; refine (areAllOnce_M xs _ ⟨w.heap.size, 0, none⟩ p hp20 _ L _ HCA.out HS.out HSL.out (fun _ _ => trivial) HLT.out).mono ?_; rintro e w1 ⟨rfl, hb1⟩; rw [← HO.out]; have HB1 := hid (Below_chain HBA.out hb1); clear hb1)
          | fail)
        go_ret2
        exact ⟨ret_bb HV2.out.symm HOK.out.symm, HB1.out⟩
    · have HOK := hid (mlOk_no2 (xs := xs) (L := L) hl)
      have HV := hid (mlV_no HOK.out)
      clear hp hb hpp
      go_enter Try.func15, Try.ntmps15
      go_wp2_with (first
        | (go_at_call 33; refine (productOf_any _ xs _ HS.out).mono ?_; rintro e w1 ⟨rfl, rfl⟩; rw [HB.out, HPR.out])
        | fail)
      go_ret2
      exact ⟨ret_bb HV.out.symm HOK.out.symm, HBA.out⟩
  · have hb : basesB xs = false := by simpa using hb
    have HB := hid hb
    have HPR := hid (prodRes_no hb)
    have HOK := hid (mlOk_no1 (L := L) hb)
    have HV := hid (mlV_no HOK.out)
    clear hb
    go_enter Try.func15, Try.ntmps15
    go_wp2_with (first
      | (go_at_call 33; refine (productOf_any _ xs _ HS.out).mono ?_; rintro e w1 ⟨rfl, rfl⟩; rw [HB.out, HPR.out])
      | fail)
    go_ret2
    exact ⟨ret_bb HV.out.symm HOK.out.symm, HBA.out⟩
end Go.Proofs.Ytkphbelgamfmnaa
