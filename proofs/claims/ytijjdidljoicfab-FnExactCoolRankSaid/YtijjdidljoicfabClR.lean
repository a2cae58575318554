/- Contracts: slices.IndexFunc with the closure of CoolRank, impl.CoolRank. Conditions: the slice reads as a list. -/
import Derived.Test.YtijjdidljoicfabCl2
import Derived.Test.YtijjdidljoicfabI4
namespace Go.Proofs.Ytijjdidljoicfab
open Go.RowKit
set_option linter.unusedVariables false

theorem rankClos_any (l xs : List Int) (v u : Value) (a : Addr) (w : World) (ha : w.cell? a = some u) (hu : Reads w u l) (h : Reads w v xs) :
    Calls Try.prog 43 #[v, .pointer (some a)] w fun e w' => e = .returned (.bool (decide (xs = l))) ∧ Below w.heap.size w w' := by
  have HV := hid h
  have HU := hid hu
  obtain ⟨ao, c, rfl, _⟩ := hu
  clear h
  go_enter Try.func43, Try.ntmps43
  go_wp2_with (first | (go_at_call 35; refine (Equal_any _ _ xs l _ HV.out HU.out).mono ?_; rintro e w1 ⟨rfl, hb1⟩; have HB1 := hid hb1; clear hb1) | fail)
  go_ret
  exact ⟨rfl, HB1.out⟩
set_option maxHeartbeats 1000000 in
theorem IndexFunc_same (v u : Value) (L : List (List Int)) (l : List Int) (base : Nat) (a : Addr) (w : World) (h : Lists w base v L) (ha : w.cell? a = some u) (h' : Reads w u l) :
    Calls Try.prog 44 #[v, .func (.func 43) #[] #[.pointer (some a)]] w fun e w' => e = .returned (.int .i64 (placeIn l L)) ∧ Below w.heap.size w w' := by
  have HU := hid h'
  have HA := hid ha
  have hab : a.block < w.heap.size := World.block_lt_of_cell? w _ ha
  rcases h.form with ⟨rfl, rfl⟩ | ⟨g, cap, rfl, _, hg, hc1, hm, hc⟩
  · go_enter Try.func44, Try.ntmps44
    go_wp2_with fail
    refine wp_loop_rounds 1 ?_
    rw [rounds_succ]
    go_wp2
    go_ret
    exact ⟨rfl, Below.refl _ _⟩
  · have HC := hid hc
    clear hc h h' ha
    go_enter Try.func44, Try.ntmps44
    go_wp2_with fail
    go_loopw [5, 8] (fun _ i wr => ∃ k : Nat, k ≤ L.length ∧ i = .int .i64 k ∧ (∀ j (hj : j < L.length), j < k → L[j] ≠ l) ∧ Below w.heap.size w wr) (fun _ i _ => L.length - (intOf i).toNat)
    case atStart => exact ⟨0, Nat.zero_le _, rfl, fun j _ h => by omega, Below.refl _ _⟩
    case round =>
      obtain ⟨k, hk, rfl, hno, hbel⟩ := hrel
      have HNO := hid hno
      have HB := hid hbel
      clear hno
      by_cases hlt : k < L.length
      · obtain ⟨z, hz, hown⟩ := HC.out k hlt
        have hcx : wr.cell? ⟨g, k, none⟩ = some z := (hbel.cell (by exact hg)).trans hz
        have HZ := hid (hown.reads.below hbel)
        have HUU := hid (HU.out.below hbel)
        have HAA := hid ((hbel.cell (p := a) hab).trans HA.out)
        obtain ⟨zl, hzl⟩ : ∃ zl, zl = L[k] := ⟨_, rfl⟩
        rw [← hzl] at HZ
        have HZL := hid hzl
        have hkl : (k : Int) < (L.length : Int) := by omega
        have hk0 : (0 : Int) ≤ (k : Int) := by omega
        clear hz hown hbel hzl
        by_cases he : zl = l
        · have hd : decide (zl = l) = true := by simp [he]
          have HF : Hid (placeIn l L = k) := hid (placeIn_found l L k hlt (fun j hj => HNO.out j (by omega) hj) (by rw [← HZL.out, he]))
          clear he
          go_wp2_with (first | (go_at_call 43; refine (rankClos_any l zl _ u a _ HAA.out HUU.out HZ.out).mono ?_; rintro e w2 ⟨rfl, hb2⟩; rw [hd]; have HB2 := hid (Below_chain HB.out hb2); clear hb2) | fail)
          go_ret
          exact ⟨ret_int HF.out.symm, HB2.out⟩
        · have hd : decide (zl = l) = false := by simp [he]
          have HNE := hid he
          clear he
          go_wp2_with (first | (go_at_call 43; refine (rankClos_any l zl _ u a _ HAA.out HUU.out HZ.out).mono ?_; rintro e w2 ⟨rfl, hb2⟩; rw [hd]; have HB2 := hid (Below_chain HB.out hb2); clear hb2) | fail)
          go_roundw
          case rel => exact ⟨k + 1, by omega, by go_num, fun j hj h1 => by
            by_cases e : j = k
            · subst e; rw [← HZL.out]; exact HNE.out
            · exact HNO.out j hj (by omega), HB2.out⟩
          case measure => simp [intOf]; omega
      · have HF : Hid (placeIn l L = -1) := hid (placeIn_none l L (fun j hj => HNO.out j hj (by omega)))
        go_wp2_with fail
        go_ret
        exact ⟨ret_int HF.out.symm, HB.out⟩
theorem ones_from {xs : List Int} (h : isBits xs = true) : ∀ k, k ≤ xs.length → onesTo xs k = ((fromL xs k).length : Nat)
  | 0, _ => rfl
  | k + 1, hk => by
    have ih := ones_from h k (by omega)
    have h2 := h
    rw [isBits, Bool.and_eq_true] at h2
    have h3 := inB_iff.1 ((allTo_iff _ _).1 h2.2 k (by omega))
    rw [onesTo, ih]
    by_cases hb : (xs.getD k 0 == 1) = true
    · rw [fromL_yes hb, List.length_append]
      have : xs.getD k 0 = 1 := by simpa using hb
      rw [this]; rfl
    · have hb : (xs.getD k 0 == 1) = false := by simpa using hb
      rw [fromL_no hb]
      have : xs.getD k 0 ≠ 1 := by simpa using hb
      omega
set_option maxHeartbeats 1000000 in
theorem impl_CoolRank_any (v : Value) (xs : List Int) (w : World) (h : Sits w v xs) (hl : xs.length ≤ 1048576) (_hwf : ∀ x ∈ xs, (Lit.int .i64 x).wf = true) :
    Calls Try.prog 16 #[v] w fun e w' => e = .returned (.tuple #[.int .i64 (crV xs), .bool (isBits xs)]) ∧ Below w.heap.size w w' := by
  have HS := hid h
  have HWF := hid _hwf
  obtain ⟨g, off, c, rfl, hc1, hm, hb, hc⟩ := h
  have HC0 := hid (show (w.alloc (.cells #[.slice (some ⟨g, off, none⟩) xs.length c] 28)).cell? ⟨w.heap.size, 0, none⟩ = some (.slice (some ⟨g, off, none⟩) xs.length c) by simp)
  have HA0 := hid ((Below.refl w.heap.size w).alloc (Nat.le_refl _) (.cells #[.slice (some ⟨g, off, none⟩) xs.length c] 28))
  have HS0 := hid (HS.out.below HA0.out)
  have hbl0 : w.heap.size < (w.alloc (.cells #[.slice (some ⟨g, off, none⟩) xs.length c] 28)).heap.size := by simp
  obtain ⟨w0, hw0⟩ : ∃ w0, w0 = w.alloc (.cells #[.slice (some ⟨g, off, none⟩) xs.length c] 28) := ⟨_, rfl⟩
  rw [← hw0] at HC0 HA0 HS0 hbl0
  clear hc _hwf
  cases hi : isBits xs with
  | false =>
    have HI := hid hi
    have HR := hid (show crV xs = 0 by rw [crV, if_neg (by rw [hi]; simp)])
    clear hi
    go_enter Try.func16, Try.ntmps16
    go_wp2_with fail
    rw [← hw0]
    refine (impl_FromBits_any _ xs w0 HS0.out hl HWF.out).mono ?_
    rintro e w1 ⟨u, rfl, ho1, hb1⟩
    rw [HI.out]
    have HB1 := hid (Below_chain HA0.out hb1)
    clear ho1 hb1
    go_wp2_with fail
    go_ret2
    exact ⟨ret_nb2 HR.out.symm rfl, HB1.out⟩
  | true =>
    have HI := hid hi
    have h12 : xs.length ≤ 12 := by rw [isBits, Bool.and_eq_true, decide_eq_true_eq] at hi; exact hi.1
    obtain ⟨K, hK⟩ : ∃ K, K = (fromL xs xs.length).length := ⟨_, rfl⟩
    have hKl : K ≤ xs.length := by rw [hK]; exact fromL_len xs xs.length
    have HFB := hid (show (fbRes xs).length = K by rw [fbRes, if_pos hi, hK])
    have HR := hid (show crV xs = placeIn xs (coolS xs.length K) by rw [crV, if_pos hi, ones_from hi _ (Nat.le_refl _), Int.toNat_natCast, ← hK])
    have HSZ := hid (show szB (xs.length : Int) (K : Int) = true by rw [szB, Bool.and_eq_true, inB_iff, inB_iff]; omega)
    have HCL := hid (show clRes (xs.length : Int) (K : Int) = coolS xs.length K by rw [clRes, if_pos HSZ.out]; rfl)
    have HWL := hid (show (Lit.int .i64 (xs.length : Int)).wf = true from WalkArith.wf_i64 (by omega))
    have HWK := hid (show (Lit.int .i64 (K : Int)).wf = true from WalkArith.wf_i64 (by omega))
    clear hi hK
    go_enter Try.func16, Try.ntmps16
    go_wp2_with fail
    rw [← hw0]
    refine (impl_FromBits_any _ xs w0 HS0.out hl HWF.out).mono ?_
    rintro e w1 ⟨u, rfl, ho1, hb1⟩
    rw [HI.out]
    obtain ⟨ao1, c1, rfl⟩ := ho1.slice2
    rw [HFB.out]
    have HB1 := hid (Below_chain HA0.out hb1)
    have HC1 := hid ((hb1.cell (p := ⟨w.heap.size, 0, none⟩) hbl0).trans HC0.out)
    have HS1 := hid (HS0.out.below hb1)
    have hc1' := HC1.out
    clear ho1 hb1 hw0
    go_wp2_with fail
    refine (impl_CoolList_any _ _ _).mono ?_
    rintro e w2 ⟨u2, rfl, hu2, hb2⟩
    rw [HSZ.out]
    rw [HCL.out] at hu2
    have HU2 := hid hu2.lists
    have HC2 := hid ((hb2.cell (p := ⟨w.heap.size, 0, none⟩) (World.block_lt_of_cell? _ _ HC1.out)).trans HC1.out)
    have HS2 := hid (HS1.out.below hb2)
    have HB2 := hid (Below_chain HB1.out hb2)
    clear hu2 hb2 hc1'
    go_wp2_with (first
      | (go_at_call 44; refine (IndexFunc_same _ _ _ xs _ ⟨w.heap.size, 0, none⟩ _ HU2.out HC2.out HS2.out.reads).mono ?_; rintro e w3 ⟨rfl, hb3⟩; have HB3 := hid (Below_chain HB2.out hb3); clear hb3)
      | fail)
    go_ret2
    exact ⟨ret_nb2 HR.out.symm rfl, HB3.out⟩
end Go.Proofs.Ytijjdidljoicfab
