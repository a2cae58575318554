/- The walk of the law FnExactComplementsOf. Conditions: none. -/
import Derived.Test.YtijjdidljoicfabCmpI
import Derived.Test.YtijjdidljoicfabSS3
namespace Go.Proofs.Ytijjdidljoicfab
open Go.RowKit
set_option linter.unusedVariables false

theorem preLen_row {L : List (List Int)} {i : Nat} (hi : i < L.length) : L[i].length ≤ preLen L L.length := by
  have h1 := preLen_mono L (show i + 1 ≤ L.length from hi)
  have h2 : preLen L (i + 1) = preLen L i + L[i].length := by rw [preLen]; simp [List.getD_eq_getElem?_getD, hi]
  omega
theorem missL_upTo (N : Nat) (hN : N ≤ 12) (l : List Int) : (missL (upTo N) l).length ≤ 12 := by
  have := missL_len (upTo N) l
  rw [upTo_length] at this
  omega
theorem preLen_cmpRes (n : Int) (L : List (List Int)) : preLen (cmpRes n L) (cmpRes n L).length ≤ 100000 := by
  cases h : chlB n L with
  | false => rw [cmpRes_no h]; exact Nat.zero_le _
  | true =>
    rw [cmpRes_yes h]
    simp only [chlB, Bool.and_eq_true, decide_eq_true_eq] at h
    have hn := inB_iff.1 h.2.1
    have h2 := preLen_le (L := cmpL n L) (c := 12) (fun l hl => by
      unfold cmpL at hl
      obtain ⟨x, _, rfl⟩ := List.mem_map.1 hl
      exact missL_upTo _ (by omega) _) (cmpL n L).length
    have h3 : (cmpL n L).length = L.length := by simp [cmpL]
    have := h.2.2
    omega
set_option maxHeartbeats 2000000 in
theorem walk_FnExactComplementsOf (a0 : Int) (a1 : Option Addr) (len1 cap1 : Nat) (L1 : List (List Int)) (w : World) (w0 : (Lit.int .i64 a0).wf = true) (w1 : ReadsL w (.slice a1 len1 cap1) L1 ∧ L1.length = len1 ∧ ∀ l ∈ L1, ∀ n ∈ l, (Lit.int .i64 n).wf = true) :
    Calls Try.prog 8 #[.int .i64 a0, .slice a1 len1 cap1] w fun e w' => e = .returned (.bool true) ∧ Below w.heap.size w w' := by
  obtain ⟨w1, hL1, _⟩ := w1
  subst hL1
  have HR1 := hid w1
  clear w1 w0
  have hX := preLen_cmpRes a0 L1
  obtain ⟨X, hXX⟩ : ∃ X, X = cmpRes a0 L1 := ⟨_, rfl⟩
  have HXX := hid hXX
  rw [← hXX] at hX
  obtain ⟨p, hp⟩ : ∃ p, p = preLen X X.length := ⟨_, rfl⟩
  have HP := hid hp
  rw [← hp] at hX
  have hn2 : ((chlB a0 L1) != (chlB a0 L1)) = false := by simp
  clear hXX hp
  have B0 := hid (Below.refl w.heap.size w)
  go_enter Try.func8, Try.ntmps8
  go_wp2_with fail
  refine (szIntSS_sum _ L1 1048576 _ HR1.out (by omega) (by omega)).mono ?_
  rintro e W0 ⟨q, rfl, rfl, hq1, hq2⟩
  by_cases hq : 0 ≤ q
  case neg =>
    have hq' : q < 0 := by omega
    clear hq2
    go_wp2_with fail
    go_ret
    exact ⟨rfl, Below.refl _ _⟩
  case pos =>
    have hq' : ¬ q < 0 := by omega
    have hsum := hq2 hq
    have hl1 : L1.length ≤ 1048576 := by omega
    obtain ⟨t, ht⟩ : ∃ t, t = preLen L1 L1.length := ⟨_, rfl⟩
    rw [← ht] at hsum
    have HT := hid ht
    have HL2 := hid (show ∀ i (hi : i < L1.length), L1[i].length ≤ 1048576 from fun i hi => by have := preLen_row hi; rw [← ht] at this; omega)
    clear hq2 ht
    go_wp2_with fail
    refine (toIntSS_any _ L1 _ HR1.out hl1 HL2.out).mono ?_
    rintro e W1 ⟨rfl, ho, hb⟩
    have B1 := hid (Below_chain B0.out hb)
    have R1 := hid ho
    clear hb ho
    go_wp2_with fail
    refine (spec_ComplementsOf_any a0 _ L1 _ _ R1.out.1).mono ?_
    rintro e W2 ⟨u, rfl, ho, hb⟩
    rw [← HXX.out] at ho
    have B2 := hid (Below_chain B1.out hb)
    have U2 := hid ho
    have S2 := hid B2.out.size
    clear hb ho
    go_wp2_with fail
    refine (toIntSS_apart _ L1 _ (HR1.out.below B2.out) hl1 HL2.out).mono ?_
    rintro e W3 ⟨rfl, hr, hu, hb⟩
    have C3 := hid hb
    have R3 := hid hr
    have X3 := hid hu
    have S3 := hid hb.size
    clear hb hr hu
    go_wp2_with fail
    refine (impl_ComplementsOf_any a0 _ L1 _ R3.out.2).mono ?_
    rintro e W4 ⟨g, rfl, ho, hb⟩
    rw [← HXX.out] at ho
    have C4 := hid (Below_chain C3.out hb)
    have X4 := hid (X3.out.below hb)
    have G4 := hid ho
    have S4 := hid (show W3.heap.size ≤ W4.heap.size from hb.size)
    clear hb ho
    go_wp2_with fail
    refine (eqIntSS_any _ _ X _ _ _ G4.out.lists (U2.out.below C4.out)).mono ?_
    rintro e W5 ⟨rfl, hb⟩
    have C5 := hid (Below_chain C4.out hb)
    have X5 := hid (X4.out.below hb)
    have G5 := hid (G4.out.below hb)
    have S5 := hid (Nat.le_trans S4.out hb.size)
    clear hb
    go_wp2_with fail
    refine (toIntSS_any _ L1 _ (HR1.out.below (Below_chain B2.out C5.out)) hl1 HL2.out).mono ?_
    rintro e W6 ⟨rfl, ho, hb⟩
    have C6 := hid (Below_chain C5.out hb)
    have X6 := hid (X5.out.below hb)
    have G6 := hid (G5.out.below hb)
    have S6 := hid (Nat.le_trans S5.out hb.size)
    have R6 := hid ho
    clear hb ho
    go_wp2_with fail
    refine (eqIntSS_any _ _ L1 _ _ _ X6.out.listsA.lists R6.out.1).mono ?_
    rintro e W7 ⟨rfl, hb⟩
    have C7 := hid (Below_chain C6.out hb)
    have X7 := hid (X6.out.below hb)
    have G7 := hid (G6.out.below hb)
    have S7 := hid (Nat.le_trans S6.out hb.size)
    clear hb
    go_wp2_with fail
    refine (markIntSS_kept _ L1 _ _ _ _ X7.out (by omega) (by omega) (by rw [← HT.out]; omega)).mono ?_
    rintro e W8 ⟨rfl, hb, hsz, hst⟩
    rw [← HT.out]
    have C8 := hid (C7.out.trans hb)
    have G8 := hid (G7.out.stay hst)
    have S8 := hid (Nat.le_trans S7.out hsz)
    have hk1 : ¬ ((1 : Int) + (t : Int) < 0) := by omega
    clear hb hsz hst
    go_wp2_with fail
    refine (eqIntSS_any _ _ X _ _ _ G8.out.lists (U2.out.below C8.out)).mono ?_
    rintro e W9 ⟨rfl, hb⟩
    have C9 := hid (Below_chain C8.out hb)
    have G9 := hid (G8.out.below hb)
    have S9 := hid (Nat.le_trans S8.out hb.size)
    clear hb
    go_wp2_with fail
    refine (markIntSS_any _ X _ _ _ G9.out (by omega) (by omega) (by rw [← HP.out]; omega)).mono ?_
    rintro e W10 ⟨rfl, M, hM, hMl, hMe, hb, hsz⟩
    rw [← HP.out]
    have C10 := hid (C9.out.trans (hb.mono S3.out))
    have S10 := hid (Nat.le_trans S9.out hsz)
    have G10 := hid hM
    obtain ⟨hmk, hpm⟩ := marked_of hMl hMe
    have HMK := hid hmk
    have HPM := hid (hpm.trans HP.out.symm)
    clear hM hMl hMe hb hsz hmk hpm
    go_wp2_with fail
    refine (heldIntSS_any _ M _ _ _ G10.out.lists HMK.out (by omega) (by omega) (by rw [HPM.out]; omega)).mono ?_
    rintro e W11 ⟨rfl, he⟩
    subst he
    rw [HPM.out]
    go_wp2_with fail
    refine (toIntSS_any _ L1 _ (HR1.out.below (Below_chain B2.out C10.out)) hl1 HL2.out).mono ?_
    rintro e W12 ⟨rfl, ho, hb⟩
    have C12 := hid (Below_chain C10.out hb)
    have G12 := hid (G10.out.below hb)
    have R12 := hid ho
    clear hb ho
    go_wp2_with fail
    refine (impl_ComplementsOf_any a0 _ L1 _ R12.out.2).mono ?_
    rintro e W13 ⟨h, rfl, ho, hb⟩
    rw [← HXX.out] at ho
    have C13 := hid (Below_chain C12.out hb)
    have G13 := hid (G12.out.below hb)
    have H13 := hid ho
    clear hb ho
    go_wp2_with fail
    refine (eqIntSS_any _ _ X _ _ _ H13.out.lists (U2.out.below C13.out)).mono ?_
    rintro e W14 ⟨rfl, hb⟩
    have C14 := hid (Below_chain C13.out hb)
    have G14 := hid (G13.out.below hb)
    clear hb
    go_wp2_with fail
    refine (heldIntSS_any _ M _ _ _ G14.out.lists HMK.out (by omega) (by omega) (by rw [HPM.out]; omega)).mono ?_
    rintro e W15 ⟨rfl, he⟩
    subst he
    rw [HPM.out]
    go_wp2
    go_ret
    exact ⟨rfl, Below_chain B2.out C14.out⟩
end Go.Proofs.Ytijjdidljoicfab
