/- The walk of the law FnExactMovesOf. Conditions: none. -/
import Derived.Test.YteenmndgejeihaaMvI8
import Derived.Test.YteenmndgejeihaaBs3
import Derived.Test.YteenmndgejeihaaBs1
import Derived.Test.YteenmndgejeihaaBs4
import Derived.Test.YteenmndgejeihaaCmpP
namespace Go.Proofs.Yteenmndgejeihaa
open Go.RowKit
set_option linter.unusedVariables false
set_option maxRecDepth 4000

set_option maxHeartbeats 2000000 in
theorem walk_FnExactMovesOf (a0 : Int) (a1 : Option Addr) (len1 cap1 : Nat) (L1 : List (List Int)) (a2 : Option Addr) (len2 cap2 : Nat) (z2 : List Mv) (w : World) (w0 : (Lit.int .i64 a0).wf = true) (w1 : ReadsL w (.slice a1 len1 cap1) L1 ∧ L1.length = len1 ∧ ∀ l ∈ L1, ∀ n ∈ l, (Lit.int .i64 n).wf = true) (w2 : ReadsM w (.slice a2 len2 cap2) z2 ∧ z2.length = len2 ∧ wfM z2) :
    Calls Try.prog 11 #[.int .i64 a0, .slice a1 len1 cap1, .slice a2 len2 cap2] w fun e w' => e = .returned (.bool true) ∧ Below w.heap.size w w' := by
  obtain ⟨hr1, hlen1, hwf1⟩ := w1
  subst hlen1
  have wf1 := hid hwf1
  clear hwf1
  have HR1 := hid hr1
  clear hr1
  obtain ⟨hr2, hlen2, hwf2⟩ := w2
  obtain ⟨ms2, hms2⟩ : ∃ q, q = z2 := ⟨_, rfl⟩
  rw [← hms2] at hr2 hlen2 hwf2
  clear hms2
  subst hlen2
  have wf2 := hid hwf2
  clear hwf2
  have HR2 := hid hr2
  clear hr2
  have B0 := hid (Below.refl w.heap.size w)
  go_enter Try.func11, Try.ntmps11
  go_wp2_with fail
  refine (szIntSS_sum _ L1 1048576 _ HR1.out (by omega) (by omega)).mono ?_
  rintro e w9 ⟨q1, rfl, rfl, hq11, hq21⟩
  by_cases hq1 : 0 ≤ q1
  case neg =>
    have hq' : q1 < 0 := by omega
    clear hq21
    go_wp2_with fail
    go_ret
    exact ⟨rfl, Below.refl _ _⟩
  case pos =>
    have hq'1 : ¬ q1 < 0 := by omega
    have hsum1 := hq21 hq1
    have hl1 : L1.length ≤ 1048576 := by omega
    obtain ⟨t1, ht1⟩ : ∃ t, t = preLen L1 L1.length := ⟨_, rfl⟩
    rw [← ht1] at hsum1
    have HT1 := hid ht1
    have HL1 := hid (show ∀ i (hi : i < L1.length), L1[i].length ≤ 1048576 from fun i hi => by have := preLen_row hi; rw [← ht1] at this; omega)
    clear hq21 ht1
    go_wp2_with fail
    refine (szMoveS_any _ ms2 q1 _ HR2.out (by omega) (by omega)).mono ?_
    rintro e w9 ⟨rfl, rfl⟩
    by_cases hl2 : (ms2.length : Int) ≤ q1
    case neg =>
      rw [if_pos (by omega)]
      go_wp2_with fail
      go_ret
      exact ⟨rfl, Below.refl _ _⟩
    case pos =>
      rw [if_neg (by omega)]
      have hsz2 : ¬ (q1 - (ms2.length : Int)) < 0 := by omega
      have hm2 : ms2.length ≤ 1048576 := by omega
      have hX : (mofRes a0 L1 ms2).length ≤ 1048576 := bound_MovesOf a0 L1 ms2
      obtain ⟨X, hXX⟩ : ∃ X, X = mofRes a0 L1 ms2 := ⟨_, rfl⟩
      have HXX := hid hXX
      rw [← hXX] at hX
      clear hXX
      have hd1 : decide (X = X) = true := by simp
      have hn2 : ((mofB a0 L1 ms2) != (mofB a0 L1 ms2)) = false := by simp
      go_wp2_with fail
      refine (toIntSS_any _ L1 _ (HR1.out.below B0.out) hl1 HL1.out).mono ?_
      rintro e W1 ⟨rfl, ho, hb⟩
      have B1 := hid (Below_chain B0.out hb); have S1 := hb.size; clear B0
      clear hb
      have S1x := hid ho; clear ho
      go_wp2_with fail
      refine (toMoveS_any _ ms2 _ (HR2.out.below B1.out) hm2).mono ?_
      rintro e W2 ⟨rfl, ho, hb⟩
      have T2 := World.rowIs.lt ho
      have Lt := hid (S1x.out.below hb); clear S1x; have S1x := hid Lt.out; clear Lt
      have B2 := hid (Below_chain B1.out hb); have S2 := hb.size; clear B1
      clear hb
      have S2x := hid ho; clear ho
      go_wp2_with fail
      refine (spec_MovesOf_any a0 _ _ L1 ms2 _ _ S1x.out.1 (S2x.out.reads hm2) wf2.out).mono ?_
      rintro e W3 ⟨vU, rfl, ho, hb⟩
      rw [← HXX.out] at ho
      have BU := hid (Below_chain B2.out hb); have S3 := hb.size; clear B2 hb
      have C3 := hid (Below.refl W3.heap.size W3)
      have U := hid ho; clear ho
      clear S1x
      clear S2x
      go_wp2_with fail
      refine (toIntSS_apart _ L1 _ (HR1.out.below (Below_chain BU.out C3.out)) hl1 HL1.out).mono ?_
      rintro e W4 ⟨rfl, hr, ho, hb⟩
      have C4 := hid (Below_chain C3.out hb); have S4 := hb.size; clear C3
      clear hb
      have X1 := hid ho; clear ho
      have X1R := hid hr; clear hr
      go_wp2_with fail
      refine (toMoveS_any _ ms2 _ (HR2.out.below (Below_chain BU.out C4.out)) hm2).mono ?_
      rintro e W5 ⟨rfl, ho, hb⟩
      have T5 := World.rowIs.lt ho
      have Lt := hid (X1.out.below hb); clear X1; have X1 := hid Lt.out; clear Lt
      have Lt := hid (X1R.out.below hb); clear X1R; have X1R := hid Lt.out; clear Lt
      have C5 := hid (Below_chain C4.out hb); have S5 := hb.size; clear C4
      clear hb
      have X2 := hid ho; clear ho
      go_wp2_with fail
      refine (impl_MovesOf_any a0 _ _ L1 ms2 _ X1R.out.2 (X2.out.reads hm2)).mono ?_
      rintro e W6 ⟨vG, rfl, ho, hb⟩
      rw [← HXX.out] at ho
      have Lt := hid (X1.out.below hb); clear X1; have X1 := hid Lt.out; clear Lt
      have Lt := hid (X1R.out.below hb); clear X1R; have X1R := hid Lt.out; clear Lt
      have Lt := hid (X2.out.below hb); clear X2; have X2 := hid Lt.out; clear Lt
      have C6 := hid (Below_chain C5.out hb); have S6 := hb.size; clear C5
      clear hb
      have G := hid ho; clear ho
      clear X1R
      go_wp2_with fail
      refine (eqIntS_any _ _ X X _ G.out.reads (U.out.below C6.out).reads).mono ?_
      rintro e W7 ⟨rfl, hb⟩
      have Lt := hid (X1.out.below hb); clear X1; have X1 := hid Lt.out; clear Lt
      have Lt := hid (X2.out.below hb); clear X2; have X2 := hid Lt.out; clear Lt
      have Lt := hid (G.out.below hb); clear G; have G := hid Lt.out; clear Lt
      have C7 := hid (Below_chain C6.out hb); have S7 := hb.size; clear C6
      clear hb
      go_wp2_with fail
      refine (toIntSS_any _ L1 _ (HR1.out.below (Below_chain BU.out C7.out)) hl1 HL1.out).mono ?_
      rintro e W8 ⟨rfl, ho, hb⟩
      have Lt := hid (X1.out.below hb); clear X1; have X1 := hid Lt.out; clear Lt
      have Lt := hid (X2.out.below hb); clear X2; have X2 := hid Lt.out; clear Lt
      have Lt := hid (G.out.below hb); clear G; have G := hid Lt.out; clear Lt
      have C8 := hid (Below_chain C7.out hb); have S8 := hb.size; clear C7
      clear hb
      have Y1 := hid ho; clear ho
      go_wp2_with fail
      refine (eqIntSS_any _ _ L1 _ _ _ X1.out.listsA.lists Y1.out.1).mono ?_
      rintro e W9 ⟨rfl, hb⟩
      have Lt := hid (X1.out.below hb); clear X1; have X1 := hid Lt.out; clear Lt
      have Lt := hid (X2.out.below hb); clear X2; have X2 := hid Lt.out; clear Lt
      have Lt := hid (G.out.below hb); clear G; have G := hid Lt.out; clear Lt
      have Lt := hid (Y1.out.below hb); clear Y1; have Y1 := hid Lt.out; clear Lt
      have C9 := hid (Below_chain C8.out hb); have S9 := hb.size; clear C8
      clear hb
      clear Y1
      go_wp2_with fail
      refine (toMoveS_any _ ms2 _ (HR2.out.below (Below_chain BU.out C9.out)) hm2).mono ?_
      rintro e W10 ⟨rfl, ho, hb⟩
      have T10 := World.rowIs.lt ho
      have Lt := hid (X1.out.below hb); clear X1; have X1 := hid Lt.out; clear Lt
      have Lt := hid (X2.out.below hb); clear X2; have X2 := hid Lt.out; clear Lt
      have Lt := hid (G.out.below hb); clear G; have G := hid Lt.out; clear Lt
      have C10 := hid (Below_chain C9.out hb); have S10 := hb.size; clear C9
      clear hb
      have Y2 := hid ho; clear ho
      go_wp2_with fail
      refine (eqMoveS_any _ _ ms2 _ (X2.out.reads hm2) (Y2.out.reads hm2)).mono ?_
      rintro e W11 ⟨rfl, hb⟩
      have Lt := hid (X1.out.below hb); clear X1; have X1 := hid Lt.out; clear Lt
      have Lt := hid (X2.out.below hb); clear X2; have X2 := hid Lt.out; clear Lt
      have Lt := hid (G.out.below hb); clear G; have G := hid Lt.out; clear Lt
      have Lt := hid (Y2.out.below hb); clear Y2; have Y2 := hid Lt.out; clear Lt
      have C11 := hid (Below_chain C10.out hb); have S11 := hb.size; clear C10
      clear hb
      clear Y2
      go_wp2_with fail
      refine (markIntSS_kept _ L1 _ _ _ _ X1.out (by omega) (by omega) (by rw [← HT1.out]; omega)).mono ?_
      rintro e W12 ⟨rfl, hb, hsz, hst⟩
      rw [← HT1.out]
      clear X1
      have Lt := hid (World.rowIs.of_block X2.out (hst _ (by omega) (World.rowIs.lt X2.out))); clear X2; have X2 := hid Lt.out; clear Lt
      have Lt := hid (G.out.stay (fun q h1 h2 => hst q (by omega) h2)); clear G; have G := hid Lt.out; clear Lt
      have C12 := hid (C11.out.trans (hb.mono (by omega))); have S12 := hsz; clear C11 hb hsz hst
      have hk1 : ¬ ((1 : Int) + (t1 : Int) < 0) := by omega
      go_wp2_with fail
      refine (markMoveS_any _ ms2 _ _ X2.out hm2 (by omega) (by omega)).mono ?_
      rintro e W13 ⟨rfl, hg⟩
      clear X2
      have Lt := hid (G.out.stay (fun q h1 h2 => hg.block q h2 (by simp only [ne_eq, Option.some.injEq]; omega))); clear G; have G := hid Lt.out; clear Lt
      have C13 := hid (Below.markedRow C12.out hg (by omega)); have S13 := hg.size; clear C12 hg
      have hk2 : ¬ ((1 : Int) + (t1 : Int) + 3 * (ms2.length : Int) < 0) := by omega
      go_wp2_with fail
      refine (eqIntS_any _ _ X X _ G.out.reads (U.out.below C13.out).reads).mono ?_
      rintro e W14 ⟨rfl, hb⟩
      have Lt := hid (G.out.below hb); clear G; have G := hid Lt.out; clear Lt
      have C14 := hid (Below_chain C13.out hb); have S14 := hb.size; clear C13
      clear hb
      go_wp2_with fail
      refine (markIntS_any _ X _ _ _ G.out (by omega) (by omega) (by omega)).mono ?_
      rintro e W15 ⟨rfl, ho, hg⟩
      have hlow := World.ownsRow.lt G.out; have C15 := hid (C14.out.grown hg (by omega) (fun q hq => by have := hlow q hq; omega)); have S15 := hg.size; clear C14 hg hlow G; have G := hid ho; clear ho
      go_wp2_with fail
      refine (heldIntS_any _ (marks 1 X.length) _ _ G.out.reads (by rw [marks_length]) (by omega) (by omega) (by rw [marks_length]; omega)).mono ?_
      rintro e W16 ⟨rfl, he⟩
      subst he
      rw [marks_length]
      go_wp2_with fail
      refine (toIntSS_any _ L1 _ (HR1.out.below (Below_chain BU.out C15.out)) hl1 HL1.out).mono ?_
      rintro e W16 ⟨rfl, ho, hb⟩
      have Lt := hid (G.out.below hb); clear G; have G := hid Lt.out; clear Lt
      have C16 := hid (Below_chain C15.out hb); have S16 := hb.size; clear C15
      clear hb
      have T1x := hid ho; clear ho
      go_wp2_with fail
      refine (toMoveS_any _ ms2 _ (HR2.out.below (Below_chain BU.out C16.out)) hm2).mono ?_
      rintro e W17 ⟨rfl, ho, hb⟩
      have T17 := World.rowIs.lt ho
      have Lt := hid (G.out.below hb); clear G; have G := hid Lt.out; clear Lt
      have Lt := hid (T1x.out.below hb); clear T1x; have T1x := hid Lt.out; clear Lt
      have C17 := hid (Below_chain C16.out hb); have S17 := hb.size; clear C16
      clear hb
      have T2x := hid ho; clear ho
      go_wp2_with fail
      refine (impl_MovesOf_any a0 _ _ L1 ms2 _ T1x.out.2 (T2x.out.reads hm2)).mono ?_
      rintro e W18 ⟨vH, rfl, ho, hb⟩
      rw [← HXX.out] at ho
      have Lt := hid (G.out.below hb); clear G; have G := hid Lt.out; clear Lt
      have Lt := hid (T1x.out.below hb); clear T1x; have T1x := hid Lt.out; clear Lt
      have Lt := hid (T2x.out.below hb); clear T2x; have T2x := hid Lt.out; clear Lt
      have C18 := hid (Below_chain C17.out hb); have S18 := hb.size; clear C17
      clear hb
      have H := hid ho; clear ho
      go_wp2_with fail
      refine (eqIntS_any _ _ X X _ H.out.reads (U.out.below C18.out).reads).mono ?_
      rintro e W19 ⟨rfl, hb⟩
      have Lt := hid (G.out.below hb); clear G; have G := hid Lt.out; clear Lt
      have Lt := hid (T1x.out.below hb); clear T1x; have T1x := hid Lt.out; clear Lt
      have Lt := hid (T2x.out.below hb); clear T2x; have T2x := hid Lt.out; clear Lt
      have Lt := hid (H.out.below hb); clear H; have H := hid Lt.out; clear Lt
      have C19 := hid (Below_chain C18.out hb); have S19 := hb.size; clear C18
      clear hb
      go_wp2_with fail
      refine (heldIntS_any _ (marks 1 X.length) _ _ G.out.reads (by rw [marks_length]) (by omega) (by omega) (by rw [marks_length]; omega)).mono ?_
      rintro e W20 ⟨rfl, he⟩
      subst he
      rw [marks_length]
      go_wp2_with fail
      go_ret
      exact ⟨rfl, Below_chain BU.out C19.out⟩
end Go.Proofs.Yteenmndgejeihaa
