/- The walk of the law FnExactTurnTorus. Conditions: none. -/
import Derived.Test.YteimfdpkodcfbaaTor6
import Derived.Test.YteimfdpkodcfbaaTor7
import Derived.Test.YteimfdpkodcfbaaTorF
import Derived.Test.YteimfdpkodcfbaaBs3
import Derived.Test.YteimfdpkodcfbaaTorL
import Derived.Test.YteimfdpkodcfbaaBs1
namespace Go.Proofs.Yteimfdpkodcfbaa
open Go.RowKit
set_option linter.unusedVariables false
set_option maxRecDepth 4000

set_option maxHeartbeats 4000000 in
theorem walk_FnExactTurnTorus (a0 : Option Addr) (len0 cap0 : Nat) (L0 : List (List Int)) (a1 : Int) (a2 : Int) (w : World) (w0 : ReadsL w (.slice a0 len0 cap0) L0 ∧ L0.length = len0 ∧ ∀ l ∈ L0, ∀ n ∈ l, (Lit.int .i64 n).wf = true) (w1 : (Lit.int .i64 a1).wf = true) (w2 : (Lit.int .i64 a2).wf = true) :
    Calls Try.prog 16 #[.agg #[.slice a0 len0 cap0], .int .i64 a1, .int .i64 a2] w fun e w' => e = .returned (.bool true) ∧ Below w.heap.size w w' := by
  obtain ⟨hr0, hlen0, hwf0⟩ := w0
  subst hlen0
  have wf0 := hid hwf0
  clear hwf0
  have HR0 := hid hr0
  clear hr0
  have B := hid (Below.refl w.heap.size w)
  obtain ⟨wb, hwb⟩ : ∃ W', W' = w.alloc (.cells #[.slice a0 L0.length cap0] 45) := ⟨_, rfl⟩
  have hb : Below w.heap.size w wb := by rw [hwb]; exact (Below.refl _ _).alloc (Nat.le_refl _) _
  have Zwb := hid (show wb.heap.size = w.heap.size + 1 by rw [hwb]; simp)
  have Lx := hid (show wb.cell? ⟨w.heap.size, 0, none⟩ = some (.slice a0 L0.length cap0) by rw [hwb]; simp)
  have Hwb := hid hwb; clear hwb
  have Lt := hid (HR0.out.below hb); clear HR0; have HR0 := hid Lt.out; clear Lt
  have Lt := hid (Below_chain B.out hb); have Swb := hid (hb).size; clear B; have B := hid Lt.out; clear Lt
  clear hb
  have XA := Lx; clear Lx
  have hn2 : ((ttO L0 a1 a2) != (ttO L0 a1 a2)) = false := by simp
  have hX : preLen (ttR L0 a1 a2) (ttR L0 a1 a2).length ≤ 1048576 := bound_TurnTorus L0 a1 a2
  obtain ⟨X, hXX⟩ : ∃ X, X = ttR L0 a1 a2 := ⟨_, rfl⟩
  have HXX := hid hXX
  rw [← hXX] at hX
  clear hXX
  obtain ⟨p, hp⟩ : ∃ p, p = preLen X X.length := ⟨_, rfl⟩
  have HP := hid hp
  rw [← hp] at hX
  clear hp
  go_enter Try.func16, Try.ntmps16
  go_wp2_with fail
  rw [← Hwb.out]
  refine (szTorus_sum _ L0 1048576 _ HR0.out (by omega) (by omega)).mono ?_
  rintro e W1 ⟨q, rfl, hq1, hq2, hb⟩
  have Lt := hid (HR0.out.below hb); clear HR0; have HR0 := hid Lt.out; clear Lt
  have Lt := hid (cell_belowT XA.out hb); clear XA; have XA := hid Lt.out; clear Lt
  have Lt := hid (Below_chain B.out hb); have SW1 := hid (hb).size; clear B; have B := hid Lt.out; clear Lt
  clear hb
  by_cases hq : 0 ≤ q
  case neg =>
    have hq' : q < 0 := by omega
    clear hq2
    go_wp2_with fail
    go_ret
    exact ⟨rfl, B.out⟩
  case pos =>
    have hq' : ¬ q < 0 := by omega
    have hsum := hq2 hq
    have hl : L0.length ≤ 1048576 := by omega
    have HL := hid (show ∀ i (hi : i < L0.length), L0[i].length ≤ 1048576 from fun i hi => by have := preLen_row hi; omega)
    obtain ⟨p0, hp0⟩ : ∃ p, p = preLen L0 L0.length := ⟨_, rfl⟩
    have HP0 := hid hp0
    rw [← hp0] at hsum
    clear hq2 hp0
    have xl0 := XA.out
    go_wp2_with fail
    clear xl0
    refine (toTorus_any _ L0 _ (by exact HR0.out) hl HL.out).mono ?_
    rintro e W2 ⟨gsT, rfl, hg, hs, hu, hb⟩
    have GsT := hid hg; clear hg
    have Lt := hid (HR0.out.below hb); clear HR0; have HR0 := hid Lt.out; clear Lt
    have Lt := hid (cell_belowT XA.out hb); clear XA; have XA := hid Lt.out; clear Lt
    have Lt := hid (Below_chain B.out hb); have SW2 := hid (hb).size; clear B; have B := hid Lt.out; clear Lt
    clear hb
    have QsT := hid (World.ownsRow.lt hu.choose_spec.2.1 _ rfl).2
    have sTS := hid hs; have sT := hid hu; clear hs hu
    go_wp2_with fail
    refine (spec_TurnTorus_any _ L0 a1 a2 _ sTS.out).mono ?_
    rintro e W3 ⟨vU, rfl, ho, hb⟩
    rw [← HXX.out] at ho
    obtain ⟨aU, cU, rfl⟩ := ho.slice9
    have Lt := hid (HR0.out.below hb); clear HR0; have HR0 := hid Lt.out; clear Lt
    have Lt := hid (cell_belowT XA.out hb); clear XA; have XA := hid Lt.out; clear Lt
    have Lt := hid (sTS.out.below hb); clear sTS; have sTS := hid Lt.out; clear Lt
    have Lt := hid (sT.out.below hb); clear sT; have sT := hid Lt.out; clear Lt
    have Lt := hid (Below_chain B.out hb); have SW3 := hid (hb).size; clear B; have B := hid Lt.out; clear Lt
    clear hb
    have U := hid ho; clear ho
    obtain ⟨W3b, hW3b⟩ : ∃ W', W' = W3.alloc (.cells #[.slice aU X.length cU] 48) := ⟨_, rfl⟩
    have hb : Below W3.heap.size W3 W3b := by rw [hW3b]; exact (Below.refl _ _).alloc (Nat.le_refl _) _
    have ZW3b := hid (show W3b.heap.size = W3.heap.size + 1 by rw [hW3b]; simp)
    have Lx := hid (show W3b.cell? ⟨W3.heap.size, 0, none⟩ = some (.slice aU X.length cU) by rw [hW3b]; simp)
    have HW3b := hid hW3b; clear hW3b
    have Lt := hid (HR0.out.below hb); clear HR0; have HR0 := hid Lt.out; clear Lt
    have Lt := hid (cell_belowT XA.out hb); clear XA; have XA := hid Lt.out; clear Lt
    have Lt := hid (sTS.out.below hb); clear sTS; have sTS := hid Lt.out; clear Lt
    have Lt := hid (sT.out.below hb); clear sT; have sT := hid Lt.out; clear Lt
    have Lt := hid (U.out.below hb); clear U; have U := hid Lt.out; clear Lt
    have Lt := hid (Below_chain B.out hb); have SW3b := hid (hb).size; clear B; have B := hid Lt.out; clear Lt
    clear hb
    have XU := Lx; clear Lx
    clear sT
    clear sTS
    have C := hid (Below.refl W3b.heap.size W3b)
    have xl0 := (cell_belowT XA.out C.out)
    rw [HW3b.out] at xl0
    go_wp2_with fail
    rw [← HW3b.out]
    clear xl0
    refine (toTorus_any _ L0 _ (by exact (HR0.out.below C.out)) hl HL.out).mono ?_
    rintro e W4 ⟨gV, rfl, hg, hs, hu, hb⟩
    have GV := hid hg; clear hg
    have Lt := hid (Below_chain C.out hb); have SW4 := hid (hb).size; clear C; have C := hid Lt.out; clear Lt
    clear hb
    have QV := hid (World.ownsRow.lt hu.choose_spec.2.1 _ rfl).2
    have VS := hid hs; have V := hid hu; clear hs hu
    obtain ⟨W4b, hW4b⟩ : ∃ W', W' = W4.alloc (.cells #[.slice (some ⟨gV, 0, none⟩) L0.length L0.length] 48) := ⟨_, rfl⟩
    have hb : Below W4.heap.size W4 W4b := by rw [hW4b]; exact (Below.refl _ _).alloc (Nat.le_refl _) _
    have ZW4b := hid (show W4b.heap.size = W4.heap.size + 1 by rw [hW4b]; simp)
    have Lx := hid (show W4b.cell? ⟨W4.heap.size, 0, none⟩ = some (.slice (some ⟨gV, 0, none⟩) L0.length L0.length) by rw [hW4b]; simp)
    have HW4b := hid hW4b; clear hW4b
    have Lt := hid (VS.out.below hb); clear VS; have VS := hid Lt.out; clear Lt
    have Lt := hid (V.out.below hb); clear V; have V := hid Lt.out; clear Lt
    have Lt := hid (Below_chain C.out hb); have SW4b := hid (hb).size; clear C; have C := hid Lt.out; clear Lt
    clear hb
    have XX := Lx; clear Lx
    go_wp2_with fail
    rw [← HW4b.out]
    refine (impl_TurnTorus_any _ L0 a1 a2 _ VS.out).mono ?_
    rintro e W5 ⟨vG, rfl, ho, hb⟩
    rw [← HXX.out] at ho
    obtain ⟨aG, cG, rfl⟩ := ho.lists.slice9
    have Lt := hid (VS.out.below hb); clear VS; have VS := hid Lt.out; clear Lt
    have Lt := hid (V.out.below hb); clear V; have V := hid Lt.out; clear Lt
    have Lt := hid (cell_belowT XX.out hb); clear XX; have XX := hid Lt.out; clear Lt
    have Lt := hid (Below_chain C.out hb); have SW5 := hid (hb).size; clear C; have C := hid Lt.out; clear Lt
    clear hb
    have G := hid ho.listsE; clear ho
    obtain ⟨W5b, hW5b⟩ : ∃ W', W' = W5.alloc (.cells #[.slice aG X.length cG] 48) := ⟨_, rfl⟩
    have hb : Below W5.heap.size W5 W5b := by rw [hW5b]; exact (Below.refl _ _).alloc (Nat.le_refl _) _
    have ZW5b := hid (show W5b.heap.size = W5.heap.size + 1 by rw [hW5b]; simp)
    have Lx := hid (show W5b.cell? ⟨W5.heap.size, 0, none⟩ = some (.slice aG X.length cG) by rw [hW5b]; simp)
    have HW5b := hid hW5b; clear hW5b
    have Lt := hid (VS.out.below hb); clear VS; have VS := hid Lt.out; clear Lt
    have Lt := hid (V.out.below hb); clear V; have V := hid Lt.out; clear Lt
    have Lt := hid (cell_belowT XX.out hb); clear XX; have XX := hid Lt.out; clear Lt
    have Lt := hid (G.out.below hb); clear G; have G := hid Lt.out; clear Lt
    have Lt := hid (Below_chain C.out hb); have SW5b := hid (hb).size; clear C; have C := hid Lt.out; clear Lt
    clear hb
    have XG := Lx; clear Lx
    clear VS
    have xl0 := (cell_belowT XU.out C.out)
    rw [HW5b.out] at xl0
    go_wp2_with fail
    rw [← HW5b.out]
    clear xl0
    refine (eqTorus_R _ _ X _ (G.out.reads) ((U.out.below C.out).readsL)).mono ?_
    rintro e W6 ⟨rfl, hb⟩
    have Lt := hid (V.out.below hb); clear V; have V := hid Lt.out; clear Lt
    have Lt := hid (cell_belowT XX.out hb); clear XX; have XX := hid Lt.out; clear Lt
    have Lt := hid (G.out.below hb); clear G; have G := hid Lt.out; clear Lt
    have Lt := hid (cell_belowT XG.out hb); clear XG; have XG := hid Lt.out; clear Lt
    have Lt := hid (Below_chain C.out hb); have SW6 := hid (hb).size; clear C; have C := hid Lt.out; clear Lt
    clear hb
    have ma := (cell_belowT XA.out C.out); have mx := XX.out
    have HRD := hid ((HR0.out.below C.out).below ((Below.refl W6.heap.size W6).drew))
    have HXD := hid (V.out.listsA.lists.below ((Below.refl W6.heap.size W6).drew))
    go_wp2_with fail
    go_region_held3 (fun w' => w'.cell? ⟨w.heap.size, 0, none⟩ = some (.slice a0 L0.length cap0) ∧ w'.cell? ⟨W4.heap.size, 0, none⟩ = some (.slice (some ⟨gV, 0, none⟩) L0.length L0.length))
      (first | exact ⟨ma, mx⟩ | exact ⟨cell_belowT ma RA.out, cell_belowT mx RA.out⟩ | exact ⟨cell_belowT ma RB.out, cell_belowT mx RB.out⟩ | go_keep | fail)
      (first
        | (go_at_call 46; refine (toTorus_any _ L0 _ HRD.out hl HL.out).mono ?_; rintro e W7a ⟨gy, rfl, _, _, hu, hb⟩; have RA := hid ((Below.refl _ _).drew.trans hb : Below W6.heap.size W6 W7a); have HY := hid hu.listsA.lists; have HXa := hid (HXD.out.below hb); clear hu hb)
        | (go_at_call 48; refine (eqTorus_any _ _ L0 _ _ _ HXa.out HY.out).mono ?_; rintro e W7 ⟨rfl, hb⟩; have RB := hid (Below_chain RA.out hb); clear hb)
        | fail)
    have Lt := hid (V.out.below RB.out); clear V; have V := hid Lt.out; clear Lt
    have Lt := hid (cell_belowT XX.out RB.out); clear XX; have XX := hid Lt.out; clear Lt
    have Lt := hid (G.out.below RB.out); clear G; have G := hid Lt.out; clear Lt
    have Lt := hid (cell_belowT XG.out RB.out); clear XG; have XG := hid Lt.out; clear Lt
    have Lt := hid (Below_chain C.out RB.out); have SW7 := hid (RB.out).size; clear C; have C := hid Lt.out; clear Lt
    clear ma mx HRD HXD RA HY HXa RB
    have xl0 := XX.out
    go_wp2_with fail
    clear xl0
    refine (markTorus_kept _ L0 _ _ _ _ V.out (by have := Zwb.out; have := Swb.out; have := SW1.out; have := SW2.out; have := SW3.out; have := ZW3b.out; have := SW3b.out; have := SW4.out; have := ZW4b.out; have := SW4b.out; have := SW5.out; have := ZW5b.out; have := SW5b.out; have := SW6.out; have := SW7.out; have := QV.out; omega) (by omega) (by omega) (by rw [← HP0.out]; omega)).mono ?_
    rintro e W8 ⟨rfl, hb, hsz, hst⟩
    rw [← HP0.out]
    clear V
    clear XX
    have Lt := hid (G.out.stayT (fun q h1 h2 => hst q (by have := Zwb.out; have := Swb.out; have := SW1.out; have := SW2.out; have := SW3.out; have := ZW3b.out; have := SW3b.out; have := SW4.out; have := ZW4b.out; have := SW4b.out; have := SW5.out; have := ZW5b.out; have := SW5b.out; have := SW6.out; have := SW7.out; omega) (by have := Zwb.out; have := Swb.out; have := SW1.out; have := SW2.out; have := SW3.out; have := ZW3b.out; have := SW3b.out; have := SW4.out; have := ZW4b.out; have := SW4b.out; have := SW5.out; have := ZW5b.out; have := SW5b.out; have := SW6.out; have := SW7.out; omega))); clear G; have G := hid Lt.out; clear Lt
    have Lt := hid ((cell_of_block (hst _ (by have := Zwb.out; have := Swb.out; have := SW1.out; have := SW2.out; have := SW3.out; have := ZW3b.out; have := SW3b.out; have := SW4.out; have := ZW4b.out; have := SW4b.out; have := SW5.out; have := ZW5b.out; have := SW5b.out; have := SW6.out; have := SW7.out; omega) (by have := Zwb.out; have := Swb.out; have := SW1.out; have := SW2.out; have := SW3.out; have := ZW3b.out; have := SW3b.out; have := SW4.out; have := ZW4b.out; have := SW4b.out; have := SW5.out; have := ZW5b.out; have := SW5b.out; have := SW6.out; have := SW7.out; omega)) 0).trans XG.out); clear XG; have XG := hid Lt.out; clear Lt
    have Lt := hid (Below_chain' C.out hb (by have := Zwb.out; have := Swb.out; have := SW1.out; have := SW2.out; have := SW3.out; have := ZW3b.out; have := SW3b.out; have := SW4.out; have := ZW4b.out; have := SW4b.out; have := SW5.out; have := ZW5b.out; have := SW5b.out; have := SW6.out; have := SW7.out; have := GV.out; omega)); clear C; have C := hid Lt.out; clear Lt
    have SW8 := hid hsz; clear hb hsz hst
    have hk : ¬ ((1 : Int) + (p0 : Int) < 0) := by omega
    have xl0 := XG.out
    have xl1 := (cell_belowT XU.out C.out)
    go_wp2_with fail
    clear xl0 xl1
    refine (eqTorus_R _ _ X _ (G.out.reads) ((U.out.below C.out).readsL)).mono ?_
    rintro e W9 ⟨rfl, hb⟩
    have Lt := hid (G.out.below hb); clear G; have G := hid Lt.out; clear Lt
    have Lt := hid (cell_belowT XG.out hb); clear XG; have XG := hid Lt.out; clear Lt
    have Lt := hid (Below_chain C.out hb); have SW9 := hid (hb).size; clear C; have C := hid Lt.out; clear Lt
    clear hb
    have xl0 := XG.out
    go_wp2_with fail
    clear xl0
    refine (markTorus_F _ X _ _ _ _ G.out (by have := Zwb.out; have := Swb.out; have := SW1.out; have := SW2.out; have := SW3.out; have := ZW3b.out; have := SW3b.out; have := SW4.out; have := ZW4b.out; have := SW4b.out; have := SW5.out; have := ZW5b.out; have := SW5b.out; have := SW6.out; have := SW7.out; have := SW8.out; have := SW9.out; omega) (by have := Zwb.out; have := Swb.out; have := SW1.out; have := SW2.out; have := SW3.out; have := ZW3b.out; have := SW3b.out; have := SW4.out; have := ZW4b.out; have := SW4b.out; have := SW5.out; have := ZW5b.out; have := SW5b.out; have := SW6.out; have := SW7.out; have := SW8.out; have := SW9.out; omega) (by omega) (by omega) (by rw [← HP.out]; omega)).mono ?_
    rintro e W10 ⟨rfl, M, hM, hmk, hpm, hb, hsz, hst⟩
    rw [← HP.out]
    have HMK := hid hmk; have HPM := hid (hpm.trans HP.out.symm); clear hmk hpm G; have G := hid hM; clear hM
    have Lt := hid ((cell_of_block (hst _ (by have := Zwb.out; have := Swb.out; have := SW1.out; have := SW2.out; have := SW3.out; have := ZW3b.out; have := SW3b.out; have := SW4.out; have := ZW4b.out; have := SW4b.out; have := SW5.out; have := ZW5b.out; have := SW5b.out; have := SW6.out; have := SW7.out; have := SW8.out; have := SW9.out; omega) (by have := Zwb.out; have := Swb.out; have := SW1.out; have := SW2.out; have := SW3.out; have := ZW3b.out; have := SW3b.out; have := SW4.out; have := ZW4b.out; have := SW4b.out; have := SW5.out; have := ZW5b.out; have := SW5b.out; have := SW6.out; have := SW7.out; have := SW8.out; have := SW9.out; omega)) 0).trans XG.out); clear XG; have XG := hid Lt.out; clear Lt
    have Lt := hid (Below_chain' C.out hb (by have := Zwb.out; have := Swb.out; have := SW1.out; have := SW2.out; have := SW3.out; have := ZW3b.out; have := SW3b.out; have := SW4.out; have := ZW4b.out; have := SW4b.out; have := SW5.out; have := ZW5b.out; have := SW5b.out; have := SW6.out; have := SW7.out; have := SW8.out; have := SW9.out; omega)); clear C; have C := hid Lt.out; clear Lt
    have SW10 := hid hsz; clear hb hsz hst
    have hk2 : ¬ ((1 : Int) + (p : Int) < 0) := by omega
    have hkd : decide ((1 : Int) + (p : Int) = (1 : Int) + (p : Int)) = true := by simp
    have xl0 := XG.out
    go_wp2_with fail
    clear xl0
    refine (heldTorus_any _ M _ _ G.out.reads HMK.out (by omega) (by omega) (by rw [HPM.out]; omega)).mono ?_
    rintro e W11 ⟨rfl, hb⟩
    rw [HPM.out]
    have Lt := hid (G.out.below hb); clear G; have G := hid Lt.out; clear Lt
    have Lt := hid (cell_belowT XG.out hb); clear XG; have XG := hid Lt.out; clear Lt
    have Lt := hid (Below_chain C.out hb); have SW11 := hid (hb).size; clear C; have C := hid Lt.out; clear Lt
    clear hb
    have xl0 := (cell_belowT XA.out C.out)
    go_wp2_with fail
    clear xl0
    refine (toTorus_any _ L0 _ (by exact (HR0.out.below C.out)) hl HL.out).mono ?_
    rintro e W12 ⟨gtT, rfl, hg, hs, hu, hb⟩
    have GtT := hid hg; clear hg
    have Lt := hid (G.out.below hb); clear G; have G := hid Lt.out; clear Lt
    have Lt := hid (cell_belowT XG.out hb); clear XG; have XG := hid Lt.out; clear Lt
    have Lt := hid (Below_chain C.out hb); have SW12 := hid (hb).size; clear C; have C := hid Lt.out; clear Lt
    clear hb
    have QtT := hid (World.ownsRow.lt hu.choose_spec.2.1 _ rfl).2
    have tTS := hid hs; have tT := hid hu; clear hs hu
    go_wp2_with fail
    refine (impl_TurnTorus_any _ L0 a1 a2 _ tTS.out).mono ?_
    rintro e W13 ⟨vH, rfl, ho, hb⟩
    rw [← HXX.out] at ho
    obtain ⟨aH, cH, rfl⟩ := ho.lists.slice9
    have Lt := hid (G.out.below hb); clear G; have G := hid Lt.out; clear Lt
    have Lt := hid (cell_belowT XG.out hb); clear XG; have XG := hid Lt.out; clear Lt
    have Lt := hid (tTS.out.below hb); clear tTS; have tTS := hid Lt.out; clear Lt
    have Lt := hid (tT.out.below hb); clear tT; have tT := hid Lt.out; clear Lt
    have Lt := hid (Below_chain C.out hb); have SW13 := hid (hb).size; clear C; have C := hid Lt.out; clear Lt
    clear hb
    have H := hid ho.listsE; clear ho
    obtain ⟨W13b, hW13b⟩ : ∃ W', W' = W13.alloc (.cells #[.slice aH X.length cH] 48) := ⟨_, rfl⟩
    have hb : Below W13.heap.size W13 W13b := by rw [hW13b]; exact (Below.refl _ _).alloc (Nat.le_refl _) _
    have ZW13b := hid (show W13b.heap.size = W13.heap.size + 1 by rw [hW13b]; simp)
    have Lx := hid (show W13b.cell? ⟨W13.heap.size, 0, none⟩ = some (.slice aH X.length cH) by rw [hW13b]; simp)
    have HW13b := hid hW13b; clear hW13b
    have Lt := hid (G.out.below hb); clear G; have G := hid Lt.out; clear Lt
    have Lt := hid (cell_belowT XG.out hb); clear XG; have XG := hid Lt.out; clear Lt
    have Lt := hid (tTS.out.below hb); clear tTS; have tTS := hid Lt.out; clear Lt
    have Lt := hid (tT.out.below hb); clear tT; have tT := hid Lt.out; clear Lt
    have Lt := hid (H.out.below hb); clear H; have H := hid Lt.out; clear Lt
    have Lt := hid (Below_chain C.out hb); have SW13b := hid (hb).size; clear C; have C := hid Lt.out; clear Lt
    clear hb
    have XH := Lx; clear Lx
    have xl0 := (cell_belowT XU.out C.out)
    rw [HW13b.out] at xl0
    go_wp2_with fail
    rw [← HW13b.out]
    clear xl0
    refine (eqTorus_R _ _ X _ (H.out.reads) ((U.out.below C.out).readsL)).mono ?_
    rintro e W14 ⟨rfl, hb⟩
    have Lt := hid (G.out.below hb); clear G; have G := hid Lt.out; clear Lt
    have Lt := hid (cell_belowT XG.out hb); clear XG; have XG := hid Lt.out; clear Lt
    have Lt := hid (tTS.out.below hb); clear tTS; have tTS := hid Lt.out; clear Lt
    have Lt := hid (tT.out.below hb); clear tT; have tT := hid Lt.out; clear Lt
    have Lt := hid (H.out.below hb); clear H; have H := hid Lt.out; clear Lt
    have Lt := hid (cell_belowT XH.out hb); clear XH; have XH := hid Lt.out; clear Lt
    have Lt := hid (Below_chain C.out hb); have SW14 := hid (hb).size; clear C; have C := hid Lt.out; clear Lt
    clear hb
    have xl0 := XG.out
    go_wp2_with fail
    clear xl0
    refine (heldTorus_any _ M _ _ G.out.reads HMK.out (by omega) (by omega) (by rw [HPM.out]; omega)).mono ?_
    rintro e W15 ⟨rfl, hb⟩
    rw [HPM.out]
    have Lt := hid (G.out.below hb); clear G; have G := hid Lt.out; clear Lt
    have Lt := hid (cell_belowT XG.out hb); clear XG; have XG := hid Lt.out; clear Lt
    have Lt := hid (tTS.out.below hb); clear tTS; have tTS := hid Lt.out; clear Lt
    have Lt := hid (tT.out.below hb); clear tT; have tT := hid Lt.out; clear Lt
    have Lt := hid (H.out.below hb); clear H; have H := hid Lt.out; clear Lt
    have Lt := hid (cell_belowT XH.out hb); clear XH; have XH := hid Lt.out; clear Lt
    have Lt := hid (Below_chain C.out hb); have SW15 := hid (hb).size; clear C; have C := hid Lt.out; clear Lt
    clear hb
    go_wp2_with fail
    go_ret
    exact ⟨rfl, Below_chain B.out C.out⟩
end Go.Proofs.Yteimfdpkodcfbaa
