/- The walk of the law FnExactTorusPlace. Conditions: none. -/
import Derived.Test.YteimfdpkodcfbaaTor5
import Derived.Test.YteimfdpkodcfbaaTorL
import Derived.Test.YteimfdpkodcfbaaBs3
import Derived.Test.YteimfdpkodcfbaaBs1
namespace Go.Proofs.Yteimfdpkodcfbaa
open Go.RowKit
set_option linter.unusedVariables false
set_option maxRecDepth 4000

set_option maxHeartbeats 4000000 in
theorem walk_FnExactTorusPlace (a0 : Option Addr) (len0 cap0 : Nat) (L0 : List (List Int)) (a1 : Option Addr) (len1 cap1 : Nat) (z1 : List Int) (w : World) (w0 : ReadsL w (.slice a0 len0 cap0) L0 ∧ L0.length = len0 ∧ ∀ l ∈ L0, ∀ n ∈ l, (Lit.int .i64 n).wf = true) (w1 : IsRow .i64 w a1 len1 cap1 z1) :
    Calls Try.prog 15 #[.agg #[.slice a0 len0 cap0], .slice a1 len1 cap1] w fun e w' => e = .returned (.bool true) ∧ Below w.heap.size w w' := by
  obtain ⟨hr0, hlen0, hwf0⟩ := w0
  subst hlen0
  have wf0 := hid hwf0
  clear hwf0
  have HR0 := hid hr0
  clear hr0
  obtain ⟨hr1, hlen1⟩ := w1.reads
  have wf1 := hid w1.wf
  generalize z1.take len1 = xs1 at hr1 hlen1 wf1
  subst hlen1
  clear w1
  have HR1 := hid hr1
  clear hr1
  have B := hid (Below.refl w.heap.size w)
  by_cases hl1 : xs1.length ≤ 1048576
  case neg =>
    go_enter Try.func15, Try.ntmps15
    go_wp2_with fail
    go_ret
    exact ⟨rfl, (Below.refl _ _).alloc (Nat.le_refl _) _⟩
  case pos =>
    obtain ⟨wb, hwb⟩ : ∃ W', W' = w.alloc (.cells #[.slice a0 L0.length cap0] 45) := ⟨_, rfl⟩
    have hb : Below w.heap.size w wb := by rw [hwb]; exact (Below.refl _ _).alloc (Nat.le_refl _) _
    have Zwb := hid (show wb.heap.size = w.heap.size + 1 by rw [hwb]; simp)
    have Lx := hid (show wb.cell? ⟨w.heap.size, 0, none⟩ = some (.slice a0 L0.length cap0) by rw [hwb]; simp)
    have Hwb := hid hwb; clear hwb
    have Lt := hid (HR0.out.below hb); clear HR0; have HR0 := hid Lt.out; clear Lt
    have Lt := hid (HR1.out.below hb); clear HR1; have HR1 := hid Lt.out; clear Lt
    have Lt := hid (Below_chain B.out hb); have Swb := hid (hb).size; clear B; have B := hid Lt.out; clear Lt
    clear hb
    have XA := Lx; clear Lx
    have hn1 : decide (tpI L0 xs1 = tpI L0 xs1) = true := by simp
    have hn3 : decide (tpJ L0 xs1 = tpJ L0 xs1) = true := by simp
    have hn2 : ((tpO L0 xs1) != (tpO L0 xs1)) = false := by simp
    have hdx1 : decide (xs1 = xs1) = true := by simp
    go_enter Try.func15, Try.ntmps15
    go_wp2_with fail
    rw [← Hwb.out]
    refine (szTorus_sum _ L0 1048576 _ HR0.out (by omega) (by omega)).mono ?_
    rintro e W1 ⟨q, rfl, hq1, hq2, hb⟩
    have Lt := hid (HR0.out.below hb); clear HR0; have HR0 := hid Lt.out; clear Lt
    have Lt := hid (HR1.out.below hb); clear HR1; have HR1 := hid Lt.out; clear Lt
    have Lt := hid (cell_belowT XA.out hb); clear XA; have XA := hid Lt.out; clear Lt
    have Lt := hid (Below_chain B.out hb); have SW1 := hid (hb).size; clear B; have B := hid Lt.out; clear Lt
    clear hb
    by_cases hq : 0 ≤ q
    case neg =>
      have hq' : q < 0 := by omega
      clear hq2
      go_wp2_with fail
      go_ret
      exact ⟨rfl, B.out⟩
    case pos =>
      have hq' : ¬ q < 0 := by omega
      have hsum := hq2 hq
      have hl : L0.length ≤ 1048576 := by omega
      have HL := hid (show ∀ i (hi : i < L0.length), L0[i].length ≤ 1048576 from fun i hi => by have := preLen_row hi; omega)
      obtain ⟨p0, hp0⟩ : ∃ p, p = preLen L0 L0.length := ⟨_, rfl⟩
      have HP0 := hid hp0
      rw [← hp0] at hsum
      clear hq2 hp0
      have xl0 := XA.out
      go_wp2_with fail
      clear xl0
      refine (toTorus_any _ L0 _ (by exact HR0.out) hl HL.out).mono ?_
      rintro e W2 ⟨gsT, rfl, hg, hs, hu, hb⟩
      have GsT := hid hg; clear hg
      have Lt := hid (HR0.out.below hb); clear HR0; have HR0 := hid Lt.out; clear Lt
      have Lt := hid (HR1.out.below hb); clear HR1; have HR1 := hid Lt.out; clear Lt
      have Lt := hid (cell_belowT XA.out hb); clear XA; have XA := hid Lt.out; clear Lt
      have Lt := hid (Below_chain B.out hb); have SW2 := hid (hb).size; clear B; have B := hid Lt.out; clear Lt
      clear hb
      have sTS := hid hs; have sT := hid hu; clear hs hu
      go_wp2_with fail
      refine (toIntS_any _ xs1 _ (by exact HR1.out) hl1).mono ?_
      rintro e W3 ⟨rfl, ho, hb⟩
      have Lt := hid (HR0.out.below hb); clear HR0; have HR0 := hid Lt.out; clear Lt
      have Lt := hid (HR1.out.below hb); clear HR1; have HR1 := hid Lt.out; clear Lt
      have Lt := hid (cell_belowT XA.out hb); clear XA; have XA := hid Lt.out; clear Lt
      have Lt := hid (sTS.out.below hb); clear sTS; have sTS := hid Lt.out; clear Lt
      have Lt := hid (sT.out.below hb); clear sT; have sT := hid Lt.out; clear Lt
      have Lt := hid (Below_chain B.out hb); have SW3 := hid (hb).size; clear B; have B := hid Lt.out; clear Lt
      clear hb
      have sl1 := hid ho; clear ho
      go_wp2_with fail
      refine (spec_TorusPlace_any _ _ L0 xs1 _ sTS.out sl1.out.sits).mono ?_
      rintro e W4 ⟨rfl, hb⟩
      have Lt := hid (HR0.out.below hb); clear HR0; have HR0 := hid Lt.out; clear Lt
      have Lt := hid (HR1.out.below hb); clear HR1; have HR1 := hid Lt.out; clear Lt
      have Lt := hid (cell_belowT XA.out hb); clear XA; have XA := hid Lt.out; clear Lt
      have Lt := hid (sTS.out.below hb); clear sTS; have sTS := hid Lt.out; clear Lt
      have Lt := hid (sT.out.below hb); clear sT; have sT := hid Lt.out; clear Lt
      have Lt := hid (sl1.out.below hb); clear sl1; have sl1 := hid Lt.out; clear Lt
      have Lt := hid (Below_chain B.out hb); have SW4 := hid (hb).size; clear B; have B := hid Lt.out; clear Lt
      clear hb
      clear sT
      clear sTS
      clear sl1
      have C := hid (Below.refl W4.heap.size W4)
      have xl0 := (cell_belowT XA.out C.out)
      go_wp2_with fail
      clear xl0
      refine (toTorus_any _ L0 _ (by exact (HR0.out.below C.out)) hl HL.out).mono ?_
      rintro e W5 ⟨gX, rfl, hg, hs, hu, hb⟩
      have GX := hid hg; clear hg
      have Lt := hid (Below_chain C.out hb); have SW5 := hid (hb).size; clear C; have C := hid Lt.out; clear Lt
      clear hb
      have XS := hid hs; have X := hid hu; clear hs hu
      obtain ⟨W5b, hW5b⟩ : ∃ W', W' = W5.alloc (.cells #[.slice (some ⟨gX, 0, none⟩) L0.length L0.length] 48) := ⟨_, rfl⟩
      have hb : Below W5.heap.size W5 W5b := by rw [hW5b]; exact (Below.refl _ _).alloc (Nat.le_refl _) _
      have ZW5b := hid (show W5b.heap.size = W5.heap.size + 1 by rw [hW5b]; simp)
      have Lx := hid (show W5b.cell? ⟨W5.heap.size, 0, none⟩ = some (.slice (some ⟨gX, 0, none⟩) L0.length L0.length) by rw [hW5b]; simp)
      have HW5b := hid hW5b; clear hW5b
      have Lt := hid (XS.out.below hb); clear XS; have XS := hid Lt.out; clear Lt
      have Lt := hid (X.out.below hb); clear X; have X := hid Lt.out; clear Lt
      have Lt := hid (Below_chain C.out hb); have SW5b := hid (hb).size; clear C; have C := hid Lt.out; clear Lt
      clear hb
      have XX := Lx; clear Lx
      go_wp2_with fail
      rw [← HW5b.out]
      refine (toIntS_any _ xs1 _ (by exact (HR1.out.below C.out)) hl1).mono ?_
      rintro e W6 ⟨rfl, ho, hb⟩
      have Lt := hid (XS.out.below hb); clear XS; have XS := hid Lt.out; clear Lt
      have Lt := hid (X.out.below hb); clear X; have X := hid Lt.out; clear Lt
      have Lt := hid (cell_belowT XX.out hb); clear XX; have XX := hid Lt.out; clear Lt
      have Lt := hid (Below_chain C.out hb); have SW6 := hid (hb).size; clear C; have C := hid Lt.out; clear Lt
      clear hb
      have x1 := hid ho; clear ho
      have xl0 := XX.out
      go_wp2_with fail
      clear xl0
      refine (impl_TorusPlace_any _ _ L0 xs1 _ XS.out x1.out.sits).mono ?_
      rintro e W7 ⟨rfl, hb⟩
      have Lt := hid (XS.out.below hb); clear XS; have XS := hid Lt.out; clear Lt
      have Lt := hid (X.out.below hb); clear X; have X := hid Lt.out; clear Lt
      have Lt := hid (cell_belowT XX.out hb); clear XX; have XX := hid Lt.out; clear Lt
      have Lt := hid (x1.out.below hb); clear x1; have x1 := hid Lt.out; clear Lt
      have Lt := hid (Below_chain C.out hb); have SW7 := hid (hb).size; clear C; have C := hid Lt.out; clear Lt
      clear hb
      clear XS
      have ma := (cell_belowT XA.out C.out); have mx := XX.out
      have HRD := hid ((HR0.out.below C.out).below ((Below.refl W7.heap.size W7).drew))
      have HXD := hid (X.out.listsA.lists.below ((Below.refl W7.heap.size W7).drew))
      go_wp2_with fail
      go_region_held3 (fun w' => w'.cell? ⟨w.heap.size, 0, none⟩ = some (.slice a0 L0.length cap0) ∧ w'.cell? ⟨W5.heap.size, 0, none⟩ = some (.slice (some ⟨gX, 0, none⟩) L0.length L0.length))
        (first | exact ⟨ma, mx⟩ | exact ⟨cell_belowT ma RA.out, cell_belowT mx RA.out⟩ | exact ⟨cell_belowT ma RB.out, cell_belowT mx RB.out⟩ | go_keep | fail)
        (first
          | (go_at_call 46; refine (toTorus_any _ L0 _ HRD.out hl HL.out).mono ?_; rintro e W8a ⟨gy, rfl, _, _, hu, hb⟩; have RA := hid ((Below.refl _ _).drew.trans hb : Below W7.heap.size W7 W8a); have HY := hid hu.listsA.lists; have HXa := hid (HXD.out.below hb); clear hu hb)
          | (go_at_call 48; refine (eqTorus_any _ _ L0 _ _ _ HXa.out HY.out).mono ?_; rintro e W8 ⟨rfl, hb⟩; have RB := hid (Below_chain RA.out hb); clear hb)
          | fail)
      have Lt := hid (X.out.below RB.out); clear X; have X := hid Lt.out; clear Lt
      have Lt := hid (cell_belowT XX.out RB.out); clear XX; have XX := hid Lt.out; clear Lt
      have Lt := hid (x1.out.below RB.out); clear x1; have x1 := hid Lt.out; clear Lt
      have Lt := hid (Below_chain C.out RB.out); have SW8 := hid (RB.out).size; clear C; have C := hid Lt.out; clear Lt
      clear ma mx HRD HXD RA HY HXa RB
      go_wp2_with fail
      refine (toIntS_any _ xs1 _ (by exact (HR1.out.below C.out)) hl1).mono ?_
      rintro e W9 ⟨rfl, ho, hb⟩
      have Lt := hid (X.out.below hb); clear X; have X := hid Lt.out; clear Lt
      have Lt := hid (cell_belowT XX.out hb); clear XX; have XX := hid Lt.out; clear Lt
      have Lt := hid (x1.out.below hb); clear x1; have x1 := hid Lt.out; clear Lt
      have Lt := hid (Below_chain C.out hb); have SW9 := hid (hb).size; clear C; have C := hid Lt.out; clear Lt
      clear hb
      have y1 := hid ho; clear ho
      go_wp2_with fail
      refine (eqIntS_any _ _ xs1 xs1 _ x1.out.reads y1.out.reads).mono ?_
      rintro e W10 ⟨rfl, hb⟩
      have Lt := hid (X.out.below hb); clear X; have X := hid Lt.out; clear Lt
      have Lt := hid (cell_belowT XX.out hb); clear XX; have XX := hid Lt.out; clear Lt
      have Lt := hid (x1.out.below hb); clear x1; have x1 := hid Lt.out; clear Lt
      have Lt := hid (y1.out.below hb); clear y1; have y1 := hid Lt.out; clear Lt
      have Lt := hid (Below_chain C.out hb); have SW10 := hid (hb).size; clear C; have C := hid Lt.out; clear Lt
      clear hb
      clear y1
      go_wp2_with fail
      go_ret
      exact ⟨rfl, Below_chain B.out C.out⟩
end Go.Proofs.Yteimfdpkodcfbaa
