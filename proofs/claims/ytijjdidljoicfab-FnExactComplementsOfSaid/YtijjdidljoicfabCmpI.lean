/- Contract: impl.ComplementsOf. Conditions: the slice is not nil, nor are its rows, and it reads as a list of lists. -/
import Derived.Test.YtijjdidljoicfabFill
import Derived.Test.YtijjdidljoicfabComs
import Derived.Test.YtijjdidljoicfabI3
import Derived.Test.YtijjdidljoicfabTake
namespace Go.Proofs.Ytijjdidljoicfab
open Go.RowKit
set_option linter.unusedVariables false

set_option maxHeartbeats 1000000 in
theorem impl_ComplementsOf_any (n : Int) (v : Value) (L : List (List Int)) (w : World) (h : SitsL w v L) :
    Calls Try.prog 27 #[.int .i64 n, v] w fun e w' => ∃ u, e = .returned (.tuple #[u, .bool (chlB n L)]) ∧ ListsA w' w.heap.size u (cmpRes n L) ∧ Below w.heap.size w w' := by
  have HS := hid h
  obtain ⟨b, off, c, rfl, hc1, hm, hb0, hc⟩ := h
  cases hcl : chlB n L with
  | false =>
    have HC := hid hcl
    have HR := hid (cmpRes_no hcl)
    clear hcl hc
    go_enter Try.func27, Try.ntmps27
    go_wp2_with (first | (go_at_call 66; refine (areCombinations_any n _ L _ HS.out).mono ?_; rintro e w1 ⟨rfl, hb1⟩; rw [HC.out]; have HB1 := hid hb1; clear hb1) | fail)
    go_ret2
    exact ⟨_, rfl, by rw [HR.out]; exact ⟨[], rfl, World.ownsRow_nil _ _ _ _, fun i h => absurd h (by simp), fun i j h => absurd h (by simp)⟩, HB1.out⟩
  | true =>
    have HC := hid hcl
    have HR := hid (cmpRes_yes hcl)
    have hcc := hcl
    simp only [chlB, Bool.and_eq_true, decide_eq_true_eq] at hcc
    have hn := inB_iff.1 hcc.2.1
    obtain ⟨N, rfl⟩ : ∃ N : Nat, n = (N : Int) := ⟨n.toNat, by omega⟩
    have hN : N ≤ 12 := by omega
    have hlen : L.length ≤ 1100 := hcc.2.2
    have HU := hid (upTo_length N)
    have HLM := hid (show L.length ≤ maxLen by unfold maxLen; omega)
    have HML := hid (show (cmpL (N : Int) L).length = L.length by simp [cmpL])
    have HME := hid (show ∀ i (hi : i < L.length) (h2 : i < (cmpL (N : Int) L).length), (cmpL (N : Int) L)[i] = missL (upTo N) L[i] from fun i hi h2 => by simp [cmpL])
    have HCC := hid hc
    clear hcl hcc hc
    go_enter Try.func27, Try.ntmps27
    go_wp2_with fail
    refine (areCombinations_any _ _ L _ HS.out).mono ?_
    rintro e w1 ⟨rfl, hb1⟩
    rw [HC.out]
    have hmk := run_make_intss L.length (by omega) w1
    have HR0 := hid (World.rowIs_made w1 (.slice none 0 0) L.length 28)
    have HB0 := hid (Below_chain hb1 ((Below.refl _ _).alloc (Nat.le_refl _) (.cells (madeCells #[.slice none 0 0] L.length) 28)))
    have hS0 : w1.heap.size < (w1.alloc (.cells (madeCells #[.slice none 0 0] L.length) 28)).heap.size := by simp
    obtain ⟨wm, hwm⟩ : ∃ wm, wm = w1.alloc (.cells (madeCells #[.slice none 0 0] L.length) 28) := ⟨_, rfl⟩
    rw [← hwm] at hmk HR0 HB0 hS0
    have hs1 := hb1.size
    clear hwm hb1
    go_wp2_with fail
    clear hmk
    go_loopw [18] (fun i wr => ∃ k : Nat, k ≤ L.length ∧ i = .int .i64 k ∧ (∃ U : Nat → Value, wr.rowIs w1.heap.size 28 L.length U ∧ Filled wr w1.heap.size U (cmpL (N : Int) L) k) ∧ Below w.heap.size w wr ∧ w1.heap.size < wr.heap.size) (fun i _ => L.length - (intOf i).toNat)
    case atStart => exact ⟨0, Nat.zero_le _, rfl, ⟨_, HR0.out, Filled.zero _ _ _ _⟩, HB0.out, hS0⟩
    case round =>
      obtain ⟨k, hk, rfl, ⟨U, hrow, hfil⟩, hbel, hsz⟩ := hrel
      have HROW := hid hrow
      have HFIL := hid hfil
      have HB := hid hbel
      by_cases hlt : k < L.length
      · obtain ⟨z, hz, hsit⟩ := HCC.out k hlt
        have hcx : wr.cell? ⟨b, off + k, none⟩ = some z := (hbel.cell (by exact hb0)).trans hz
        have HZ := hid (hsit.reads.below hbel)
        obtain ⟨l, hl⟩ : ∃ l, l = L[k] := ⟨_, rfl⟩
        obtain ⟨r, hr⟩ : ∃ r, r = missL (upTo N) l := ⟨_, rfl⟩
        have HRR := hid hr
        have hkm : k < (cmpL (N : Int) L).length := by rw [HML.out]; exact hlt
        have HGET := hid (show (cmpL (N : Int) L)[k] = r by rw [HME.out k hlt hkm, hr, hl])
        rw [← hl] at HZ
        have HKM := hid hkm
        clear hz hsit hl hr hrow hfil hbel
        go_wp2_with fail
        refine (firstNumbers_any N _ (by omega)).mono ?_
        rintro e w2 ⟨rfl, ho2, hb2⟩
        have HU2 := hid ho2.reads
        have HZ2 := hid (HZ.out.below hb2)
        have HB2 := hid hb2
        clear ho2 hb2
        go_wp2_with fail
        refine (without_any _ _ (upTo N) l _ HU2.out HZ2.out (by rw [HU.out]; omega)).mono ?_
        rintro e w3 ⟨u, rfl, ho3, hb3⟩
        rw [← HRR.out] at ho3
        obtain ⟨aor, cr, rfl⟩ := ho3.slice2
        have HB3 := hid (Below_chain HB2.out hb3)
        have HR3 := hid (rowIs_below HROW.out HB3.out hsz)
        have hcz := HR3.out.cell hlt
        have hfz := HR3.out.frozen k
        obtain ⟨zz, hzz⟩ : ∃ zz, w3.cell? ⟨w1.heap.size, k, none⟩ = some zz := ⟨_, hcz⟩
        have hs2 := HB2.out.size
        have hs3 := HB3.out.size
        have HO3 := hid ho3
        clear hcz ho3 hb3
        go_wp2_with fail
        have HG := hid (grownBy_setCellAt w3 w1.heap.size k (.slice aor r.length cr))
        have HR4 := hid (HR3.out.set k (.slice aor r.length cr))
        have HNE := hid (show ∀ q, Value.ownBlock (.slice aor r.length cr) = some q → w2.heap.size ≤ q from fun q hq => (World.ownsRow.lt HO3.out q hq).1)
        have HO4 := hid ((HO3.out.mono (show w1.heap.size + 1 ≤ w2.heap.size by omega)).kept HG.out (by
          cases hob : Value.ownBlock (.slice aor r.length cr) with
          | none => exact .inl rfl
          | some q =>
            have := HNE.out q hob
            refine .inr ?_
            simp only [ne_eq, Option.some.injEq]
            omega))
        have HF4 := hid (Filled.step (u := .slice aor r.length cr) HFIL.out ((HFIL.out.below HB3.out).kept HG.out) hkm (by rw [HGET.out]; exact HO4.out) (fun q hq => by have := HNE.out q hq; omega))
        have HBB := hid ((Below_chain HB.out HB3.out).setCell (p := ⟨w1.heap.size, k, none⟩) hs1 (.slice aor r.length cr))
        go_roundw
        case rel => exact ⟨k + 1, by omega, by go_num, ⟨_, HR4.out, HF4.out⟩, HBB.out, by simp; omega⟩
        case measure => simp [intOf]; omega
      · obtain rfl : k = L.length := by omega
        clear hrow hfil hbel
        go_wp2_with fail
        go_ret2
        exact ⟨_, rfl, by rw [HR.out]; exact (HFIL.out.listsU HROW.out HML.out HLM.out).listsA.mono hs1, HB.out⟩
end Go.Proofs.Ytijjdidljoicfab
