/- Contract: has, the check of a list against a shape (impl.growthsOf$1). Conditions: the shape's functions keep their contracts; the slice reads as a list of at most 2^20 numbers. -/
import Derived.Test.YtakelcboamjndaaShB
namespace Go.Proofs.Ytakelcboamjndaa
open Go.RowKit
set_option linter.unusedVariables false
set_option maxRecDepth 4000

theorem hasG_any {D : Nat → Nat → Prop} {ch : Nat → Nat → List Int} {nl nb : Nat → Nat → Int → Nat} (S : ShC 82 83 D ch nl nb) (fk : Value) (l0 b0 : Nat) (v : Value) (xs : List Int) (w : World)
    (hD : D l0 b0) (h : Reads w v xs) (hl : xs.length ≤ 1048576) :
    Calls Try.prog 51 #[shV l0 b0 (fnV 82) (fnV 83) fk, v] w fun e w' => e = .returned (.bool (hasS ch nl nb xs l0 b0)) ∧ Below w.heap.size w w' := by
  have hba := (Below.refl w.heap.size w).alloc (Nat.le_refl _) (shObj l0 b0 (fnV 82) (fnV 83) fk)
  obtain ⟨g0, g1, g2, g3, g4⟩ := sh_box w l0 b0 (fnV 82) (fnV 83) fk
  have HD := hid hD
  have HV := hid (h.below hba)
  have HBA := hid hba
  obtain ⟨ao, c, rfl, hc1, hm, hx⟩ := h.view
  obtain ⟨w1, hw1⟩ : ∃ w1, w1 = w.alloc (shObj l0 b0 (fnV 82) (fnV 83) fk) := ⟨_, rfl⟩
  have hs1 : w1.heap.size = w.heap.size + 1 := by rw [hw1]; simp
  have HS1 := hid hs1
  have hr0 := rs_row w1 l0 b0
  have HB1 := hid ((Below.refl w1.heap.size w1).alloc (Nat.le_refl _) (rsObj l0 b0))
  rw [hs1] at hr0
  have HR0 := hid hr0
  rw [← hw1] at g0 g1 g2 g3 g4 HV HBA
  have G2 := hid g2
  have G3 := hid g3
  clear hr0 hs1 hba h hD
  go_enter Try.func51, Try.ntmps51
  go_wp2_with fail
  rw [← hw1]
  clear hw1
  go_loopw [12] (fun i wr => ∃ k l b : Nat, k ≤ xs.length ∧ i = .int .i64 k ∧ D l b ∧ hasS ch nl nb xs l0 b0 = hasS ch nl nb (xs.drop k) l b ∧ wr.rowIs (w.heap.size + 1) 44 2 (rvF l b) ∧ Below w1.heap.size w1 wr) (fun i _ => xs.length - (intOf i).toNat)
  case atStart => exact ⟨0, l0, b0, Nat.zero_le _, rfl, HD.out, by simp, HR0.out, HB1.out⟩
  case round =>
    obtain ⟨k, l, b, hk, rfl, hd, heq, hrow, hbel⟩ := hrel
    have HDD := hid hd
    have HEQ := hid heq
    have HROW := hid hrow
    have HBEL := hid hbel
    have r0 := hrow.cell (i := 0) (by omega)
    have r1 := hrow.cell (i := 1) (by omega)
    simp only [rvF, if_pos, Nat.one_ne_zero, if_false] at r0 r1
    have c2 := at_below G2.out hbel
    have c3 := at_below G3.out hbel
    clear g0 g1 g2 g3 g4 hd heq hrow
    by_cases hlt : k < xs.length
    · rcases hx with hx | ⟨bx, off, rfl, hbx, hcx0⟩
      · exact absurd hlt (by rw [hx]; simp)
      have hcx := (hbel.cell (p := ⟨bx, off + k, none⟩) (by show bx < w1.heap.size; have := HS1.out; omega)).trans ((HBA.out.cell (p := ⟨bx, off + k, none⟩) (by exact hbx)).trans (hcx0 k hlt))
      have HC := hid (hasS_cons (ch := ch) (nl := nl) (nb := nb) (l := l) (b := b) hlt)
      obtain ⟨x, hxk⟩ : ∃ x, x = xs[k] := ⟨_, rfl⟩
      rw [← hxk] at hcx HC
      have hsz := HBEL.out.size
      have hsz1 := HS1.out
      clear hbel hcx0 hxk
      by_cases hl0 : l = 0
      · subst hl0
        have HF := hid (show hasS ch nl nb xs l0 b0 = false by rw [HEQ.out, HC.out]; rfl)
        go_wp2_with fail
        go_ret
        exact ⟨ret_bool HF.out.symm, HBA.out.trans (HBEL.out.mono HBA.out.size)⟩
      · have h0 : ((l : Int) == 0) = false := by simp; omega
        have HCH := hid (S.choices l b wr HDD.out hl0)
        cases hh : hasB (ch l b) x
        · have HF := hid (show hasS ch nl nb xs l0 b0 = false by rw [HEQ.out, HC.out, hh]; simp)
          go_wp2_with (first
            | (go_at_call 85; refine (Contains_any _ (ch l b) x _ HO.out.reads).mono ?_; rintro e w3 ⟨rfl, rfl⟩; rw [hh])
            | (refine HCH.out.mono ?_; rintro e w2 ⟨u, rfl, ho, hb⟩; have HO := hid ho; have HB2 := hid hb; clear ho hb)
            | fail)
          go_ret
          exact ⟨ret_bool HF.out.symm, (HBA.out.trans (HBEL.out.mono HBA.out.size)).trans (HB2.out.mono (by omega))⟩
        · have hmem : x ∈ ch l b := hasB_iff.1 hh
          have HF := hid (show hasS ch nl nb xs l0 b0 = hasS ch nl nb (xs.drop (k + 1)) (nl l b x) (nb l b x) by rw [HEQ.out, HC.out, hh]; simp [hl0])
          have HDN := hid (S.dom l b x HDD.out hl0 hmem)
          have HBH := hid (fun W => S.behind l b x W HDD.out hl0 hmem)
          clear hmem
          go_wp2_with (first
            | (go_at_call 85; refine (Contains_any _ (ch l b) x _ HO.out.reads).mono ?_; rintro e w3 ⟨rfl, rfl⟩; rw [hh])
            | (with_reducible refine HCH.out.mono ?_; rintro e w2 ⟨u, rfl, ho, hb⟩; have HO := hid ho; have HB2 := hid hb; have d3 := at_below c3 hb; have d0 := at_below r0 hb; have d1 := at_below r1 hb; clear ho hb)
            | (with_reducible refine (HBH.out _).mono ?_; rintro e w4 ⟨rfl, hb⟩; have HB4 := hid (HB2.out.trans (hb.mono HB2.out.size)); have HR4 := hid (HROW.out.of_block (HB4.out.block _ (World.rowIs.lt HROW.out))); have e0 := HR4.out.cell (i := 0) (by omega); have e1 := HR4.out.cell (i := 1) (by omega); have f0 := HR4.out.frozen 0; have f1 := HR4.out.frozen 1; clear hb)
            | fail)
          go_roundw
          case rel => exact ⟨k + 1, nl l b x, nb l b x, by omega, by go_num, HDN.out, HF.out, rv_set HR4.out _ _, ((HBEL.out.trans (HB4.out.mono HBEL.out.size)).setCell (p := ⟨w.heap.size + 1, 0, none⟩) (by show w1.heap.size ≤ w.heap.size + 1; omega) _).setCell (p := ⟨w.heap.size + 1, 1, none⟩) (by show w1.heap.size ≤ w.heap.size + 1; omega) _⟩
          case measure => simp [intOf]; omega
    · obtain rfl : k = xs.length := by omega
      have HF := hid (show hasS ch nl nb xs l0 b0 = (l == 0) by rw [HEQ.out, List.drop_length]; rfl)
      clear hbel
      by_cases hl0 : l = 0
      · subst hl0
        go_wp2_with fail
        go_ret
        exact ⟨ret_bool (by rw [HF.out]; rfl), HBA.out.trans (HBEL.out.mono HBA.out.size)⟩
      · have h0 : ((l : Int) == 0) = false := by simp; omega
        go_wp2_with fail
        go_ret
        exact ⟨ret_bool (by rw [HF.out]; simp [hl0]), HBA.out.trans (HBEL.out.mono HBA.out.size)⟩
end Go.Proofs.Ytakelcboamjndaa
