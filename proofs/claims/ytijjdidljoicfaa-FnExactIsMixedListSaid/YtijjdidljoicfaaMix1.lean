/- Contracts: gcMixed, gcMixedRank and both MixedAt and MixedRank functions. Conditions: the slices read as lists of at most 2^20 numbers. -/
import Derived.Test.YtijjdidljoicfaaAt1
import Derived.Test.YtijjdidljoicfaaDig4
import Derived.Test.YtijjdidljoicfaaMixM
namespace Go.Proofs.Ytijjdidljoicfaa
open Go.RowKit
set_option linter.unusedVariables false

theorem tail_bases {x : Int} {bs : List Int} (h : allBases (x :: bs) = true) : allBases bs = true ∧ 2 ≤ x ∧ x ≤ 12 := by
  have h0 := (allTo_iff _ _).1 h
  refine ⟨(allTo_iff _ _).2 (fun i hi => ?_), ?_⟩
  · have := h0 (i + 1) (by simpa using hi)
    simpa [baseAt] using this
  · have := h0 0 (by simp)
    simpa [baseAt, inB] using this
/-- The facts on the first digit of a rank. -/
theorem mix_facts {x : Int} {bs : List Int} {r : Int} (h : allBases (x :: bs) = true) (hP : prodL (x :: bs) ≤ 1000000) (h0 : 0 ≤ r) (h1 : r < prodL (x :: bs)) :
    1 ≤ prodL bs ∧ prodL bs ≤ 1000000 ∧ 0 ≤ r / prodL bs ∧ r / prodL bs ≤ 1000000 ∧ 0 ≤ r % prodL bs ∧ r % prodL bs < prodL bs := by
  have ho := ones_of_bases h
  have h2 := prodL_pos (ones_tail ho).2
  have h3 := prodL_tail ho
  refine ⟨h2, by omega, Int.ediv_nonneg h0 (by omega), Int.le_trans (Int.ediv_le_self _ h0) (by omega), Int.emod_nonneg _ (by omega), Int.emod_lt_of_pos _ (by omega)⟩
theorem raProduct_is (v : Value) (xs : List Int) (w : World) (h : Sits w v xs) (hall : allBases xs = true) (hle : prodL xs ≤ 1000000) :
    Calls Try.prog 49 #[v] w fun e w' => e = .returned (.int .i64 (prodL xs)) ∧ w = w' := by
  refine (raProduct_any v xs w h hall).mono ?_
  rintro e w' ⟨p, rfl, hp, rfl⟩
  have e1 := prodTo_prodL xs
  rcases hp with ⟨_, rfl⟩ | ⟨h1, _⟩
  · exact ⟨ret_int e1, rfl⟩
  · omega
theorem sits_tail {w : World} {b off c : Nat} {x : Int} {bs : List Int} (hb : b < w.heap.size) (hc1 : (x :: bs).length ≤ c) (hm : c ≤ 9223372036854775807) (hc : ∀ i (hi : i < (x :: bs).length), w.cell? ⟨b, off + i, none⟩ = some (.int .i64 (x :: bs)[i])) :
    Sits w (.slice (some ⟨b, off + 1, none⟩) bs.length (c - 1)) bs := by
  have := Sits_drop (w := w) (off := off) 1 (by simp) hc1 hm hb hc
  simpa using this
theorem sits_none {w : World} {b off : Nat} (hb : b < w.heap.size) : Sits w (.slice (some ⟨b, off, none⟩) 0 0) [] :=
  ⟨b, off, 0, rfl, Nat.le_refl _, by omega, hb, fun i hi => absurd hi (by simp)⟩
set_option maxHeartbeats 1000000 in
theorem gcMixed_any (xs : List Int) : ∀ (v : Value) (r : Int) (w : World), Sits w v xs → xs.length ≤ 12 → allBases xs = true → prodL xs ≤ 1000000 → 0 ≤ r → r < prodL xs →
    Calls Try.prog 50 #[v, .int .i64 r] w fun e w' => ∃ u, e = .returned u ∧ Own w' w.heap.size u (mixL xs r) ∧ Below w.heap.size w w' := by
  induction xs with
  | nil =>
    rintro v r w ⟨b, off, c, rfl, hc1, hm, hb, hc⟩ _ _ _ _ _
    go_enter Try.func50, Try.ntmps50
    go_wp2_with fail
    go_ret
    exact ⟨_, rfl, Own.nil _ _, Below.refl _ _⟩
  | cons x bs ih =>
    rintro v r w ⟨b, off, c, rfl, hc1, hm, hb, hc⟩ hl12 hall hP hr0 hr1
    obtain ⟨ht1, ht2, ht3⟩ := tail_bases hall
    obtain ⟨f1, f2, f3, f4, f5, f6⟩ := mix_facts hall hP hr0 hr1
    obtain ⟨i0, hi, hz0, hz1, hz2⟩ := info_parts Try.info3
    have HALL := hid ht1
    have HT1 := hid (sits_tail hb hc1 hm hc)
    have hX : mixL (x :: bs) r = r / prodL bs :: mixL bs (turnIf (r / prodL bs) (prodL bs) (r % prodL bs)) := rfl
    obtain ⟨t, ht⟩ : ∃ t, t = turnIf (r / prodL bs) (prodL bs) (r % prodL bs) := ⟨_, rfl⟩
    rw [← ht] at hX
    have htr := turnIf_range (d := r / prodL bs) f5 f6
    rw [← ht] at htr
    obtain ⟨S, hS⟩ : ∃ S, S = prodL bs := ⟨_, rfl⟩
    have HS2 := hid (show prodL bs ≤ 1000000 from f2)
    have HTR := hid htr
    have HPR : Hid (∀ (v : Value) (w : World), Sits w v bs → Calls Try.prog 49 #[v] w fun e w' => e = .returned (.int .i64 S) ∧ w = w') := by
      show ∀ _ _ _, _
      intro v w h
      rw [hS]
      exact raProduct_is v bs w h HALL.out HS2.out
    rw [← hS] at hX htr f1 f2 f3 f4 f5 f6 ht
    obtain ⟨d, hd⟩ : ∃ d, d = r / S := ⟨_, rfl⟩
    obtain ⟨m, hm2⟩ : ∃ m, m = r % S := ⟨_, rfl⟩
    have u1 : r.tdiv S = d := by rw [Int.tdiv_eq_ediv_of_nonneg hr0, hd]
    have u2 : r.tmod S = m := by rw [Int.tmod_eq_emod_of_nonneg hr0, hm2]
    have u3 : r / S = d := hd.symm
    have u4 : r % S = m := hm2.symm
    rw [← hd] at hX f3 f4 ht
    rw [← hm2] at f5 f6 ht
    have HX := hid hX
    have HRC := hid (ih)
    have hbl : bs.length ≤ 12 := by simp at hl12; omega
    have hne : (S == 0) = false := by simp; omega
    have hne2 : ((bs.length : Int) + 1 == 0) = false := by simp; omega
    have hcc : bs.length + 1 ≤ c := hc1
    have hlen : (x :: bs).length = bs.length + 1 := rfl
    rw [hlen]
    have w1 : IntKind.i64.wrap d = d := IntWalk.i64_in _ (by omega)
    have w2 : IntKind.i64.wrap m = m := IntWalk.i64_in _ (by omega)
    have w3 : d.tmod 2 = d % 2 := Int.tmod_eq_emod_of_nonneg f3
    have w4 : IntKind.i64.wrap (S - 1 - m) = S - 1 - m := IntWalk.i64_in _ (by omega)
    have w5 : IntKind.i64.wrap (S - 1) = S - 1 := IntWalk.i64_in _ (by omega)
    have HLN := hid (show [d].length + (mixL bs t).length ≤ 1048576 by rw [mixL_length]; simp; omega)
    have HTT := hid ht
    have hr63 : r ≤ 1000000 := by omega
    have hbW := hb
    clear hc hX hS hd hm2 ih ht hc1 hlen hP hr1 htr hall ht1 hl12
    by_cases ho : d % 2 = 1
    · have ho1 : (d % 2 == 1) = true := by simpa using ho
      have e1 : Hid (t = S - 1 - m) := by show t = _; rw [HTT.out, turnIf, if_pos ho]
      by_cases hcap : c = 1
      · have hbs : bs = [] := List.eq_nil_of_length_eq_zero (by omega)
        subst hbs
        subst hcap
        have HS0 := hid (sits_none (off := off) hb)
        go_enter Try.func50, Try.ntmps50
        go_wp2_with (first
          | (go_at_call 49; refine (HPR.out _ _ HS0.out).mono ?_; rintro e w' ⟨rfl, rfl⟩)
          | (go_at_call 50; rw [← e1.out]; refine (HRC.out _ t _ (HS0.out.below ((Below.refl _ _).alloc (Nat.le_refl _) _)) (by simp) HALL.out HS2.out HTR.out.1 HTR.out.2).mono ?_; rintro e w2 ⟨u2, rfl, hou2, hb2⟩; have HOU := hid hou2; have HB2 := hid (Below_chain ((Below.refl w.heap.size w).alloc (Nat.le_refl _) (.cells #[.int .i64 d] 3)) hb2); have HL1 := hid ((Own.lit1 w d).below hb2); clear hou2 hb2)
          | (at_builtin; refine wpList_append_src _ rfl _ _ 22 rfl w.heap.size i0 Try.underlying22 hi hz0 hz1 hz2 (.slice (some ⟨w.heap.size, 0, none⟩) 1 1) [d] rfl HL1.out u2 _ (mixL [] t) rfl HOU.out HLN.out HB2.out.size ?_; intro v' w3 hown' hgrow; have HB3 := hid (HB2.out.grown hgrow HB2.out.size own_low); have HO3 := hid hown'; clear hown' hgrow)
          | fail)
        go_ret
        exact ⟨_, rfl, by rw [HX.out]; exact HO3.out, HB3.out⟩
      · have p1 : (1 : Int) ≤ (bs.length : Int) + 1 := by omega
        have p2 : (1 : Int) ≤ (c : Int) := by omega
        have p3 : 1 ≤ c := by omega
        have p4 : (bs.length : Int) + 1 ≤ (c : Int) := by omega
        go_enter Try.func50, Try.ntmps50
        go_wp2_with (first
          | (go_at_call 49; refine (HPR.out _ _ HT1.out).mono ?_; rintro e w' ⟨rfl, rfl⟩)
          | (go_at_call 50; rw [← e1.out]; refine (HRC.out _ t _ (HT1.out.below ((Below.refl _ _).alloc (Nat.le_refl _) _)) hbl HALL.out HS2.out HTR.out.1 HTR.out.2).mono ?_; rintro e w2 ⟨u2, rfl, hou2, hb2⟩; have HOU := hid hou2; have HB2 := hid (Below_chain ((Below.refl w.heap.size w).alloc (Nat.le_refl _) (.cells #[.int .i64 d] 3)) hb2); have HL1 := hid ((Own.lit1 w d).below hb2); clear hou2 hb2)
          | (at_builtin; refine wpList_append_src _ rfl _ _ 22 rfl w.heap.size i0 Try.underlying22 hi hz0 hz1 hz2 (.slice (some ⟨w.heap.size, 0, none⟩) 1 1) [d] rfl HL1.out u2 _ (mixL bs t) rfl HOU.out HLN.out HB2.out.size ?_; intro v' w3 hown' hgrow; have HB3 := hid (HB2.out.grown hgrow HB2.out.size own_low); have HO3 := hid hown'; clear hown' hgrow)
          | fail)
        go_ret
        exact ⟨_, rfl, by rw [HX.out]; exact HO3.out, HB3.out⟩
    · have ho1 : (d % 2 == 1) = false := by simpa using ho
      have e1 : Hid (t = m) := by show t = _; rw [HTT.out, turnIf, if_neg ho]
      by_cases hcap : c = 1
      · have hbs : bs = [] := List.eq_nil_of_length_eq_zero (by omega)
        subst hbs
        subst hcap
        have HS0 := hid (sits_none (off := off) hb)
        go_enter Try.func50, Try.ntmps50
        go_wp2_with (first
          | (go_at_call 49; refine (HPR.out _ _ HS0.out).mono ?_; rintro e w' ⟨rfl, rfl⟩)
          | (go_at_call 50; rw [← e1.out]; refine (HRC.out _ t _ (HS0.out.below ((Below.refl _ _).alloc (Nat.le_refl _) _)) (by simp) HALL.out HS2.out HTR.out.1 HTR.out.2).mono ?_; rintro e w2 ⟨u2, rfl, hou2, hb2⟩; have HOU := hid hou2; have HB2 := hid (Below_chain ((Below.refl w.heap.size w).alloc (Nat.le_refl _) (.cells #[.int .i64 d] 3)) hb2); have HL1 := hid ((Own.lit1 w d).below hb2); clear hou2 hb2)
          | (at_builtin; refine wpList_append_src _ rfl _ _ 22 rfl w.heap.size i0 Try.underlying22 hi hz0 hz1 hz2 (.slice (some ⟨w.heap.size, 0, none⟩) 1 1) [d] rfl HL1.out u2 _ (mixL [] t) rfl HOU.out HLN.out HB2.out.size ?_; intro v' w3 hown' hgrow; have HB3 := hid (HB2.out.grown hgrow HB2.out.size own_low); have HO3 := hid hown'; clear hown' hgrow)
          | fail)
        go_ret
        exact ⟨_, rfl, by rw [HX.out]; exact HO3.out, HB3.out⟩
      · have p1 : (1 : Int) ≤ (bs.length : Int) + 1 := by omega
        have p2 : (1 : Int) ≤ (c : Int) := by omega
        have p3 : 1 ≤ c := by omega
        have p4 : (bs.length : Int) + 1 ≤ (c : Int) := by omega
        go_enter Try.func50, Try.ntmps50
        go_wp2_with (first
          | (go_at_call 49; refine (HPR.out _ _ HT1.out).mono ?_; rintro e w' ⟨rfl, rfl⟩)
          | (go_at_call 50; rw [← e1.out]; refine (HRC.out _ t _ (HT1.out.below ((Below.refl _ _).alloc (Nat.le_refl _) _)) hbl HALL.out HS2.out HTR.out.1 HTR.out.2).mono ?_; rintro e w2 ⟨u2, rfl, hou2, hb2⟩; have HOU := hid hou2; have HB2 := hid (Below_chain ((Below.refl w.heap.size w).alloc (Nat.le_refl _) (.cells #[.int .i64 d] 3)) hb2); have HL1 := hid ((Own.lit1 w d).below hb2); clear hou2 hb2)
          | (at_builtin; refine wpList_append_src _ rfl _ _ 22 rfl w.heap.size i0 Try.underlying22 hi hz0 hz1 hz2 (.slice (some ⟨w.heap.size, 0, none⟩) 1 1) [d] rfl HL1.out u2 _ (mixL bs t) rfl HOU.out HLN.out HB2.out.size ?_; intro v' w3 hown' hgrow; have HB3 := hid (HB2.out.grown hgrow HB2.out.size own_low); have HO3 := hid hown'; clear hown' hgrow)
          | fail)
        go_ret
        exact ⟨_, rfl, by rw [HX.out]; exact HO3.out, HB3.out⟩
end Go.Proofs.Ytijjdidljoicfaa
