/- Contracts: coolBeginning, coolStep and impl.NextCool. Conditions: the slice is not nil and reads as a list of at most 2^20 numbers. -/
import Derived.Test.YtijjdidljoicfaaCh6
import Derived.Test.YtijjdidljoicfaaI3
import Derived.Test.YtijjdidljoicfaaJoin
namespace Go.Proofs.Ytijjdidljoicfaa
open Go.RowKit
set_option linter.unusedVariables false

/-- 0, 1 stand at i -/
def upAt (xs : List Int) (i : Nat) : Prop := xs.getD i 0 = 0 ∧ xs.getD (i + 1) 0 = 1
theorem coolD_at {xs : List Int} {q : Nat} (hq : q + 3 ≤ xs.length) (hm : upAt xs q) : ∀ d, d ≤ xs.length - 2 → xs.length - 2 - d ≤ q → (∀ i, xs.length - 2 - d ≤ i → i < q → ¬ upAt xs i) → coolD xs d = q + 3
  | 0, _, h, _ => by omega
  | d + 1, hd, h, hno => by
    rw [coolD]
    by_cases e : xs.length - 3 - d = q
    · rw [if_pos (by rw [e]; exact hm)]; omega
    · rw [if_neg (show ¬ (xs.getD (xs.length - 3 - d) 0 = 0 ∧ xs.getD (xs.length - 3 - d + 1) 0 = 1) from hno _ (by omega) (by omega))]
      exact coolD_at hq hm d (by omega) (by omega) (fun i h1 h2 => hno i (by omega) h2)
theorem coolD_no {xs : List Int} : ∀ d, d ≤ xs.length - 2 → (∀ i, i + 3 ≤ xs.length → ¬ upAt xs i) → coolD xs d = xs.length
  | 0, _, _ => rfl
  | d + 1, hd, hno => by
    rw [coolD, if_neg (show ¬ (xs.getD (xs.length - 3 - d) 0 = 0 ∧ xs.getD (xs.length - 3 - d + 1) 0 = 1) from hno _ (by omega))]
    exact coolD_no d (by omega) hno
theorem coolM_at {xs : List Int} {q : Nat} (hq : q + 3 ≤ xs.length) (hm : upAt xs q) (hno : ∀ i, i < q → ¬ upAt xs i) : coolM xs = q + 3 :=
  coolD_at hq hm _ (Nat.le_refl _) (by omega) (fun i _ h => hno i h)
theorem coolM_no {xs : List Int} (hno : ∀ i, i + 3 ≤ xs.length → ¬ upAt xs i) : coolM xs = xs.length := coolD_no _ (Nat.le_refl _) hno
set_option maxHeartbeats 1000000 in
theorem coolBeginning_any (v : Value) (xs : List Int) (w : World) (h : Sits w v xs) (hl : xs.length ≤ 1048576) :
    Calls Try.prog 112 #[v] w fun e w' => e = .returned (.int .i64 (coolM xs : Int)) ∧ w = w' := by
  obtain ⟨g, off, c, rfl, hc1, hm, hb, hc⟩ := h
  have HC := hid hc
  clear hc
  go_enter Try.func112, Try.ntmps112
  go_wp2_with fail
  go_loop [3] (fun e => ∃ q : Nat, (q = 0 ∨ q + 2 ≤ xs.length) ∧ e = .int .i64 ((q : Int) + 3) ∧ ∀ i, i < q → ¬ upAt xs i) (fun e => xs.length + 3 - (intOf e).toNat)
  case atStart => exact ⟨0, .inl rfl, rfl, fun i h => by omega⟩
  case round =>
    obtain ⟨q, hq, rfl, hno⟩ := hrel
    have HNO := hid hno
    clear hno
    by_cases hlt : q + 3 ≤ xs.length
    · have hq0 : q < xs.length := by omega
      have hq1 : q + 1 < xs.length := by omega
      have hcx := HC.out q hq0
      have hcy : w.cell? ⟨g, off + (q + 1), none⟩ = some (.int .i64 xs[q + 1]) := HC.out (q + 1) hq1
      have HUP := hid (show upAt xs q ↔ xs[q] = 0 ∧ xs[q + 1] = 1 by rw [upAt, getD_at hq0, getD_at hq1])
      obtain ⟨x, hx⟩ : ∃ x, x = xs[q] := ⟨_, rfl⟩
      obtain ⟨y, hy⟩ : ∃ y, y = xs[q + 1] := ⟨_, rfl⟩
      rw [← hx, ← hy] at HUP
      rw [← hx] at hcx
      rw [← hy] at hcy
      have hw3 : IntKind.i64.wrap ((q : Int) + 3 - 3) = (q : Int) := by rw [show (q : Int) + 3 - 3 = q by omega]; exact IntWalk.i64_in _ (by omega)
      have hw2 : IntKind.i64.wrap ((q : Int) + 3 - 2) = (q : Int) + 1 := by rw [show (q : Int) + 3 - 2 = q + 1 by omega]; exact IntWalk.i64_in _ (by omega)
      have hwq : IntKind.i64.wrap (q : Int) = (q : Int) := IntWalk.i64_in _ (by omega)
      have h0 : (0 : Int) ≤ (q : Int) := by omega
      have h1 : (q : Int) < (xs.length : Int) := by omega
      have h2 : (0 : Int) ≤ (q : Int) + 1 := by omega
      have h3 : (q : Int) + 1 < (xs.length : Int) := by omega
      have h4 : ((q : Int) + 1).toNat = q + 1 := by omega
      have h5 : (q : Int) + 3 ≤ (xs.length : Int) := by omega
      have HQL := hid hlt
      clear hx hy
      cases hx0 : (x == 0) with
      | true =>
        cases hy1 : (y == 1) with
        | true =>
          have HM := hid (show coolM xs = q + 3 from coolM_at HQL.out (HUP.out.2 ⟨by simpa using hx0, by simpa using hy1⟩) HNO.out)
          go_wp2_with fail
          go_ret
          exact ⟨ret_int (by rw [HM.out]; rfl), rfl⟩
        | false =>
          have HN := hid (show ¬ upAt xs q from fun h => by rw [(HUP.out.1 h).2] at hy1; simp at hy1)
          go_wp2_with fail
          go_round
          case rel => exact ⟨q + 1, .inr (by have := HQL.out; omega), by go_num, fun i hi => by
            by_cases e : i = q
            · subst e; exact HN.out
            · exact HNO.out i (by omega)⟩
          case measure => simp [intOf] <;> omega
      | false =>
        have HN := hid (show ¬ upAt xs q from fun h => by rw [(HUP.out.1 h).1] at hx0; simp at hx0)
        go_wp2_with fail
        go_round
        case rel => exact ⟨q + 1, .inr (by have := HQL.out; omega), by go_num, fun i hi => by
          by_cases e : i = q
          · subst e; exact HN.out
          · exact HNO.out i (by omega)⟩
        case measure => simp [intOf] <;> omega
    · have HM := hid (show coolM xs = xs.length from coolM_no (fun i hi => HNO.out i (by omega)))
      have h5 : ¬ (q : Int) + 3 ≤ (xs.length : Int) := by omega
      go_wp2_with fail
      go_ret
      exact ⟨ret_int (by rw [HM.out]), rfl⟩
theorem Sits_three {w : World} {u1 u2 u3 : Value} {a b c : List Int} (h1 : Sits w u1 a) (h2 : Sits w u2 b) (h3 : Sits w u3 c) :
    SitsL (w.alloc (.cells #[u1, u2, u3] 22)) (.slice (some ⟨w.heap.size, 0, none⟩) 3 3) [a, b, c] := by
  have hb : Below w.heap.size w (w.alloc (.cells #[u1, u2, u3] 22)) := (Below.refl _ _).alloc (Nat.le_refl _) _
  refine ⟨w.heap.size, 0, 3, rfl, Nat.le_refl _, by omega, by simp, fun i hi => ?_⟩
  match i, hi with
  | 0, _ => exact ⟨u1, by simp, h1.below hb⟩
  | 1, _ => exact ⟨u2, by simp, h2.below hb⟩
  | 2, _ => exact ⟨u3, by simp, h3.below hb⟩
theorem coolM_le (xs : List Int) : coolM xs ≤ xs.length := coolD_le xs _
theorem coolM_pos {xs : List Int} (h : 0 < xs.length) : 0 < coolM xs := coolD_pos h _ (Nat.le_refl _)
set_option maxHeartbeats 2000000 in
theorem coolStep_any (v : Value) (xs : List Int) (w : World) (h : Sits w v xs) (hl : xs.length ≤ 1048576) :
    Calls Try.prog 83 #[v] w fun e w' => ∃ g, e = .returned (.slice (some ⟨g, 0, none⟩) xs.length xs.length) ∧ Own w' w.heap.size (.slice (some ⟨g, 0, none⟩) xs.length xs.length) (coolL xs) ∧ Below w.heap.size w w' := by
  have HS := hid h
  obtain ⟨g, off, c, rfl, hc1, hm, hb, hc⟩ := h
  have HC := hid hc
  have hml := coolM_le xs
  have HLEN := hid (coolL_length xs)
  by_cases h0 : xs.length = 0
  · obtain rfl : xs = [] := List.eq_nil_of_length_eq_zero h0
    have HM := hid (show coolM [] = 0 from rfl)
    have HZ := hid (show coolL [] = [] from rfl)
    have HNIL := hid (show ∀ d o : Nat, o ≤ 9223372036854775807 → Sits w (.slice (some ⟨g, d, none⟩) 0 o) [] from fun d o ho => ⟨g, d, o, rfl, Nat.zero_le _, ho, hb, fun i hi => by simp at hi⟩)
    have HK := hid (show ∀ T o, Below w.heap.size w (w.alloc (.cells o T)).drew from fun T o => ((Below.refl _ _).alloc (Nat.le_refl _) _).drew)
    have HSZ := hid (show ∀ T o, (w.alloc (.cells o T)).drew.heap.size = w.heap.size + 1 from fun T o => by simp)
    have h1 : (0 : Int) ≤ (c : Int) := by omega
    have hww : IntKind.i64.wrap (0 - 1) = -1 := rfl
    have HPS := hid (show SitsL (w.alloc (.cells #[.slice (some ⟨g, off, none⟩) 0 c, .slice (some ⟨g, off, none⟩) 0 c, .slice (some ⟨g, off, none⟩) 0 c] 22)).drew (.slice (some ⟨w.heap.size, 0, none⟩) 3 3) [[], [], []] from Sits_three (HNIL.out off c hm) (HNIL.out off c hm) (HNIL.out off c hm))
    have HN3 := hid (show ([[], [], []] : List (List Int)).length ≤ 1048576 by show 3 ≤ 1048576; omega)
    clear hc hc1 hml
    go_enter Try.func83, Try.ntmps83
    go_wp2_with (first | (go_at_call 112; refine (coolBeginning_any _ [] _ HS.out hl).mono ?_; rintro e w1 ⟨rfl, rfl⟩; rw [HM.out]) | fail)
    go_region_held3 (fun w' => Below w.heap.size w w')
      (first | exact Below.refl _ _ | exact (Below.refl _ _).drew | exact HK.out _ _ | exact HB2.out | go_keep | fail)
      (first
        | (go_at_call 102; refine (joined_is _ [[], [], []] [] 0 _ HPS.out HN3.out rfl rfl (Nat.zero_le _)).mono ?_; rintro e w2 ⟨rfl, ho2, hb2⟩; have HO2 := hid (show Own w2 w.heap.size (.slice (some ⟨w.heap.size + 1, 0, none⟩) 0 0) [] by simpa using ho2.mono (HK.out _ _).size); have HB2 := hid (Below_chain (HK.out _ _) hb2); clear ho2 hb2)
        | fail)
    all_goals
      go_wp2_with fail
      go_ret
      exact ⟨_, rfl, by rw [HZ.out]; exact HO2.out, HB2.out⟩
  · have hmp := coolM_pos (xs := xs) (by omega)
    obtain ⟨p, hp⟩ : ∃ p, coolM xs = p + 1 := ⟨coolM xs - 1, by omega⟩
    have HM := hid hp
    rw [hp] at hml hmp
    have hpl : p < xs.length := by omega
    have hww : IntKind.i64.wrap ((p : Int) + 1 - 1) = (p : Int) := by rw [show (p : Int) + 1 - 1 = p by omega]; exact IntWalk.i64_in _ (by omega)
    have hwp : IntKind.i64.wrap (p : Int) = (p : Int) := IntWalk.i64_in _ (by omega)
    have hp0 : ¬ (p : Int) < 0 := by omega
    have h1 : (0 : Int) ≤ (p : Int) := by omega
    have h2 : (p : Int) ≤ (p : Int) + 1 := by omega
    have h3 : (p : Int) + 1 ≤ (c : Int) := by omega
    have h4 : (p : Int) ≤ (c : Int) := by omega
    have h5 : (p : Int) + 1 ≤ (xs.length : Int) := by omega
    have h6 : (0 : Int) ≤ (p : Int) + 1 := by omega
    have h7 : ((p : Int) + 1).toNat = p + 1 := by omega
    have h8 : p < c := by omega
    have hcp : ¬ c = p := by omega
    have hkeep : ∀ T o, Sits (w.alloc (.cells o T)).drew (.slice (some ⟨g, off, none⟩) xs.length c) xs := fun T o => HS.out.below (((Below.refl _ _).alloc (Nat.le_refl _) _).drew)
    have HK := hid hkeep
    clear hc hp h0 hkeep
    have HP1 := hid (show Sits w (.slice (some ⟨g, off + p, none⟩) 1 (c - p)) [xs[p]] from ⟨g, off + p, c - p, rfl, by simp; omega, by omega, hb, fun i hi => by
      have : i = 0 := by simpa using hi
      subst this
      exact HC.out p hpl⟩)
    have HP2 := hid (show Sits w (.slice (some ⟨g, off, none⟩) p c) (xs.take p) from Sits_take p (by omega) hc1 hm hb HC.out)
    have HFL := hid (show [[xs[p]], xs.take p, xs.drop (p + 1)].flatten = coolL xs by
      rw [coolL, HM.out, if_neg (by omega), show p + 1 - 1 = p from rfl, getD_at hpl]; simp)
    have HN3 := hid (show [[xs[p]], xs.take p, xs.drop (p + 1)].length ≤ 1048576 by show 3 ≤ 1048576; omega)
    by_cases hcap : c = p + 1
    · subst hcap
      rw [show p + 1 - p = 1 by omega] at HP1
      have hxl : xs.length = p + 1 := by omega
      have hdr : xs.drop (p + 1) = [] := List.drop_eq_nil_of_le (by omega)
      have HP3 := hid (show Sits w (.slice (some ⟨g, off, none⟩) 0 0) (xs.drop (p + 1)) from ⟨g, off, 0, by rw [hdr]; rfl, by rw [hdr]; simp, by omega, hb, fun i hi => by rw [hdr] at hi; simp at hi⟩)
      have HPS := hid (show SitsL (w.alloc (.cells #[.slice (some ⟨g, off + p, none⟩) 1 1, .slice (some ⟨g, off, none⟩) p (p + 1), .slice (some ⟨g, off, none⟩) 0 0] 22)).drew (.slice (some ⟨w.heap.size, 0, none⟩) 3 3) [[xs[p]], xs.take p, xs.drop (p + 1)] from Sits_three HP1.out HP2.out HP3.out)
      have HBA := hid (show Below w.heap.size w (w.alloc (.cells #[.slice (some ⟨g, off + p, none⟩) 1 1, .slice (some ⟨g, off, none⟩) p (p + 1), .slice (some ⟨g, off, none⟩) 0 0] 22)).drew from ((Below.refl _ _).alloc (Nat.le_refl _) _).drew)
      have hle1 : (xs.length : Int) ≤ (p : Int) + 1 := by omega
      have hle2 : ((p + 1 : Nat) : Int) ≤ (p : Int) + 1 := by omega
      have hs0 : xs.length - (p + 1) = 0 := by omega
      have hs1 : p + 1 - (p + 1) = 0 := by omega
      clear hxl hdr
      go_enter Try.func83, Try.ntmps83
      go_wp2_with (first | (go_at_call 112; refine (coolBeginning_any _ xs _ HS.out hl).mono ?_; rintro e w1 ⟨rfl, rfl⟩; rw [HM.out]) | fail)
      go_region_held3 (fun w' => Sits w' (.slice (some ⟨g, off, none⟩) xs.length (p + 1)) xs)
        (first | exact HS.out | exact HK.out _ _ | exact HS2.out | go_keep | fail)
        (first
          | (go_at_call 102; refine (joined_is _ _ _ xs.length _ HPS.out HN3.out HFL.out HLEN.out hl).mono ?_; rintro e w2 ⟨rfl, ho2, hb2⟩; have HO2 := hid (show Own w2 w.heap.size (.slice (some ⟨w.heap.size + 1, 0, none⟩) xs.length xs.length) (coolL xs) by simpa using ho2.mono HBA.out.size); have HB2 := hid (Below_chain HBA.out hb2); have HS2 := hid (HS.out.below HB2.out); clear ho2 hb2)
          | fail)
      all_goals
        go_wp2_with fail
        go_ret
        exact ⟨_, rfl, HO2.out, HB2.out⟩
    · have hle1 : (p : Int) + 1 ≤ (xs.length : Int) := by omega
      have HP3 := hid (show Sits w (.slice (some ⟨g, off + (p + 1), none⟩) (xs.length - (p + 1)) (c - (p + 1))) (xs.drop (p + 1)) from Sits_drop (p + 1) hml hc1 hm hb HC.out)
      have HPS := hid (show SitsL (w.alloc (.cells #[.slice (some ⟨g, off + p, none⟩) 1 (c - p), .slice (some ⟨g, off, none⟩) p c, .slice (some ⟨g, off + (p + 1), none⟩) (xs.length - (p + 1)) (c - (p + 1))] 22)).drew (.slice (some ⟨w.heap.size, 0, none⟩) 3 3) [[xs[p]], xs.take p, xs.drop (p + 1)] from Sits_three HP1.out HP2.out HP3.out)
      have HBA := hid (show Below w.heap.size w (w.alloc (.cells #[.slice (some ⟨g, off + p, none⟩) 1 (c - p), .slice (some ⟨g, off, none⟩) p c, .slice (some ⟨g, off + (p + 1), none⟩) (xs.length - (p + 1)) (c - (p + 1))] 22)).drew from ((Below.refl _ _).alloc (Nat.le_refl _) _).drew)
      go_enter Try.func83, Try.ntmps83
      go_wp2_with (first | (go_at_call 112; refine (coolBeginning_any _ xs _ HS.out hl).mono ?_; rintro e w1 ⟨rfl, rfl⟩; rw [HM.out]) | fail)
      go_region_held3 (fun w' => Sits w' (.slice (some ⟨g, off, none⟩) xs.length c) xs)
        (first | exact HS.out | exact HK.out _ _ | exact HS2.out | go_keep | fail)
        (first
          | (go_at_call 102; refine (joined_is _ _ _ xs.length _ HPS.out HN3.out HFL.out HLEN.out hl).mono ?_; rintro e w2 ⟨rfl, ho2, hb2⟩; have HO2 := hid (show Own w2 w.heap.size (.slice (some ⟨w.heap.size + 1, 0, none⟩) xs.length xs.length) (coolL xs) by simpa using ho2.mono HBA.out.size); have HB2 := hid (Below_chain HBA.out hb2); have HS2 := hid (HS.out.below HB2.out); clear ho2 hb2)
          | fail)
      all_goals
        go_wp2_with fail
        go_ret
        exact ⟨_, rfl, HO2.out, HB2.out⟩
theorem impl_NextCool_any (v : Value) (xs : List Int) (w : World) (h : Sits w v xs) (hl : xs.length ≤ 1048576) (_hwf : ∀ x ∈ xs, (Lit.int .i64 x).wf = true) :
    Calls Try.prog 47 #[v] w fun e w' => ∃ u, e = .returned (.tuple #[u, .bool (isBits xs)]) ∧ Own w' w.heap.size u (ncRes xs) ∧ Below w.heap.size w w' := by
  have HS := hid h
  cases hi2 : isBits xs with
  | false =>
    have HI := hid hi2
    have HR := hid (show ncRes xs = [] by rw [ncRes, if_neg (by rw [hi2]; simp)])
    clear hi2 h _hwf
    go_enter Try.func47, Try.ntmps47
    go_wp2_with (first | (go_at_call 81; refine (areBits_any _ xs _ HS.out hl).mono ?_; rintro e w1 ⟨rfl, rfl⟩; rw [HI.out]) | fail)
    go_ret2
    exact ⟨_, rfl, by rw [HR.out]; exact Own.nil _ _, Below.refl _ _⟩
  | true =>
    have HI := hid hi2
    have HR := hid (show ncRes xs = coolL xs by rw [ncRes, if_pos hi2])
    clear hi2 h _hwf
    go_enter Try.func47, Try.ntmps47
    go_wp2_with (first | (go_at_call 81; refine (areBits_any _ xs _ HS.out hl).mono ?_; rintro e w1 ⟨rfl, rfl⟩; rw [HI.out]) | (go_at_call 83; refine (coolStep_any _ xs _ HS.out hl).mono ?_; rintro e w1 ⟨g1, rfl, ho1, hb1⟩; have HO1 := hid ho1; have HB1 := hid hb1; clear ho1 hb1) | fail)
    go_ret2
    exact ⟨_, rfl, by rw [HR.out]; exact HO1.out, HB1.out⟩
end Go.Proofs.Ytijjdidljoicfaa
