/- Contract: WithoutZero. Conditions: slices that are not nil and read as lists of at most 2^20 numbers. -/
import Derived.Test.YtaajfpjekfmddabBz1
import Derived.Test.YtaajfpjekfmddabJoin
import Derived.Test.YtaajfpjekfmddabBr5
namespace Go.Proofs.Ytaajfpjekfmddab
open Go.RowKit
set_option linter.unusedVariables false
set_option maxRecDepth 4000

theorem joined_isZ (v : Value) (Q : List (List Int)) (L : List Int) (n : Nat) (w : World) (h : SitsL w v Q) (hq : Q.length ≤ 1048576) (hf : Q.flatten = L) (hl : L.length = n) (hn : n ≤ 1048576) :
    Calls Try.prog 61 #[v] w fun e w' => e = .returned (.slice (some ⟨w.heap.size, 0, none⟩) n n) ∧ Own w' w.heap.size (.slice (some ⟨w.heap.size, 0, none⟩) n n) L ∧ Below w.heap.size w w' := by
  subst hf hl
  exact joined_any v Q w h hq hn
theorem Sits_two {w : World} {u1 u2 : Value} {a b : List Int} (h1 : Sits w u1 a) (h2 : Sits w u2 b) :
    SitsL (w.alloc (.cells #[u1, u2] 22)) (.slice (some ⟨w.heap.size, 0, none⟩) 2 2) [a, b] := by
  have hb : Below w.heap.size w (w.alloc (.cells #[u1, u2] 22)) := (Below.refl _ _).alloc (Nat.le_refl _) _
  refine ⟨w.heap.size, 0, 2, rfl, Nat.le_refl _, by omega, by simp, fun i hi => ?_⟩
  match i, hi with
  | 0, _ => exact ⟨u1, by simp, h1.below hb⟩
  | 1, _ => exact ⟨u2, by simp, h2.below hb⟩
/-- the place of the zeros -/
def zerP (xs : List Int) (n : Nat) : Nat := ((nearL xs (zerL n) 0).headD 0).toNat
def wzL (xs : List Int) (n k : Int) : List Int := atB (isbR xs n k) [] (xs.take (zerP xs n.toNat) ++ xs.drop (zerP xs n.toNat + 1))
theorem wzL_no {xs : List Int} {n k : Int} (h : isbR xs n k = false) : wzL xs n k = [] := atB_no h
theorem isbR_parts {xs : List Int} {n k : Int} (h : isbR xs n k = true) : ∃ a b : Nat, n = (a : Int) ∧ k = (b : Int) ∧ 1 ≤ a ∧ a < 11 ∧ 2 ≤ b ∧ b < 7 ∧ b ^ a ≤ 1024 ∧ bruB n k = true ∧ cycB xs k = true ∧ bruR xs a b = true := by
  have hb : isbB xs n k = true := by
    cases hh : isbB xs n k with
    | true => rfl
    | false => rw [isbR_no hh] at h; cases h
  have hb2 := hb
  unfold isbB at hb2
  simp only [Bool.and_eq_true] at hb2
  obtain ⟨a, b, rfl, rfl, h1, h2, h3, h4, h5⟩ := bruB_nat hb2.1
  exact ⟨a, b, rfl, rfl, h1, h2, h3, h4, h5, hb2.1, hb2.2, by rw [← isbR_yes hb]; exact h⟩
theorem wz_at {xs : List Int} {a b p : Nat} (h : isbR xs a b = true) (hp : nearL xs (zerL a) 0 = [(p : Int)]) : wzL xs a b = xs.take p ++ xs.drop (p + 1) := by
  unfold wzL
  rw [atB_yes h, Int.toNat_natCast]
  have : zerP xs a = p := by unfold zerP; rw [hp]; simp
  rw [this]
theorem bound_WithoutZero (xs : List Int) (n k : Int) : (wzL xs n k).length ≤ 1048576 := by
  cases h : isbR xs n k with
  | false => rw [wzL_no h]; simp
  | true =>
    obtain ⟨a, b, rfl, rfl, h1, h2, h3, h4, h5, h6, h7, h8⟩ := isbR_parts h
    have := cycB_len h7
    unfold wzL
    rw [atB_yes h, List.length_append, List.length_take, List.length_drop]
    omega
set_option maxHeartbeats 1000000 in
theorem law_impl_WithoutZero (v : Value) (xs : List Int) (n k : Int) (w : World) (h : Sits w v xs) (hl : xs.length ≤ 1048576) (_hwf : ∀ x ∈ xs, (Lit.int .i64 x).wf = true) (_wn : (Lit.int .i64 n).wf = true) (_wk : (Lit.int .i64 k).wf = true) :
    Calls Try.prog 27 #[v, .int .i64 n, .int .i64 k] w fun e w' => ∃ r, e = .returned (.tuple #[r, .bool (isbR xs n k)]) ∧ Own w' w.heap.size r (wzL xs n k) ∧ Below w.heap.size w w' := by
  have HS := hid h
  cases h1 : isbR xs n k with
  | false =>
    go_enter Try.func27, Try.ntmps27
    go_wp2_with (first | (go_at_call 59; (refine (impl_IsBruijn_any _ xs n k _ HS.out).mono ?_); (rintro e w1 ⟨rfl, hb1⟩); (rw [h1]); (have HB1 := hid hb1); (clear hb1)) | fail)
    go_ret2
    exact ⟨_, rfl, by rw [wzL_no h1]; exact Own.nil _ _, HB1.out⟩
  | true =>
    obtain ⟨a, b, rfl, rfl, ha1, ha2, hb1, hb2, hp5, hbru, hcy, hR⟩ := isbR_parts h1
    have hlen := cycB_len hcy
    obtain ⟨p, hp, hnear, _, _⟩ := bru_place hR (cycB_belK hcy) hb1 ha1
    have HNEAR := hid hnear
    have HW := hid (wz_at h1 hnear)
    obtain ⟨g, off, c, rfl, hc1, hm, hgw, hc⟩ := h
    have HC := hid hc
    have hx2 : xs.length ≤ 2048 := by omega
    have ha3 : a ≤ 2048 := by omega
    clear hc hR hnear hbru hcy hp5
    have HTK : ∀ w', Below w.heap.size w w' → Sits w' (.slice (some ⟨g, off, none⟩) p c) (xs.take p) := fun w' hb => (Sits_take p (by omega) hc1 hm hgw HC.out).below hb
    have HTKH := hid HTK
    clear HTK
    have hlo : (0 : Int) ≤ (p : Int) := by omega
    have hlo2 : (p : Int) ≤ (c : Int) := by omega
    have hlo3 : (0 : Int) ≤ (p : Int) + 1 := by omega
    have hlo4 : (p : Int) + 1 ≤ (xs.length : Int) := by omega
    have hww : IntKind.i64.wrap ((p : Int) + 1) = (p : Int) + 1 := IntWalk.i64_in _ (by omega)
    have htn : ((p : Int) + 1).toNat = p + 1 := by omega
    have HLN := hid (show (xs.take p ++ xs.drop (p + 1)).length = xs.length - 1 by rw [List.length_append, List.length_take, List.length_drop]; omega)
    have HFL := hid (show [xs.take p, xs.drop (p + 1)].flatten = xs.take p ++ xs.drop (p + 1) by simp)
    have hl1 : xs.length - 1 ≤ 1048576 := by omega
    by_cases hcap : c = p + 1
    · have hxl : xs.length = p + 1 := by omega
      have hdr : xs.drop (p + 1) = [] := List.drop_eq_nil_of_le (by omega)
      have HDRH := hid (show ∀ w', Below w.heap.size w w' → Sits w' (.slice (some ⟨g, off, none⟩) 0 0) (xs.drop (p + 1)) from fun w' hb => (show Sits w (.slice (some ⟨g, off, none⟩) 0 0) (xs.drop (p + 1)) from ⟨g, off, 0, by rw [hdr]; rfl, by rw [hdr]; simp, by omega, hgw, fun i hi => by rw [hdr] at hi; simp at hi⟩).below hb)
      have hs0 : xs.length - (p + 1) = 0 := by omega
      have hs1 : p + 1 - (p + 1) = 0 := by omega
      have hle1 : (xs.length : Int) ≤ (p : Int) + 1 := by omega
      have hle2 : ((p + 1 : Nat) : Int) ≤ (p : Int) + 1 := by omega
      have hlo5 : (p : Int) ≤ (p : Int) + 1 := by omega
      have hlo6 : p ≤ p + 1 := by omega
      subst hcap
      clear hdr hxl
      go_enter Try.func27, Try.ntmps27
      go_wp2_with (first
        | (go_at_call 59; (refine (impl_IsBruijn_any _ xs a b _ HS.out).mono ?_); (rintro e w1 ⟨rfl, hb1⟩); (rw [h1]); (have HB1 := hid hb1); (clear hb1))
        | (go_at_call 60; (refine (placesOfZeros_any _ xs a _ (HS.out.below HB1.out) hlen.1 hx2 ha3).mono ?_); (rintro e w2 ⟨r, rfl, ho, hb2⟩); (rw [HNEAR.out] at ho); (obtain ⟨g2, cap2, rfl, hcg, hlt2⟩ := ownE_one ho); (have HB2 := hid (Below_chain HB1.out hb2)); (clear ho hb2))
        | fail)
      have HPS := hid (show SitsL (w2.alloc (.cells #[.slice (some ⟨g, off, none⟩) p (p + 1), .slice (some ⟨g, off, none⟩) 0 0] 22)).drew (.slice (some ⟨w2.heap.size, 0, none⟩) 2 2) [xs.take p, xs.drop (p + 1)] from Sits_two (HTKH.out _ HB2.out) (HDRH.out _ HB2.out))
      have HBA := hid (show Below w2.heap.size w2 (w2.alloc (.cells #[.slice (some ⟨g, off, none⟩) p (p + 1), .slice (some ⟨g, off, none⟩) 0 0] 22)).drew from ((Below.refl _ _).alloc (Nat.le_refl _) _).drew)
      have hs2 := HB2.out.size
      go_region_held3 (fun w' => Below w2.heap.size w2 w')
        (first | exact Below.refl _ _ | exact (Below.refl _ _).drew | exact HBA.out | exact HB3.out | go_keep | fail)
        (first
          | (go_at_call 61; (refine (joined_isZ _ _ _ (xs.length - 1) _ HPS.out (by show 2 ≤ 1048576; omega) HFL.out HLN.out hl1).mono ?_); (rintro e w3 ⟨rfl, ho3, hb3⟩); (have HO3 := hid (show Own w3 w2.heap.size (.slice (some ⟨w2.heap.size + 1, 0, none⟩) (xs.length - 1) (xs.length - 1)) (xs.take p ++ xs.drop (p + 1)) by simpa using ho3.mono HBA.out.size)); (have HB3 := hid (Below_chain HBA.out hb3)); (clear ho3 hb3))
          | fail)
      all_goals
        go_wp2_with fail
        go_ret2
        exact ⟨_, rfl, by rw [HW.out]; exact HO3.out.mono hs2, Below_chain HB2.out HB3.out⟩
    · have HDR : ∀ w', Below w.heap.size w w' → Sits w' (.slice (some ⟨g, off + (p + 1), none⟩) (xs.length - (p + 1)) (c - (p + 1))) (xs.drop (p + 1)) := fun w' hb => (Sits_drop (p + 1) (by omega) hc1 hm hgw HC.out).below hb
      have HDRH := hid HDR
      clear HDR
      go_enter Try.func27, Try.ntmps27
      go_wp2_with (first
        | (go_at_call 59; (refine (impl_IsBruijn_any _ xs a b _ HS.out).mono ?_); (rintro e w1 ⟨rfl, hb1⟩); (rw [h1]); (have HB1 := hid hb1); (clear hb1))
        | (go_at_call 60; (refine (placesOfZeros_any _ xs a _ (HS.out.below HB1.out) hlen.1 hx2 ha3).mono ?_); (rintro e w2 ⟨r, rfl, ho, hb2⟩); (rw [HNEAR.out] at ho); (obtain ⟨g2, cap2, rfl, hcg, hlt2⟩ := ownE_one ho); (have HB2 := hid (Below_chain HB1.out hb2)); (clear ho hb2))
        | fail)
      have HPS := hid (show SitsL (w2.alloc (.cells #[.slice (some ⟨g, off, none⟩) p c, .slice (some ⟨g, off + (p + 1), none⟩) (xs.length - (p + 1)) (c - (p + 1))] 22)).drew (.slice (some ⟨w2.heap.size, 0, none⟩) 2 2) [xs.take p, xs.drop (p + 1)] from Sits_two (HTKH.out _ HB2.out) (HDRH.out _ HB2.out))
      have HBA := hid (show Below w2.heap.size w2 (w2.alloc (.cells #[.slice (some ⟨g, off, none⟩) p c, .slice (some ⟨g, off + (p + 1), none⟩) (xs.length - (p + 1)) (c - (p + 1))] 22)).drew from ((Below.refl _ _).alloc (Nat.le_refl _) _).drew)
      have hs2 := HB2.out.size
      go_region_held3 (fun w' => Below w2.heap.size w2 w')
        (first | exact Below.refl _ _ | exact (Below.refl _ _).drew | exact HBA.out | exact HB3.out | go_keep | fail)
        (first
          | (go_at_call 61; (refine (joined_isZ _ _ _ (xs.length - 1) _ HPS.out (by show 2 ≤ 1048576; omega) HFL.out HLN.out hl1).mono ?_); (rintro e w3 ⟨rfl, ho3, hb3⟩); (have HO3 := hid (show Own w3 w2.heap.size (.slice (some ⟨w2.heap.size + 1, 0, none⟩) (xs.length - 1) (xs.length - 1)) (xs.take p ++ xs.drop (p + 1)) by simpa using ho3.mono HBA.out.size)); (have HB3 := hid (Below_chain HBA.out hb3)); (clear ho3 hb3))
          | fail)
      all_goals
        go_wp2_with fail
        go_ret2
        exact ⟨_, rfl, by rw [HW.out]; exact HO3.out.mono hs2, Below_chain HB2.out HB3.out⟩
theorem Own.moreZ {w : World} {lo : Nat} {v : Value} {xs ys : List Int} {n m : Nat} (hn : n = xs.length) (hm : m = ys.length) (h : w.ownsRow lo 3 1 v (n + m) (xs.map (Value.int .i64) ++ ys.map (Value.int .i64))) : Own w lo v (xs ++ ys) := by
  subst hn hm
  unfold Own
  rw [List.length_append, List.map_append]
  exact h
theorem own_nn {w : World} {B n : Nat} {u : Value} {L : List Int} (h : Own w B u L) (h1 : u ≠ .slice none 0 0) (hn : n = L.length) : ∃ g c, u = .slice (some ⟨g, 0, none⟩) n c := by
  subst hn
  rcases h.form with ⟨e, _⟩ | ⟨g, c, e, _⟩
  · exact absurd e h1
  · exact ⟨g, c, e⟩
theorem row_p {w : World} {B g n c : Nat} {L : List Int} (h : Own w B (.slice (some ⟨g, 0, none⟩) n c) L) (hn : n = L.length) : w.ownsRow B 3 1 (.slice (some ⟨g, 0, none⟩) n c) n (L.map (Value.int .i64)) := by
  subst hn
  exact h.row
set_option maxHeartbeats 2000000 in
theorem law_spec_WithoutZero (v : Value) (xs : List Int) (n k : Int) (w : World) (h : Sits w v xs) (hl : xs.length ≤ 1048576) (_hwf : ∀ x ∈ xs, (Lit.int .i64 x).wf = true) (_wn : (Lit.int .i64 n).wf = true) (_wk : (Lit.int .i64 k).wf = true) :
    Calls Try.prog 25 #[v, .int .i64 n, .int .i64 k] w fun e w' => ∃ r, e = .returned (.tuple #[r, .bool (isbR xs n k)]) ∧ Own w' w.heap.size r (wzL xs n k) ∧ Below w.heap.size w w' := by
  have HS := hid h
  obtain ⟨i0, hi, hz0, hz1, hz2⟩ := info_parts Try.info3
  cases h1 : isbR xs n k with
  | false =>
    have HW := hid (wzL_no h1)
    cases hbru : bruB n k with
    | false =>
      go_enter Try.func25, Try.ntmps25
      go_wp2_with (first | (go_at_call 40; (refine (brKind_any _ _ _).mono ?_); (rintro e w1 ⟨rfl, rfl⟩); (rw [hbru])) | fail)
      go_ret2
      exact ⟨_, rfl, by rw [HW.out]; exact Own.nil _ _, Below.refl _ _⟩
    | true =>
      cases hcy : cycB xs k with
      | false =>
        go_enter Try.func25, Try.ntmps25
        go_wp2_with (first
          | (go_at_call 40; (refine (brKind_any _ _ _).mono ?_); (rintro e w1 ⟨rfl, rfl⟩); (rw [hbru]))
          | (go_at_call 55; (refine (brCycle_any _ xs _ _ HS.out).mono ?_); (rintro e w1 ⟨rfl, rfl⟩); (rw [hcy]))
          | fail)
        go_ret2
        exact ⟨_, rfl, by rw [HW.out]; exact Own.nil _ _, Below.refl _ _⟩
      | true =>
        obtain ⟨a, b, rfl, rfl, ha1, ha2, hb1, hb2, hp5⟩ := bruB_nat hbru
        have hlen := cycB_len hcy
        have HBK := hid (cycB_belK hcy)
        have HR := hid (show bruR xs a b = false by rw [← h1]; exact (isbR_yes ((isbB_1 hbru).trans hcy)).symm)
        have HP5 := hid hp5
        clear hp5
        go_enter Try.func25, Try.ntmps25
        go_wp2_with (first
          | (go_at_call 40; (refine (brKind_any _ _ _).mono ?_); (rintro e w1 ⟨rfl, rfl⟩); (rw [hbru]))
          | (go_at_call 55; (refine (brCycle_any _ xs _ _ HS.out).mono ?_); (rintro e w1 ⟨rfl, rfl⟩); (rw [hcy]))
          | (go_at_call 56; (refine (brBruijn_any _ xs a b _ HS.out HBK.out hlen.1 hlen.2 ha2 hb1 hb2 HP5.out).mono ?_); (rintro e w1 ⟨rfl, hbb1⟩); (rw [HR.out]); (have HB1 := hid hbb1); (clear hbb1))
          | fail)
        go_ret2
        exact ⟨_, rfl, by rw [HW.out]; exact Own.nil _ _, HB1.out⟩
  | true =>
    obtain ⟨a, b, rfl, rfl, ha1, ha2, hb1, hb2, hp5, hbru, hcy, hR⟩ := isbR_parts h1
    have hlen := cycB_len hcy
    have HBK := hid (cycB_belK hcy)
    have HP5 := hid hp5
    have HBRU := hid hbru
    have HCY := hid hcy
    have HR := hid hR
    obtain ⟨p, hp, hnear, hst, hbef⟩ := bru_place hR (cycB_belK hcy) hb1 ha1
    have HW := hid (wz_at h1 hnear)
    have HZU := hid (show ∀ q, q < xs.length → q ≤ p → (stB xs (zerL a) q = true ∧ xs.getD ((q + xs.length - 1) % xs.length) 0 ≠ 0 ↔ q = p) from fun q hq _ => ⟨fun hh => (hst q hq).1 hh.1, fun e => by rw [e]; exact ⟨(hst p hp).2 rfl, hbef⟩⟩)
    obtain ⟨g, off, c, rfl, hc1, hm, hgw, hc⟩ := h
    have HC := hid hc
    have hx2 : xs.length ≤ 2048 := by omega
    have ha3 : a ≤ 2048 := by omega
    clear hc hR hnear hbru hcy hp5 hst hbef
    have HTKH := hid (show ∀ w', Below w.heap.size w w' → Sits w' (.slice (some ⟨g, off, none⟩) p c) (xs.take p) from fun w' hb => (Sits_take p (by omega) hc1 hm hgw HC.out).below hb)
    have hlo : (0 : Int) ≤ (p : Int) := by omega
    have hlo2 : (p : Int) ≤ (c : Int) := by omega
    have hlo3 : (0 : Int) ≤ (p : Int) + 1 := by omega
    have hlo4 : (p : Int) + 1 ≤ (xs.length : Int) := by omega
    have hww : IntKind.i64.wrap ((p : Int) + 1) = (p : Int) + 1 := IntWalk.i64_in _ (by omega)
    have htn : ((p : Int) + 1).toNat = p + 1 := by omega
    have HTKL := hid (show p = (xs.take p).length by rw [List.length_take]; omega)
    have HTL := hid (show (xs.take p).length ≤ 1048576 by rw [List.length_take]; omega)
    have HDL := hid (show xs.length - (p + 1) = (xs.drop (p + 1)).length by rw [List.length_drop])
    have HNL := hid (show ((xs.drop (p + 1)).map (Value.int .i64)).length = (xs.length - (p + 1)) * 1 by rw [List.length_map, ← HDL.out, Nat.mul_one])
    have hA : p + (xs.length - (p + 1)) ≤ maxLen := by unfold maxLen; omega
    have hB : (p + (xs.length - (p + 1))) * 8 ≤ 140737488355328 := by omega
    by_cases hcap : c = p + 1
    · have HDN := hid (show xs.drop (p + 1) = [] from List.drop_eq_nil_of_le (by omega))
      have hle1 : (xs.length : Int) ≤ (p : Int) + 1 := by omega
      have hle2 : ((p + 1 : Nat) : Int) ≤ (p : Int) + 1 := by omega
      have hs0 : xs.length - (p + 1) = 0 := by omega
      have hs1 : p + 1 - (p + 1) = 0 := by omega
      have hlo5 : (p : Int) ≤ (p : Int) + 1 := by omega
      have hlo6 : p ≤ p + 1 := by omega
      subst hcap
      clear hA hB HNL HDL
      go_enter Try.func25, Try.ntmps25
      go_wp2_with (first
        | (go_at_call 40; (refine (brKind_any _ _ _).mono ?_); (rintro e w1 ⟨rfl, rfl⟩); (rw [HBRU.out]))
        | (go_at_call 55; (refine (brCycle_any _ xs _ _ HS.out).mono ?_); (rintro e w1 ⟨rfl, rfl⟩); (rw [HCY.out]))
        | (go_at_call 56; (refine (brBruijn_any _ xs a b _ HS.out HBK.out hlen.1 hlen.2 ha2 hb1 hb2 HP5.out).mono ?_); (rintro e w1 ⟨rfl, hbb1⟩); (rw [HR.out]); (have HB1 := hid hbb1); (clear hbb1))
        | (go_at_call 57; (refine (brZeros_any _ xs a p _ (HS.out.below HB1.out) ha3 hx2 hp HZU.out).mono ?_); (rintro e w2 ⟨rfl, hbb2⟩); (have HB2 := hid (Below_chain HB1.out hbb2)); (clear hbb2))
        | fail)
      have hs2 := HB2.out.size
      go_region_held3 (fun w' => Below w.heap.size w w')
        (first | exact HB2.out | exact HB2.out.drew | exact HB4.out | exact HB5.out | go_keep | fail)
        (first
          | (go_at_call 58; (refine (l1Own_any _ (xs.take p) _ (HTKH.out _ HB2.out.drew) HTL.out).mono ?_); (rintro e w4 ⟨u, rfl, ho4, hb4, hne4⟩); (obtain ⟨gq, cq, rfl⟩ := own_nn ho4 hne4 HTKL.out); (have HO4 := hid (ho4.mono HB2.out.drew.size)); (have HB4 := hid (Below_chain HB2.out.drew hb4)); (have hs4 := HB4.out.size); (clear ho4 hb4 hne4))
          | (refine step_append_any _ rfl _ _ _ rfl w.heap.size 3 i0 (.int .i64 0) 1 8 Try.underlying22 hi hz0 hz1 hz2 rfl Nat.zero_lt_one (.slice (some ⟨gq, 0, none⟩) p cq) p ((xs.take p).map (Value.int .i64)) rfl (row_p HO4.out HTKL.out) ⟨g, off, none⟩ 0 0 [] rfl rfl (fun j u hj => nil_src j u hj) nil_one (by rw [Nat.add_zero]; unfold maxLen; omega) (by rw [Nat.add_zero]; omega) hs4 ?_; intro v2 w5 hown2 hgrow2 hnil2; have HO5 := hid (show Own w5 w.heap.size v2 (xs.take p ++ []) from Own.moreZ (xs := xs.take p) (ys := []) HTKL.out rfl hown2); have HB5 := hid (HB4.out.grown hgrow2 hs4 (fun q hq => (World.ownsRow.lt HO4.out q hq).1)); clear hown2 hgrow2 hnil2)
          | fail)
      all_goals
        go_wp2_with fail
        go_ret2
        exact ⟨_, rfl, by rw [HW.out, HDN.out]; exact HO5.out, HB5.out⟩
    · have HSRCH := hid (show ∀ w', Below w.heap.size w w' → ∀ (j : Nat) (u : Value), ((xs.drop (p + 1)).map (Value.int .i64))[j]? = some u → w'.cell? ((⟨g, off + (p + 1), none⟩ : Addr).add j) = some u from fun w' hb =>
        Sits.src (n := 0) (c := 0) (fun i hi => by
          have hi2 : p + 1 + i < xs.length := by simp at hi; omega
          rw [Nat.add_assoc, (hb.cell (by exact hgw)).trans (HC.out (p + 1 + i) hi2)]
          simp))
      go_enter Try.func25, Try.ntmps25
      go_wp2_with (first
        | (go_at_call 40; (refine (brKind_any _ _ _).mono ?_); (rintro e w1 ⟨rfl, rfl⟩); (rw [HBRU.out]))
        | (go_at_call 55; (refine (brCycle_any _ xs _ _ HS.out).mono ?_); (rintro e w1 ⟨rfl, rfl⟩); (rw [HCY.out]))
        | (go_at_call 56; (refine (brBruijn_any _ xs a b _ HS.out HBK.out hlen.1 hlen.2 ha2 hb1 hb2 HP5.out).mono ?_); (rintro e w1 ⟨rfl, hbb1⟩); (rw [HR.out]); (have HB1 := hid hbb1); (clear hbb1))
        | (go_at_call 57; (refine (brZeros_any _ xs a p _ (HS.out.below HB1.out) ha3 hx2 hp HZU.out).mono ?_); (rintro e w2 ⟨rfl, hbb2⟩); (have HB2 := hid (Below_chain HB1.out hbb2)); (clear hbb2))
        | fail)
      have hs2 := HB2.out.size
      go_region_held3 (fun w' => Below w.heap.size w w')
        (first | exact HB2.out | exact HB2.out.drew | exact HB4.out | exact HB5.out | go_keep | fail)
        (first
          | (go_at_call 58; (refine (l1Own_any _ (xs.take p) _ (HTKH.out _ HB2.out.drew) HTL.out).mono ?_); (rintro e w4 ⟨u, rfl, ho4, hb4, hne4⟩); (obtain ⟨gq, cq, rfl⟩ := own_nn ho4 hne4 HTKL.out); (have HO4 := hid (ho4.mono HB2.out.drew.size)); (have HB4 := hid (Below_chain HB2.out.drew hb4)); (have hs4 := HB4.out.size); (clear ho4 hb4 hne4))
          | (refine step_append_any _ rfl _ _ _ rfl w.heap.size 3 i0 (.int .i64 0) 1 8 Try.underlying22 hi hz0 hz1 hz2 rfl Nat.zero_lt_one (.slice (some ⟨gq, 0, none⟩) p cq) p ((xs.take p).map (Value.int .i64)) rfl (row_p HO4.out HTKL.out) ⟨g, off + (p + 1), none⟩ (xs.length - (p + 1)) (c - (p + 1)) ((xs.drop (p + 1)).map (Value.int .i64)) rfl HNL.out (HSRCH.out _ HB4.out) (ints_one _) hA hB hs4 ?_; intro v2 w5 hown2 hgrow2 hnil2; have HO5 := hid (show Own w5 w.heap.size v2 (xs.take p ++ xs.drop (p + 1)) from Own.moreZ (xs := xs.take p) (ys := xs.drop (p + 1)) HTKL.out HDL.out hown2); have HB5 := hid (HB4.out.grown hgrow2 hs4 (fun q hq => (World.ownsRow.lt HO4.out q hq).1)); clear hown2 hgrow2 hnil2)
          | fail)
      all_goals
        go_wp2_with fail
        go_ret2
        exact ⟨_, rfl, by rw [HW.out]; exact HO5.out, HB5.out⟩
end Go.Proofs.Ytaajfpjekfmddab
