/- Contracts: gcRound, changesAround and both IsRoundCode functions. Conditions: the slice reads as a list of at most 2^20 numbers; the table of math/bits holds what the program's text lays. -/
import Derived.Test.YtijjdidljoicfaaDoorCode
import Derived.Test.YtijjdidljoicfaaDoorCopy
import Derived.Test.YtijjdidljoicfaaDoorTake3
import Derived.Test.YtijjdidljoicfaaDoorRefl
namespace Go.Proofs.YtijjdidljoicfaaDoor
open Go.RowKit
set_option linter.unusedVariables false

/-- the list, and its first word behind it -/
def ringL (xs : List Int) : List Int := xs ++ [xs.getD 0 0]
theorem ringL_length (xs : List Int) : (ringL xs).length = xs.length + 1 := by simp [ringL]
/-- the bit that changes from the last word to the first one -/
def lastD (xs : List Int) : Int := bitD ((xs.getD (xs.length - 1) 0).toNat ^^^ (xs.getD 0 0).toNat)
def roundB (n : Int) (xs : List Int) : Bool := codeB n xs && decide (0 ≤ lastD xs)
theorem ringL_getD {xs : List Int} {i : Nat} (h : i < xs.length) : (ringL xs).getD i 0 = xs.getD i 0 := by
  simp only [ringL, List.getD_eq_getElem?_getD]
  rw [List.getElem?_append_left h]
theorem ringL_last (xs : List Int) : (ringL xs).getD xs.length 0 = xs.getD 0 0 := by
  simp only [ringL, List.getD_eq_getElem?_getD]
  rw [List.getElem?_append_right (Nat.le_refl _)]
  simp
theorem ring_delta {xs : List Int} {i : Nat} (h : i + 1 < xs.length) : deltaAt (ringL xs) i = deltaAt xs i := by
  unfold deltaAt; rw [ringL_getD (by omega), ringL_getD h]
theorem ring_delta_last {xs : List Int} (h : 0 < xs.length) : deltaAt (ringL xs) (xs.length - 1) = lastD xs := by
  unfold deltaAt lastD
  rw [ringL_getD (by omega), show xs.length - 1 + 1 = xs.length by omega, ringL_last]
theorem ring_deltas {xs : List Int} (h : 0 < xs.length) (hd : deltasB xs = true) : deltasB (ringL xs) = decide (0 ≤ lastD xs) := by
  unfold deltasB
  rw [ringL_length, Nat.add_sub_cancel]
  obtain ⟨m, hm⟩ : ∃ m, xs.length = m + 1 := ⟨xs.length - 1, by omega⟩
  have h1 := ring_delta_last h
  rw [hm, Nat.add_sub_cancel] at h1
  rw [hm, allTo_succ, h1]
  have h2 : allTo m (fun i => decide (0 ≤ deltaAt (ringL xs) i)) = true := (allTo_iff _ _).2 (fun i hi => by
    rw [ring_delta (by omega)]
    have := (allTo_iff _ _).1 hd i (by omega)
    exact this)
  rw [h2, Bool.true_and]
theorem ring_small {xs : List Int} (h : small xs) (h0 : 0 < xs.length) : small (ringL xs) := by
  intro i hi
  rw [ringL_length] at hi
  by_cases h1 : i < xs.length
  · rw [ringL_getD h1]; exact h i h1
  · obtain rfl : i = xs.length := by omega
    rw [ringL_last]; exact h 0 h0
theorem codeB_facts {n : Int} {xs : List Int} (hn : inB n 1 10 = true) (h : codeB n xs = true) : deltasB xs = true ∧ 0 < xs.length ∧ xs.length ≤ 1024 := by
  simp only [codeB, Bool.and_eq_true, decide_eq_true_eq] at h
  obtain ⟨m, rfl, _, h2⟩ := pow_nat hn
  have h3 := pow_le_1024 m (by omega)
  have h4 := Nat.two_pow_pos m
  have h5 : ((m : Int)).toNat = m := by omega
  rw [h5] at h
  generalize 2 ^ m = p at h h3 h4
  exact ⟨h.1.2, by omega, by omega⟩
theorem exit_of {Q : Exit → Act → World → Prop} {a b : Act} {w : World} (h : b = a) (hq : Q .normal b w) : Q .normal a w := h ▸ hq
set_option maxHeartbeats 1000000 in
theorem gcRound_any (n : Int) (v : Value) (xs : List Int) (w : World) (h : Sits w v xs) (hs : small xs) (hl : xs.length ≤ 1048576) (hn : inB n 1 10 = true) :
    Calls Tryd.prog 42 #[.int .i64 n, v] w fun e w' => e = .returned (.bool (roundB n xs)) ∧ Below w.heap.size w w' := by
  have HV := hid h
  obtain ⟨b, off, c, rfl, hc1, hm, hb, hc⟩ := h
  have HN := hid hn
  have HS := hid hs
  by_cases hcode : codeB n xs = true
  · obtain ⟨f1, f2, f3⟩ := codeB_facts hn hcode
    obtain ⟨x, hx, hx2⟩ := hs (xs.length - 1) (by omega)
    obtain ⟨y, hy, hy2⟩ := hs 0 f2
    have hLD : lastD xs = bitD (x ^^^ y) := by unfold lastD; rw [hx, hy]; rfl
    have HR : Hid (roundB n xs = decide (0 ≤ bitD (x ^^^ y))) := by show _ = _; rw [roundB, hcode, hLD]; rfl
    have HCO := hid hcode
    obtain ⟨k, hk⟩ : ∃ k, k = xs.length - 1 := ⟨_, rfl⟩
    have hcl : w.cell? ⟨b, off + k, none⟩ = some (.int .i64 (x : Int)) := by
      rw [hk, hc (xs.length - 1) (by omega), ← getD_at, hx]
    have hcf : w.cell? ⟨b, off, none⟩ = some (.int .i64 (y : Int)) := by
      have h0 := hc 0 f2
      rw [Nat.add_zero, ← getD_at f2, hy] at h0
      exact h0
    have e1 : (xs.length : Int) - 1 = (k : Int) := by omega
    have e2 : IntKind.i64.wrap (k : Int) = (k : Int) := IntWalk.i64_in _ (by omega)
    have e3 : (k : Int) < (xs.length : Int) := by omega
    have e4 : (0 : Int) ≤ (k : Int) := by omega
    have e5 : (0 : Int) < (xs.length : Int) := by omega
    have e6 : IntKind.i64.wrap ((xs.length : Int) - 1) = (k : Int) := by rw [e1]; exact e2
    have hcl' : w.drew.cell? ⟨b, off + k, none⟩ = some (.int .i64 (x : Int)) := hcl
    have hcf' : w.drew.cell? ⟨b, off, none⟩ = some (.int .i64 (y : Int)) := hcf
    obtain ⟨D, hD⟩ : ∃ D, D = bitD (x ^^^ y) := ⟨_, rfl⟩
    have HGB : Hid (∀ w, Calls Tryd.prog 34 #[.int .i64 (x : Int), .int .i64 (y : Int)] w fun e w' => e = .returned (.int .i64 D) ∧ w = w') := by
      show ∀ _, _
      intro w
      rw [hD]
      exact gcBit_any x y w hx2 hy2
    rw [← hD] at HR
    clear hc hs hn hcode hx hy hLD hD hk
    go_enter Tryd.func42, Tryd.ntmps42
    go_wp2_with fail
    go_region_held3 (fun w' => w'.cell? ⟨b, off + k, none⟩ = some (.int .i64 (x : Int)) ∧ w'.cell? ⟨b, off, none⟩ = some (.int .i64 (y : Int)))
      (first | exact ⟨hcl', hcf'⟩ | exact ⟨(HB1.out.cell (by exact hb)).trans hcl, (HB1.out.cell (by exact hb)).trans hcf⟩ | go_keep | fail)
      (first
        | (go_at_call 57; refine (gcCode_any _ _ xs _ (HV.out.below (Below.refl _ _).drew) HS.out hl HN.out).mono ?_; rintro e w1 ⟨rfl, hb1⟩; rw [HCO.out]; have HB1 := hid (Below_chain (Below.refl w.heap.size w).drew hb1); clear hb1)
        | (go_at_call 34; refine (HGB.out _).mono ?_; rintro e w' ⟨rfl, rfl⟩)
        | fail)
    all_goals
      go_wp2_with fail
      go_ret
      exact ⟨ret_bool HR.out.symm, HB1.out⟩
  · have hcode : codeB n xs = false := by simpa using hcode
    have HR : Hid (roundB n xs = false) := by show _ = _; rw [roundB, hcode]; rfl
    have HCO := hid hcode
    clear hc hs hn hcode
    go_enter Tryd.func42, Tryd.ntmps42
    go_wp2_with fail
    refine wp_region_any (by kernel_rfl) ?_
    (try (change wpAny _ _ _ _ _ _ _ (World.drew _)))
    refine wpAny_take (i := 0) (v := .int .i64 n) rfl (by kernel_rfl) (by kernel_rfl) (by kernel_rfl) (fun _ _ _ h => h) (Or.inl ⟨by kernel_rfl, fun w => by go_simp⟩) ?_
    refine wpAny_take (i := 1) (v := .slice (some ⟨b, off, none⟩) xs.length c) rfl (by kernel_rfl) (by kernel_rfl) (by kernel_rfl) (fun _ _ _ h => h) (Or.inl ⟨by kernel_rfl, fun w => by go_simp⟩) ?_
    refine wpAny_ready (rs := [2]) (by kernel_rfl) (by simp) ?_
    refine AllReady.cons rfl (fun K hK => ?_) AllReady.nil
    go_simp
    go_wp2_with (go_at_call 57; refine (gcCode_any _ _ xs _ (HV.out.below (Below.refl _ _).drew) HS.out hl HN.out).mono ?_; rintro e w1 ⟨rfl, hb1⟩; rw [HCO.out]; have HB1 := hid (Below_chain (Below.refl w.heap.size w).drew hb1); clear hb1)
    (try (refine hK _ _ ?_))
    (try clear hK K)
    refine wpAny_take (i := 3) (v := .bool false) rfl (by kernel_rfl) (by kernel_rfl) (by kernel_rfl) (fun _ _ _ h => h) (Or.inl ⟨by kernel_rfl, fun w => by go_simp⟩) ?_
    refine wpAny_take (i := 4) (v := undef) rfl (by kernel_rfl) (by kernel_rfl) (by kernel_rfl) (fun _ _ _ h => h) (Or.inr ⟨by kernel_rfl, rfl⟩) ?_
    refine wpAny_take (i := 5) (v := undef) rfl (by kernel_rfl) (by kernel_rfl) (by kernel_rfl) (fun _ _ _ h => h) (Or.inr ⟨by kernel_rfl, rfl⟩) ?_
    refine wpAny_take (i := 6) (v := undef) rfl (by kernel_rfl) (by kernel_rfl) (by kernel_rfl) (fun _ _ _ h => h) (Or.inr ⟨by kernel_rfl, rfl⟩) ?_
    refine wpAny_take (i := 7) (v := undef) rfl (by kernel_rfl) (by kernel_rfl) (by kernel_rfl) (fun _ _ _ h => h) (Or.inr ⟨by kernel_rfl, rfl⟩) ?_
    refine wpAny_take (i := 8) (v := undef) rfl (by kernel_rfl) (by kernel_rfl) (by kernel_rfl) (fun _ _ _ h => h) (Or.inr ⟨by kernel_rfl, rfl⟩) ?_
    refine wpAny_take (i := 9) (v := undef) rfl (by kernel_rfl) (by kernel_rfl) (by kernel_rfl) (fun _ _ _ h => h) (Or.inr ⟨by kernel_rfl, rfl⟩) ?_
    refine wpAny_take (i := 10) (v := undef) rfl (by kernel_rfl) (by kernel_rfl) (by kernel_rfl) (fun _ _ _ h => h) (Or.inr ⟨by kernel_rfl, rfl⟩) ?_
    refine wpAny_take (i := 11) (v := undef) rfl (by kernel_rfl) (by kernel_rfl) (by kernel_rfl) (fun _ _ _ h => h) (Or.inr ⟨by kernel_rfl, rfl⟩) ?_
    refine wpAny_take (i := 12) (v := undef) rfl (by kernel_rfl) (by kernel_rfl) (by kernel_rfl) (fun _ _ _ h => h) (Or.inr ⟨by kernel_rfl, rfl⟩) ?_
    refine wpAny_take (i := 13) (v := undef) rfl (by kernel_rfl) (by kernel_rfl) (by kernel_rfl) (fun _ _ _ h => h) (Or.inr ⟨by kernel_rfl, rfl⟩) ?_
    refine wpAny_take (i := 14) (v := undef) rfl (by kernel_rfl) (by kernel_rfl) (by kernel_rfl) (fun _ _ _ h => h) (Or.inr ⟨by kernel_rfl, rfl⟩) ?_
    refine wpAny_take (i := 15) (v := .bool false) rfl (by kernel_rfl) (by kernel_rfl) (by kernel_rfl) (fun _ _ _ h => h) (Or.inl ⟨by kernel_rfl, fun w => by go_simp⟩) ?_
    refine wpAny_take (i := 16) (v := .bool false) rfl (by kernel_rfl) (by kernel_rfl) (by kernel_rfl) (fun _ _ _ h => h) (Or.inl ⟨by kernel_rfl, fun w => by go_simp⟩) ?_
    refine wpAny_done (by kernel_rfl) ?_ _
    refine exit_of (b := { tmps := #[.int .i64 n, .slice (some ⟨b, off, none⟩) xs.length c, undef, undef, .bool false, .int .i64 n, .slice (some ⟨b, off, none⟩) xs.length c, .bool false, .bool false, undef, undef, undef, undef, undef, undef, undef, undef, undef, undef, undef, .bool false], defers := [] }) (by kernel_rfl) ?_
    go_wp2_with fail
    go_ret
    exact ⟨ret_bool HR.out.symm, HB1.out⟩
end Go.Proofs.YtijjdidljoicfaaDoor
