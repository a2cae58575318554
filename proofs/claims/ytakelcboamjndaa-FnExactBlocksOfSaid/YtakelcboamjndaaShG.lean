/- Contract: impl.IsGrowth. Conditions: the slice reads as a list of at most 2^20 numbers. -/
import Derived.Test.YtakelcboamjndaaHasG
namespace Go.Proofs.Ytakelcboamjndaa
open Go.RowKit
set_option linter.unusedVariables false

theorem hasB_upTo (n : Nat) (x : Int) : hasB (upTo n) x = inB x 0 ((n : Int) - 1) := by
  cases h : inB x 0 ((n : Int) - 1)
  · refine hasB_no (fun hm => ?_)
    obtain ⟨i, hi, rfl⟩ := List.mem_map.1 hm
    have := List.mem_range.1 hi
    have : inB (i : Int) 0 ((n : Int) - 1) = true := inB_iff.2 ⟨by omega, by omega⟩
    rw [this] at h; exact absurd h (by simp)
  · obtain ⟨h1, h2⟩ := inB_iff.1 h
    exact hasB_iff.2 (List.mem_map.2 ⟨x.toNat, List.mem_range.2 (by omega), by omega⟩)
theorem upTo_mem {n : Nat} {x : Int} (h : x ∈ upTo n) : 0 ≤ x ∧ x < n := by
  obtain ⟨i, hi, rfl⟩ := List.mem_map.1 h
  have := List.mem_range.1 hi
  omega
def grCh (_l b : Nat) : List Int := upTo (b + 1)
def grNl (l _b : Nat) (_x : Int) : Nat := l - 1
def grNb (_l b : Nat) (x : Int) : Nat := max b (x.toNat + 1)
def grD (l b : Nat) : Prop := l + b ≤ 12
theorem grShC : ShC 82 83 grD grCh grNl grNb where
  choices l b w h _ := grCh_any l b w (by unfold grD at h; omega)
  behind l b x w h h0 hx := by
    obtain ⟨h1, h2⟩ := upTo_mem hx
    unfold grD at h
    obtain ⟨n, rfl⟩ := Int.eq_ofNat_of_zero_le h1
    exact grBe_any l b n w h0 (by omega) (by omega) (by omega)
  dom l b x h h0 hx := by
    obtain ⟨h1, h2⟩ := upTo_mem hx
    unfold grD grNl grNb at *
    omega
  len l b h := by
    unfold grD at h
    rw [grCh, upTo_length]; omega
theorem has_gr (xs : List Int) (m : Nat) : ∀ k, k + m = xs.length → allTo k (grAt xs) = true → hasS grCh grNl grNb (xs.drop k) m (topTo xs k + 1).toNat = allTo xs.length (grAt xs) := by
  induction m with
  | zero =>
    intro k hk ha
    obtain rfl : k = xs.length := by omega
    rw [List.drop_length, ha]; rfl
  | succ m ih =>
    intro k hk ha
    have hlt : k < xs.length := by omega
    have ht := topTo_low xs k
    rw [List.drop_eq_getElem_cons hlt, hasS, grCh, hasB_upTo]
    have e : inB xs[k] 0 (((topTo xs k + 1).toNat + 1 : Nat) - 1 : Int) = grAt xs k := by
      rw [grAt, getD_at hlt]
      congr 1; omega
    rw [e]
    cases hg : grAt xs k
    · rw [allTo_no hlt hg]; simp
    · have hx := inB_iff.1 (show inB (xs.getD k 0) 0 (topTo xs k + 1) = true from hg)
      rw [getD_at hlt] at hx
      have e2 : grNb (m + 1) (topTo xs k + 1).toNat xs[k] = (topTo xs (k + 1) + 1).toNat := by
        rw [grNb, topTo, getD_at hlt]; omega
      rw [e2, ← ih (k + 1) (by omega) (allTo_next ha hg)]
      simp [grNl]
theorem has_growth {xs : List Int} (h : inB (xs.length : Int) 1 12 = true) : hasS grCh grNl grNb xs xs.length 0 = grB xs := by
  have := has_gr xs xs.length 0 (by omega) rfl
  unfold grB
  rw [h, Bool.and_true, ← this]; rfl
theorem isGrowthLength_any (n : Int) (w : World) : Calls Try.prog 49 #[.int .i64 n] w fun e w' => e = .returned (.bool (inB n 1 12)) ∧ w = w' := by
  by_cases h1 : 1 ≤ n
  · by_cases h2 : n ≤ 12
    · have HF := hid (show inB n 1 12 = true from inB_iff.2 ⟨h1, h2⟩)
      go_enter Try.func49, Try.ntmps49
      go_wp2_with fail
      go_ret
      exact ⟨ret_bool HF.out.symm, rfl⟩
    · have HF := hid (show inB n 1 12 = false by simp [inB]; omega)
      go_enter Try.func49, Try.ntmps49
      go_wp2_with fail
      go_ret
      exact ⟨ret_bool HF.out.symm, rfl⟩
  · have HF := hid (show inB n 1 12 = false by simp [inB]; omega)
    go_enter Try.func49, Try.ntmps49
    go_wp2_with fail
    go_ret
    exact ⟨ret_bool HF.out.symm, rfl⟩
theorem impl_IsGrowth_any (v : Value) (xs : List Int) (w : World) (h : Reads w v xs) (hl : xs.length ≤ 1048576) :
    Calls Try.prog 17 #[v] w fun e w' => e = .returned (.bool (grB xs)) ∧ Below w.heap.size w w' := by
  have H := hid h
  obtain ⟨ao, c, rfl, hc1, hm, _⟩ := h.view
  clear h
  cases hn : inB (xs.length : Int) 1 12
  · have HF := hid (show grB xs = false by unfold grB; rw [hn]; simp)
    go_enter Try.func17, Try.ntmps17
    go_wp2_with (first | (go_at_call 49; refine (isGrowthLength_any _ _).mono ?_; rintro e w' ⟨rfl, rfl⟩; rw [hn]) | fail)
    go_ret
    exact ⟨ret_bool HF.out.symm, Below.refl _ _⟩
  · have HF := hid (has_growth hn)
    have hb := inB_iff.1 hn
    have HG := hid (fun W => growthsOf_any xs.length W (by omega))
    have HDD := hid (show grD xs.length 0 by unfold grD; omega)
    clear hb
    go_enter Try.func17, Try.ntmps17
    go_wp2_with (first
      | (go_at_call 49; refine (isGrowthLength_any _ _).mono ?_; rintro e w' ⟨rfl, rfl⟩; rw [hn])
      | (go_at_call 50; refine (HG.out _).mono ?_; rintro e w1 ⟨rfl, _, _, hb⟩; have HB1 := hid hb; have H1 := hid (H.out.below hb); clear hb)
      | (go_at_call 51; refine (hasG_any grShC _ xs.length 0 _ xs _ HDD.out H1.out hl).mono ?_; rintro e w2 ⟨rfl, hb⟩; have HB2 := hid (Below_chain HB1.out hb); clear hb)
      | fail)
    go_ret
    exact ⟨ret_bool HF.out, HB2.out⟩
theorem spec_IsGrowth_c (v : Value) (xs : List Int) (w : World) (h : Sits w v xs) (hl : xs.length ≤ 1048576) (_hwf : ∀ x ∈ xs, (Lit.int .i64 x).wf = true) :
    Calls Try.prog 15 #[v] w fun e w' => e = .returned (.bool (grB xs)) ∧ Below w.heap.size w w' :=
  (spec_IsGrowth_any v xs w h.reads hl).mono fun e w' h => ⟨h.1, by rw [h.2]; exact Below.refl _ _⟩
theorem impl_IsGrowth_c (v : Value) (xs : List Int) (w : World) (h : Sits w v xs) (hl : xs.length ≤ 1048576) (_hwf : ∀ x ∈ xs, (Lit.int .i64 x).wf = true) :
    Calls Try.prog 17 #[v] w fun e w' => e = .returned (.bool (grB xs)) ∧ Below w.heap.size w w' := impl_IsGrowth_any v xs w h.reads hl
end Go.Proofs.Ytakelcboamjndaa
