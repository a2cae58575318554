/- Contracts: fallingFrom, the closures of partedNumbersOf, the shape itself, isUpToParted, sumOf, spSum, spParted. Conditions: numbers within the stated ranges; slices that read as lists of at most 2^20 numbers. -/
import Derived.Test.YtakelcboamjndabPtM
import Derived.Test.YtakelcboamjndabBs2
import Derived.Test.YtakelcboamjndabRow
namespace Go.Proofs.Ytakelcboamjndab
open Go.RowKit Go.Maps
set_option linter.unusedVariables false
set_option maxRecDepth 4000

theorem fall_getD {n i : Nat} (h : i < n) : (fall n).getD i 0 = (n : Int) - (i : Int) := by
  have hl : i < (fall n).length := by rw [fall_length]; exact h
  rw [getD_at hl, fall_get hl]; omega
def wsum (a : Int) : List Int → Int
  | [] => a
  | x :: xs => wsum (IntKind.i64.wrap (a + x)) xs
theorem wsum_ok : ∀ (xs : List Int) (l b a : Int), ptOk xs l b = true → 0 ≤ a → a + l ≤ 20 → wsum a xs = a + l
  | [], l, b, a, h, _, _ => by
    have : l = 0 := by simpa [ptOk] using h
    subst this; simp [wsum]
  | x :: xs, l, b, a, h, h0, h1 => by
    obtain ⟨p1, p2, p3⟩ := ptOk_cons.1 h
    have := ptOk_low xs _ _ p3
    rw [wsum, IntWalk.i64_in _ (by omega), wsum_ok xs (l - x) x (a + x) p3 (by omega) (by omega)]; omega
theorem ptB_impl (xs : List Int) : (inB (wsum 0 xs) 0 20 && ptOk xs (wsum 0 xs) (wsum 0 xs)) = ptB xs := by
  unfold ptB
  rw [Bool.eq_iff_iff, Bool.and_eq_true, Bool.and_eq_true, decide_eq_true_eq]
  constructor
  · rintro ⟨h1, h2⟩
    have h3 := inB_iff.1 h1
    have h4 := ptOk_sum xs _ _ h2
    rw [h4]
    exact ⟨h3.2, h2⟩
  · rintro ⟨h1, h2⟩
    have h3 := wsum_ok xs _ _ 0 h2 (Int.le_refl _) (by omega)
    have h4 := ptOk_low xs _ _ h2
    rw [h3, Int.zero_add]
    exact ⟨inB_iff.2 ⟨by omega, h1⟩, h2⟩
/-- each number at most the one before it -/
def dsc (xs : List Int) (k : Nat) : Bool := decide (xs.getD k 0 ≤ xs.getD (k - 1) 0)
def mdB (xs : List Int) : Bool := decide (xs.length ≤ 20) && allTo xs.length (fun i => inB (xs.getD i 0) 1 20) && allTo xs.length (fun i => i == 0 || dsc xs i) && decide (sumI xs ≤ 20)
theorem ptOk_all : ∀ (xs : List Int) (l b : Int), ptOk xs l b = true → ∀ i, i < xs.length → 1 ≤ xs.getD i 0 ∧ xs.getD i 0 ≤ b ∧ (0 < i → xs.getD i 0 ≤ xs.getD (i - 1) 0)
  | [], l, b, h, i, hi => by simp at hi
  | x :: xs, l, b, h, i, hi => by
    obtain ⟨p1, p2, p3⟩ := ptOk_cons.1 h
    have ih := ptOk_all xs _ _ p3
    cases i with
    | zero => exact ⟨p1, p2, fun h => absurd h (by omega)⟩
    | succ i =>
      have h1 := ih i (by simpa using hi)
      refine ⟨h1.1, ?_, fun _ => ?_⟩
      · show xs.getD i 0 ≤ b
        omega
      · show xs.getD i 0 ≤ (x :: xs).getD i 0
        cases i with
        | zero => exact h1.2.1
        | succ i => exact h1.2.2 (by omega)
theorem sumI_pos : ∀ xs : List Int, (∀ i, i < xs.length → 1 ≤ xs.getD i 0) → 0 ≤ sumI xs
  | [], _ => by simp [sumI]
  | x :: xs, h => by
    have h1 := h 0 (by simp)
    have h2 := sumI_pos xs (fun i hi => h (i + 1) (by simpa using hi))
    rw [sumI_cons]
    have : (x :: xs).getD 0 0 = x := rfl
    omega
theorem ptOk_of : ∀ (xs : List Int) (b : Int), (∀ i, i < xs.length → 1 ≤ xs.getD i 0) → (∀ i, i < xs.length → 0 < i → xs.getD i 0 ≤ xs.getD (i - 1) 0) → (0 < xs.length → xs.getD 0 0 ≤ b) → ptOk xs (sumI xs) b = true
  | [], b, _, _, _ => by simp [ptOk, sumI]
  | x :: xs, b, h1, h2, h3 => by
    have hx : (x :: xs).getD 0 0 = x := rfl
    refine ptOk_cons.2 ⟨?_, ?_, ?_⟩
    · have := h1 0 (by simp); omega
    · have := h3 (by simp); omega
    · rw [sumI_cons, show x + sumI xs - x = sumI xs by omega]
      refine ptOk_of xs x (fun i hi => h1 (i + 1) (by simpa using hi)) (fun i hi h0 => ?_) (fun h0 => ?_)
      · have := h2 (i + 1) (by simpa using hi) (by omega)
        obtain ⟨j, rfl⟩ : ∃ j, i = j + 1 := ⟨i - 1, by omega⟩
        exact this
      · exact h2 1 (by simpa using h0) (by omega)
theorem mdB_ptB (xs : List Int) : mdB xs = ptB xs := by
  unfold mdB ptB
  rw [Bool.eq_iff_iff, Bool.and_eq_true, Bool.and_eq_true, Bool.and_eq_true, Bool.and_eq_true, decide_eq_true_eq, decide_eq_true_eq, allTo_iff, allTo_iff]
  constructor
  · rintro ⟨⟨⟨h1, h2⟩, h3⟩, h4⟩
    refine ⟨h4, ptOk_of xs _ (fun i hi => (inB_iff.1 (h2 i hi)).1) (fun i hi h0 => ?_) (fun h0 => ?_)⟩
    · have := h3 i hi
      rw [Bool.or_eq_true] at this
      rcases this with h | h
      · have : i = 0 := by simpa using h
        omega
      · unfold dsc at h
        simpa using h
    · cases xs with
      | nil => simp at h0
      | cons x xs =>
        have := sumI_pos xs (fun i hi => (inB_iff.1 (h2 (i + 1) (by simpa using hi))).1)
        rw [sumI_cons]
        show x ≤ _
        omega
  · rintro ⟨h1, h2⟩
    have h3 := ptOk_all xs _ _ h2
    have h4 := ptOk_low xs _ _ h2
    refine ⟨⟨⟨by omega, fun i hi => inB_iff.2 ⟨(h3 i hi).1, by have := (h3 i hi).2.1; omega⟩⟩, fun i hi => ?_⟩, h1⟩
    by_cases h0 : i = 0
    · subst h0; rfl
    · rw [Bool.or_eq_true]
      right
      unfold dsc
      have := (h3 i hi).2.2 (by omega)
      simpa using this
theorem ptShC_dom {l b : Nat} {x : Int} (h : ptD l b) (hx : x ∈ ptCh l b) : ptD (ptNl l b x) (ptNb l b x) := by
  have := fall_mem.1 hx
  unfold ptD ptNl ptNb at *
  omega
theorem fallingFrom_any (n : Nat) (w : World) (hn : n ≤ 1000) :
    Calls Try.prog 90 #[.int .i64 (n : Int)] w fun e w' => ∃ u, e = .returned u ∧ Own w' w.heap.size u (fall n) ∧ Below w.heap.size w w' := by
  have hmk := run_make_ints n (by omega) w
  have HR0 := hid (rowTo_made (w := w) (fall_length n))
  have HB0 := hid ((Below.refl w.heap.size w).alloc (Nat.le_refl _) (.cells (madeCells #[.int .i64 0] n) 3))
  have HL := hid (fall_length n)
  go_enter Try.func90, Try.ntmps90
  go_wp2_with fail
  go_loopw [9] (fun i wr => ∃ k : Nat, k ≤ n ∧ i = .int .i64 k ∧ wr.rowIs w.heap.size 3 (fall n).length (fun j => .int .i64 (rowTo (fall n) k j)) ∧ Below w.heap.size w wr) (fun i _ => n - (intOf i).toNat)
  case atStart => exact ⟨0, Nat.zero_le _, rfl, HR0.out, HB0.out⟩
  case round =>
    obtain ⟨k, hk, rfl, hrow, hbel⟩ := hrel
    by_cases hlt : k < n
    · have hlt' : k < (fall n).length := by rw [HL.out]; exact hlt
      have HN := hid (rowTo_set (d := (n : Int) - (k : Int)) hlt' (fall_getD hlt).symm hrow)
      have hc := hrow.cell hlt'
      have hf := hrow.frozen k
      have HB := hid (hbel.setCell (p := ⟨w.heap.size, k, none⟩) (Nat.le_refl _) (.int .i64 ((n : Int) - (k : Int))))
      have u1 : IntKind.i64.wrap ((n : Int) - (k : Int)) = (n : Int) - (k : Int) := IntWalk.i64_in _ (by omega)
      have q1 : (0 : Int) ≤ (k : Int) := by omega
      have q2 : (k : Int) < (n : Int) := by omega
      clear hrow hbel hmk hlt'
      go_wp2_with fail
      go_roundw
      case rel => exact ⟨k + 1, by omega, by go_num, HN.out, HB.out⟩
      case measure => simp [intOf]; omega
    · obtain rfl : k = n := by omega
      have HO := hid (rowTo_own HL.out (by omega) hrow)
      have HB := hid hbel
      clear hrow hbel hmk
      go_wp2_with fail
      go_ret
      exact ⟨_, rfl, HO.out, HB.out⟩
theorem min_nat (l b : Nat) : ((min l b : Nat) : Int) = if (b : Int) < (l : Int) then (b : Int) else (l : Int) := by split <;> omega
theorem ptCh_any (l b : Nat) (w : World) (hd : ptD l b) :
    Calls Try.prog 89 #[rv l b] w fun e w' => ∃ u, e = .returned u ∧ Own w' w.heap.size u (ptCh l b) ∧ Below w.heap.size w w' := by
  obtain ⟨g0, g1⟩ := rs_box w l b
  have HB0 := hid ((Below.refl w.heap.size w).alloc (Nat.le_refl _) (rsObj l b))
  have HS := hid (show w.heap.size ≤ (w.alloc (rsObj l b)).heap.size by simp)
  unfold ptD at hd
  unfold ptCh
  have HF := hid (fun W => fallingFrom_any (min l b) W (by omega))
  have hmin := min_nat l b
  obtain ⟨m, hm⟩ : ∃ m, m = min l b := ⟨_, rfl⟩
  rw [← hm] at HF hmin ⊢
  clear hm
  by_cases hlt : (b : Int) < (l : Int)
  · rw [if_pos hlt] at hmin
    obtain rfl : m = b := by omega
    clear hmin
    go_enter Try.func89, Try.ntmps89
    go_wp2_with (first | (go_at_call 90; refine (HF.out _).mono ?_; rintro e w1 ⟨u, rfl, ho, hb1⟩; have HO := hid (ho.mono HS.out); have HB1 := hid (Below_chain HB0.out hb1); clear ho hb1) | fail)
    go_ret
    exact ⟨_, rfl, HO.out, HB1.out⟩
  · rw [if_neg hlt] at hmin
    obtain rfl : m = l := by omega
    clear hmin
    go_enter Try.func89, Try.ntmps89
    go_wp2_with (first | (go_at_call 90; refine (HF.out _).mono ?_; rintro e w1 ⟨u, rfl, ho, hb1⟩; have HO := hid (ho.mono HS.out); have HB1 := hid (Below_chain HB0.out hb1); clear ho hb1) | fail)
    go_ret
    exact ⟨_, rfl, HO.out, HB1.out⟩
theorem ptBe_any (l b : Nat) (x : Int) (w : World) (hd : ptD l b) (hx : x ∈ ptCh l b) :
    Calls Try.prog 91 #[rv l b, .int .i64 x] w fun e w' => e = .returned (rv (ptNl l b x) (ptNb l b x)) ∧ Below w.heap.size w w' := by
  have hm := fall_mem.1 hx
  unfold ptD at hd
  obtain ⟨g0, g1⟩ := rs_box w l b
  have HB0 := hid ((Below.refl w.heap.size w).alloc (Nat.le_refl _) (rsObj l b))
  have u2 : IntKind.i64.wrap ((l : Int) - x) = (l : Int) - x := IntWalk.i64_in _ (by omega)
  have HE := hid (show ((ptNl l b x : Nat) : Int) = (l : Int) - x by unfold ptNl; omega)
  have HM := hid (show ((ptNb l b x : Nat) : Int) = x by unfold ptNb; omega)
  rw [HE.out, HM.out]
  clear hx
  go_enter Try.func91, Try.ntmps91
  go_wp2_with fail
  go_returns
  exact ⟨rfl, HB0.out.alloc (by simp) _⟩
theorem ptShC : ShC 89 91 ptD ptCh ptNl ptNb where
  choices l b w h h0 := ptCh_any l b w h
  behind l b x w h h0 hx := ptBe_any l b x w h hx
  dom l b x h h0 hx := ptShC_dom h hx
  len l b h := by unfold ptD at h; unfold ptCh; rw [fall_length]; omega
theorem partedNumbersOf_any (l b : Nat) (w : World) :
    Calls Try.prog 62 #[.int .i64 (l : Int), .int .i64 (b : Int)] w fun e w' => e = .returned (shV l b (fnV 89) (fnV 91) (kF (w.heap.size + 1))) ∧ KEnv w' (w.heap.size + 1) (fnV 89) (fnV 91) ∧
      w'.ownsMap Try.prog 45 (plainElem (H := Unit) Try.prog 3) (w.heap.size + 1 + 4) 0 (.map []) ∧ Below w.heap.size w w' := by
  have hsz : (w.alloc shNil).heap.size = w.heap.size + 1 := by simp
  have HB0 := hid ((Below.refl w.heap.size w).alloc (Nat.le_refl _) shNil)
  have HBX := hid (sh_row w)
  have hc := shapeOf_any l b (fnV 89) (fnV 91) _ _ (w.alloc shNil) rfl rfl
  rw [hsz] at hc
  have HC := hid hc
  have HSZ := hid hsz
  clear hc hsz
  go_enter Try.func62, Try.ntmps62
  go_wp2_with (first
    | (go_at_call 92; refine HC.out.mono ?_; rintro e w1 ⟨rfl, he, hm, hb⟩; have HE := hid he; have HM := hid hm; have HB := hid hb; have hr1 := HBX.out.of_block (hb.block w.heap.size (by omega)); have HR := hid hr1; have hc0 := hr1.cell (i := 0) (by omega); have hc1 := hr1.cell (i := 1) (by omega); have hc2 := hr1.cell (i := 2) (by omega); have hc3 := hr1.cell (i := 3) (by omega); have hc4 := hr1.cell (i := 4) (by omega); have hf0 := hr1.frozen 0; have hf1 := hr1.frozen 1; have hf2 := hr1.frozen 2; have hf3 := hr1.frozen 3; have hf4 := hr1.frozen 4; clear he hm hb hr1)
    | fail)
  have hs0 := row_same HR.out (i := 0) (by omega) (.int .i64 (l : Int))
  have hs1 := row_same (HR.out.set 0 (.int .i64 (l : Int))) (i := 1) (by omega) (.int .i64 (b : Int))
  have hs2 := row_same ((HR.out.set 0 (.int .i64 (l : Int))).set 1 (.int .i64 (b : Int))) (i := 2) (by omega) (fnV 89)
  have hs3 := row_same (((HR.out.set 0 (.int .i64 (l : Int))).set 1 (.int .i64 (b : Int))).set 2 (fnV 89)) (i := 3) (by omega) (fnV 91)
  have hs4 := row_same ((((HR.out.set 0 (.int .i64 (l : Int))).set 1 (.int .i64 (b : Int))).set 2 (fnV 89)).set 3 (fnV 91)) (i := 4) (by omega) (kF (w.heap.size + 1))
  refine bodyPost_ret (v := shV l b (fnV 89) (fnV 91) (kF (w.heap.size + 1))) (by simp [results, Try.results62, hs0, hs1, hs2, hs3, hs4, go_sem]; try rfl) rfl ?_
  refine ⟨rfl, ?_, ?_, ?_⟩
  · exact ((((HE.out.setCell (by omega)).setCell (by omega)).setCell (by omega)).setCell (by omega)).setCell (by omega)
  · exact ((((HM.out.setCell (by show _ ≠ w.heap.size; omega) _).setCell (by show _ ≠ w.heap.size; omega) _).setCell (by show _ ≠ w.heap.size; omega) _).setCell (by show _ ≠ w.heap.size; omega) _).setCell (by show _ ≠ w.heap.size; omega) _
  · exact (((((HB0.out.trans (HB.out.mono (by omega))).setCell (p := ⟨w.heap.size, 0, none⟩) (Nat.le_refl _) _).setCell (p := ⟨w.heap.size, 1, none⟩) (Nat.le_refl _) _).setCell (p := ⟨w.heap.size, 2, none⟩) (Nat.le_refl _) _).setCell (p := ⟨w.heap.size, 3, none⟩) (Nat.le_refl _) _).setCell (p := ⟨w.heap.size, 4, none⟩) (Nat.le_refl _) _
theorem isUpToParted_any (n : Int) (w : World) : Calls Try.prog 61 #[.int .i64 n] w fun e w' => e = .returned (.bool (inB n 0 20)) ∧ w = w' := by
  by_cases h1 : 0 ≤ n
  · by_cases h2 : n ≤ 20
    · have HF := hid (show inB n 0 20 = true from inB_iff.2 ⟨h1, h2⟩)
      go_enter Try.func61, Try.ntmps61
      go_wp2_with fail
      go_ret
      exact ⟨ret_bool HF.out.symm, rfl⟩
    · have HF := hid (show inB n 0 20 = false by simp [inB]; omega)
      go_enter Try.func61, Try.ntmps61
      go_wp2_with fail
      go_ret
      exact ⟨ret_bool HF.out.symm, rfl⟩
  · have HF := hid (show inB n 0 20 = false by simp [inB]; omega)
    go_enter Try.func61, Try.ntmps61
    go_wp2_with fail
    go_ret
    exact ⟨ret_bool HF.out.symm, rfl⟩
theorem sumOfW_any (v : Value) (xs : List Int) (w : World) (h : Reads w v xs) (hl : xs.length ≤ 1048576) :
    Calls Try.prog 60 #[v] w fun e w' => e = .returned (.int .i64 (wsum 0 xs)) ∧ w = w' := by
  obtain ⟨ao, c, rfl, hc1, hm, h⟩ := h.view
  rcases h with h | ⟨g, off, rfl, hb, hc⟩
  · subst h
    go_enter Try.func60, Try.ntmps60
    go_wp2_with fail
    refine wp_loop_rounds 1 ?_
    rw [rounds_succ]
    go_wp2_with fail
    go_ret
    exact ⟨rfl, rfl⟩
  · have HC := hid hc
    clear hc
    go_enter Try.func60, Try.ntmps60
    go_wp2_with fail
    go_loop [3, 5, 8] (fun s _ i => ∃ (k : Nat) (a : Int), k ≤ xs.length ∧ i = .int .i64 k ∧ s = .int .i64 a ∧ wsum a (xs.drop k) = wsum 0 xs) (fun _ _ i => xs.length - (intOf i).toNat)
    case atStart => exact ⟨0, 0, Nat.zero_le _, rfl, rfl, rfl⟩
    case round =>
      obtain ⟨k, a, hk, rfl, rfl, hs⟩ := hrel
      by_cases hlt : k < xs.length
      · have hcx := HC.out k hlt
        rw [List.drop_eq_getElem_cons hlt, wsum] at hs
        obtain ⟨x, hx⟩ : ∃ x, x = xs[k] := ⟨_, rfl⟩
        rw [← hx] at hcx hs
        have HS := hid hs
        clear hx hs
        go_wp2_with fail
        go_round
        case rel => exact ⟨k + 1, _, by omega, by go_num, rfl, by rw [← IntWalk.i64_left]; exact HS.out⟩
        case measure => simp [intOf]; omega
      · obtain rfl : k = xs.length := by omega
        rw [List.drop_length, wsum] at hs
        subst hs
        go_wp2_with fail
        go_ret
        exact ⟨rfl, rfl⟩
theorem spSum_any (v : Value) (xs : List Int) (w : World) (h : Reads w v xs) (hs : ∀ k, k ≤ xs.length → 0 ≤ sumI (xs.take k) ∧ sumI (xs.take k) ≤ 1000000) :
    Calls Try.prog 69 #[v] w fun e w' => e = .returned (.int .i64 (sumI xs)) ∧ w = w' := by
  have HRG := hid hs
  clear hs
  obtain ⟨ao, c, rfl, hc1, hm, h⟩ := h.view
  rcases h with h | ⟨g, off, rfl, hb, hc⟩
  · subst h
    go_enter Try.func69, Try.ntmps69
    go_wp2_with fail
    refine wp_loop_rounds 1 ?_
    rw [rounds_succ]
    go_wp2_with fail
    go_ret
    exact ⟨rfl, rfl⟩
  · have HC := hid hc
    clear hc
    go_enter Try.func69, Try.ntmps69
    go_wp2_with fail
    go_loop [3, 5, 8] (fun s _ i => ∃ (k : Nat), k ≤ xs.length ∧ i = .int .i64 k ∧ s = .int .i64 (sumI (xs.take k))) (fun _ _ i => xs.length - (intOf i).toNat)
    case atStart => exact ⟨0, Nat.zero_le _, rfl, rfl⟩
    case round =>
      obtain ⟨k, hk, rfl, rfl⟩ := hrel
      by_cases hlt : k < xs.length
      · have hcx := HC.out k hlt
        have hrg := HRG.out k hk
        have hrg2 := HRG.out (k + 1) (by omega)
        have HN := hid (show sumI (xs.take (k + 1)) = sumI (xs.take k) + xs[k] by rw [List.take_succ_eq_append_getElem hlt, sumI_snoc])
        rw [HN.out] at hrg2
        obtain ⟨x, hx⟩ : ∃ x, x = xs[k] := ⟨_, rfl⟩
        rw [← hx] at hcx HN hrg2
        obtain ⟨s, hs⟩ : ∃ s, s = sumI (xs.take k) := ⟨_, rfl⟩
        rw [← hs] at HN hrg hrg2 ⊢
        have hww : IntKind.i64.wrap (s + x) = s + x := IntWalk.i64_in _ (by omega)
        clear hx hs
        go_wp2_with fail
        go_round
        case rel => exact ⟨k + 1, by omega, by go_num, by rw [HN.out]⟩
        case measure => simp [intOf]; omega
      · obtain rfl : k = xs.length := by omega
        rw [List.take_length]
        go_wp2_with fail
        go_ret
        exact ⟨rfl, rfl⟩
end Go.Proofs.Ytakelcboamjndab
