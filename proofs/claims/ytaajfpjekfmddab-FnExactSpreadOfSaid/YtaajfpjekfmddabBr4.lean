/- Contracts on spreads: brFar, brSpread, spreadOf; SpreadOf and SafeLength as the laws call them. Conditions: slices that are not nil and read as lists of at most 2^20 numbers. -/
import Derived.Test.YtaajfpjekfmddabBr2
namespace Go.Proofs.Ytaajfpjekfmddab
open Go.RowKit
set_option linter.unusedVariables false
set_option maxRecDepth 4000

/-- at how many places the windows at a and b differ -/
def farW (xs : List Int) (n a b : Nat) : Nat := difT (arL xs a n) (arL xs b n) n
theorem farW_le (xs : List Int) (n a b : Nat) : farW xs n a b ≤ n := difT_le _ _ _
/-- the least of l and the numbers for a and the first b -/
def sprI (xs : List Int) (n a l : Nat) : Nat → Nat
  | 0 => l
  | b + 1 => min (sprI xs n a l b) (farW xs n a b)
theorem sprI_le (xs : List Int) (n a l b : Nat) : sprI xs n a l b ≤ l := by
  induction b with
  | zero => exact Nat.le_refl _
  | succ b ih => rw [sprI]; exact Nat.le_trans (Nat.min_le_left _ _) ih
def sprO (xs : List Int) (n : Nat) : Nat → Nat
  | 0 => n
  | a + 1 => sprI xs n a (sprO xs n a) a
theorem sprO_le (xs : List Int) (n a : Nat) : sprO xs n a ≤ n := by
  induction a with
  | zero => exact Nat.le_refl _
  | succ a ih => rw [sprO]; exact Nat.le_trans (sprI_le _ _ _ _ _) ih
def sprL (xs : List Int) (n : Nat) : Nat := sprO xs n xs.length
theorem brLeast_any (a b : Nat) (w : World) : Calls Try.prog 97 #[.int .i64 (a : Int), .int .i64 (b : Int)] w fun e w' => e = .returned (.int .i64 (min a b : Nat)) ∧ w = w' := by
  by_cases h : a < b
  · have e : min a b = a := by omega
    rw [e]; clear e
    have h2 : (a : Int) < (b : Int) := by omega
    go_enter Try.func97, Try.ntmps97
    go_wp2
    go_ret
    exact ⟨rfl, rfl⟩
  · have e : min a b = b := by omega
    rw [e]; clear e
    have h2 : ¬ (a : Int) < (b : Int) := by omega
    go_enter Try.func97, Try.ntmps97
    go_wp2
    go_ret
    exact ⟨rfl, rfl⟩
theorem brFar_any (v : Value) (xs : List Int) (n p q : Nat) (w : World) (h : Sits w v xs) (hn : n ≤ 1048576) (hp : p ≤ 1048576) (hq : q ≤ 1048576) (h1 : 1 ≤ xs.length) (hl : xs.length ≤ 1048576) :
    Calls Try.prog 98 #[v, .int .i64 (n : Int), .int .i64 (p : Int), .int .i64 (q : Int)] w fun e w' => e = .returned (.int .i64 (farW xs n p q : Nat)) ∧ Below w.heap.size w w' := by
  obtain ⟨b, off, c, rfl, hc1, hm, hb, hc⟩ := h
  have HC := hid hc
  clear hc
  have hm3 : (xs.length : Int) ≤ 1048576 := by omega
  have hne : ¬ xs = [] := by intro e; rw [e] at h1; simp at h1
  have hne2 : ¬ xs.length = 0 := by omega
  have hne3 : ¬ (xs.length : Int) = 0 := by omega
  go_enter Try.func98, Try.ntmps98
  go_wp2
  go_loopw [9, 10] (fun f i wr => ∃ k : Nat, k ≤ n ∧ i = .int .i64 (k : Int) ∧ f = .int .i64 (difT (arL xs p n) (arL xs q n) k : Nat) ∧ Below w.heap.size w wr) (fun _ i _ => n - (intOf i).toNat)
  case atStart => exact ⟨0, Nat.zero_le _, rfl, rfl, Below.refl _ _⟩
  case round =>
    obtain ⟨k, hk, rfl, rfl, hbel⟩ := hrel
    have HB := hid hbel
    have hd := difT_le (arL xs p n) (arL xs q n) k
    by_cases hlt : k < n
    · have hlt2 : (k : Int) < (n : Int) := by omega
      obtain ⟨s, hs⟩ : ∃ s, s = (p + k) % xs.length := ⟨_, rfl⟩
      have hs1 : s < xs.length := by rw [hs]; exact Nat.mod_lt _ (by omega)
      have hcx : wr.cell? ⟨b, off + s, none⟩ = some (.int .i64 xs[s]) := (hbel.cell (by exact hb)).trans (HC.out s hs1)
      obtain ⟨t, ht⟩ : ∃ t, t = (q + k) % xs.length := ⟨_, rfl⟩
      have ht1 : t < xs.length := by rw [ht]; exact Nat.mod_lt _ (by omega)
      have hcy : wr.cell? ⟨b, off + t, none⟩ = some (.int .i64 xs[t]) := (hbel.cell (by exact hb)).trans (HC.out t ht1)
      have w1 : IntKind.i64.wrap ((p : Int) + (k : Int)) = (p : Int) + (k : Int) := IntWalk.i64_in _ (by omega)
      have w2 : IntKind.i64.wrap ((q : Int) + (k : Int)) = (q : Int) + (k : Int) := IntWalk.i64_in _ (by omega)
      have u1 : ((p : Int) + (k : Int)) % (xs.length : Int) = (s : Int) := by rw [hs]; simp
      have u2 : ((p : Int) + (k : Int)).tmod (xs.length : Int) = (s : Int) := by rw [Int.tmod_eq_emod_of_nonneg (by omega)]; exact u1
      have u3 : ((xs.length : Int) == 0) = false := beq_eq_false_iff_ne.2 (by omega)
      have u6 : IntKind.i64.wrap (s : Int) = (s : Int) := IntWalk.i64_in _ (by omega)
      have v1 : ((q : Int) + (k : Int)) % (xs.length : Int) = (t : Int) := by rw [ht]; simp
      have v2 : ((q : Int) + (k : Int)).tmod (xs.length : Int) = (t : Int) := by rw [Int.tmod_eq_emod_of_nonneg (by omega)]; exact v1
      have v6 : IntKind.i64.wrap (t : Int) = (t : Int) := IntWalk.i64_in _ (by omega)
      have u4 : (0 : Int) ≤ (s : Int) := by omega
      have u5 : (s : Int) < (xs.length : Int) := by omega
      have v4 : (0 : Int) ≤ (t : Int) := by omega
      have v5 : (t : Int) < (xs.length : Int) := by omega
      have HA := hid (show (arL xs p n).getD k 0 = xs[s] by rw [arL_at hlt, ← hs, getD_at hs1])
      have HBB := hid (show (arL xs q n).getD k 0 = xs[t] by rw [arL_at hlt, ← ht, getD_at ht1])
      obtain ⟨x, hx⟩ : ∃ x, x = xs[s] := ⟨_, rfl⟩
      obtain ⟨y, hy⟩ : ∃ y, y = xs[t] := ⟨_, rfl⟩
      rw [← hx] at hcx HA
      rw [← hy] at hcy HBB
      have hcx' : wr.drew.cell? ⟨b, off + s, none⟩ = some (.int .i64 x) := hcx
      have hcy' : wr.drew.cell? ⟨b, off + t, none⟩ = some (.int .i64 y) := hcy
      have HBD := hid (HB.out.drew)
      clear hs ht hx hy hbel
      by_cases e : x = y
      · have HF := hid (show difT (arL xs p n) (arL xs q n) (k + 1) = difT (arL xs p n) (arL xs q n) k by rw [difT, HA.out, HBB.out, if_pos e]; rfl)
        have hb2 : (x != y) = false := by simp [e]
        clear e
        go_wp2
        go_region_held3 (fun w' => w'.cell? ⟨b, off + s, none⟩ = some (.int .i64 x) ∧ w'.cell? ⟨b, off + t, none⟩ = some (.int .i64 y))
          (first | exact ⟨hcx', hcy'⟩ | go_keep | fail)
          (first | fail)
        all_goals
          go_wp2
          go_roundw
          case rel => exact ⟨k + 1, by omega, by go_num, by rw [HF.out], HBD.out⟩
          case measure => simp [intOf]; omega
      · have HF := hid (show difT (arL xs p n) (arL xs q n) (k + 1) = difT (arL xs p n) (arL xs q n) k + 1 by rw [difT, HA.out, HBB.out, if_neg e])
        have hb2 : (x != y) = true := by simp [e]
        clear e
        go_wp2
        go_region_held3 (fun w' => w'.cell? ⟨b, off + s, none⟩ = some (.int .i64 x) ∧ w'.cell? ⟨b, off + t, none⟩ = some (.int .i64 y))
          (first | exact ⟨hcx', hcy'⟩ | go_keep | fail)
          (first | fail)
        all_goals
          go_wp2
          go_roundw
          case rel => exact ⟨k + 1, by omega, by go_num, by rw [HF.out]; go_num, HBD.out⟩
          case measure => simp [intOf]; omega
    · obtain rfl : k = n := by omega
      go_wp2
      go_ret
      exact ⟨rfl, HB.out⟩
theorem brSpread_any (v : Value) (xs : List Int) (n : Nat) (w : World) (h : Sits w v xs) (hn : n ≤ 1048576) (h1 : 1 ≤ xs.length) (hl : xs.length ≤ 1048576) :
    Calls Try.prog 71 #[v, .int .i64 (n : Int)] w fun e w' => e = .returned (.int .i64 (sprL xs n : Nat)) ∧ Below w.heap.size w w' := by
  have HS := hid h
  obtain ⟨b, off, c, rfl, hc1, hm, hb, hc⟩ := h
  clear hc
  go_enter Try.func71, Try.ntmps71
  go_wp2_with fail
  go_loopw [5, 6, 7, 11] (fun f _ _ i wr => ∃ k : Nat, k ≤ xs.length ∧ i = .int .i64 (k : Int) ∧ f = .int .i64 (sprO xs n k : Nat) ∧ Below w.heap.size w wr) (fun _ _ _ i _ => xs.length - (intOf i).toNat)
  case atStart => exact ⟨0, Nat.zero_le _, rfl, rfl, Below.refl _ _⟩
  case round =>
    obtain ⟨k, hk, rfl, rfl, hbel⟩ := hrel
    have HB := hid hbel
    have hs := sprO_le xs n k
    by_cases hlt : k < xs.length
    · obtain ⟨l, hl0⟩ : ∃ l, l = sprO xs n k := ⟨_, rfl⟩
      rw [← hl0] at hs ⊢
      have HK := hid (show sprO xs n (k + 1) = sprI xs n k l k by rw [sprO, ← hl0])
      clear hl0 hbel
      go_wp2_with fail
      go_loopw [5, 7] (fun f j wi => ∃ q : Nat, q ≤ k ∧ j = .int .i64 (q : Int) ∧ f = .int .i64 (sprI xs n k l q : Nat) ∧ Below w.heap.size w wi) (fun _ j _ => k - (intOf j).toNat)
      case atStart => exact ⟨0, Nat.zero_le _, rfl, rfl, HB.out⟩
      case round =>
        obtain ⟨q, hq, rfl, rfl, hbel2⟩ := hrel
        have HB2 := hid hbel2
        by_cases hlt2 : q < k
        · have hlt3 : (q : Int) < (k : Int) := by omega
          have HS2 := hid (HS.out.below hbel2)
          have HQ := hid (show min (sprI xs n k l q) (farW xs n k q) = sprI xs n k l (q + 1) from rfl)
          obtain ⟨m, hm0⟩ : ∃ m, m = sprI xs n k l q := ⟨_, rfl⟩
          rw [← hm0] at HQ ⊢
          clear hm0 hbel2
          obtain ⟨f, hf0⟩ : ∃ f, f = farW xs n k q := ⟨_, rfl⟩
          have HF := hid hf0.symm
          rw [← hf0] at HQ
          clear hf0
          go_wp2_with (first
            | (go_at_call 98; (refine (brFar_any _ xs n k q _ HS2.out hn (by omega) (by omega) h1 hl).mono ?_); (rintro e w1 ⟨rfl, hb1⟩); (have HB3 := hid (Below_chain HB2.out hb1)); (clear hb1); (rw [HF.out]))
            | (go_at_call 97; (refine (brLeast_any _ _ _).mono ?_); (rintro e w4 ⟨rfl, rfl⟩); (rw [HQ.out]))
            | fail)
          go_roundw
          case rel => exact ⟨q + 1, by omega, by go_num, rfl, HB3.out⟩
          case measure => simp [intOf]; omega
        · obtain rfl : q = k := by omega
          clear hbel2
          go_wp2_with fail
          go_roundw
          case rel => exact ⟨q + 1, by omega, by go_num, by rw [HK.out], HB2.out⟩
          case measure => simp [intOf]; omega
    · obtain rfl : k = xs.length := by omega
      clear hbel
      go_wp2_with fail
      go_ret
      exact ⟨rfl, HB.out⟩
theorem spreadOf_any (v : Value) (xs : List Int) (n : Nat) (w : World) (h : Sits w v xs) (hn : n ≤ 2048) (h1 : 1 ≤ xs.length) (hl : xs.length ≤ 2048) :
    Calls Try.prog 73 #[v, .int .i64 (n : Int)] w fun e w' => e = .returned (.int .i64 (sprL xs n : Nat)) ∧ Below w.heap.size w w' := by
  have HS := hid h
  obtain ⟨b, off, c, rfl, hc1, hm, hb, hc⟩ := h
  clear hc
  go_enter Try.func73, Try.ntmps73
  go_wp2_with (first
    | (go_at_call 89; (refine (windowsOf_any _ xs n _ HS.out hn h1 hl).mono ?_); (rintro e w1 ⟨g1, rfl, hs1, hb1⟩); (have HW := hid hs1); (have HB1 := hid hb1); (clear hs1 hb1))
    | fail)
  have HWL := hid (winL_len xs n)
  go_loop [5, 7, 8, 10, 17] (fun f _ _ _ i => ∃ k : Nat, k ≤ xs.length ∧ i = .int .i64 (k : Int) ∧ f = .int .i64 (sprO xs n k : Nat)) (fun _ _ _ _ i => xs.length - (intOf i).toNat)
  case atStart => exact ⟨0, Nat.zero_le _, rfl, rfl⟩
  case round =>
    obtain ⟨k, hk, rfl, rfl⟩ := hrel
    have hs := sprO_le xs n k
    by_cases hlt : k < xs.length
    · obtain ⟨z, hz, hsit⟩ := HW.out.at' k (by rw [HWL.out]; exact hlt)
      rw [winL_at hlt] at hsit
      obtain ⟨gb, go, gc, hze⟩ : ∃ gb go gc, z = .slice (some ⟨gb, go, none⟩) (arL xs k n).length gc := by obtain ⟨_, _, _, e, _⟩ := hsit; exact ⟨_, _, _, e⟩
      rw [arL_len] at hze
      subst hze
      have HZ := hid hsit
      obtain ⟨l, hl0⟩ : ∃ l, l = sprO xs n k := ⟨_, rfl⟩
      rw [← hl0] at hs ⊢
      have HK := hid (show sprO xs n (k + 1) = sprI xs n k l k by rw [sprO, ← hl0])
      clear hl0 hsit
      go_wp2_with fail
      go_loop [5, 10, 26] (fun f _ j => ∃ q : Nat, q ≤ k ∧ j = .int .i64 (q : Int) ∧ f = .int .i64 (sprI xs n k l q : Nat)) (fun _ _ j => k - (intOf j).toNat)
      case atStart => exact ⟨0, Nat.zero_le _, rfl, rfl⟩
      case round =>
        obtain ⟨q, hq, rfl, rfl⟩ := hrel
        by_cases hlt2 : q < k
        · have hlt3 : (q : Int) < (k : Int) := by omega
          obtain ⟨z2, hz2, hsit2⟩ := HW.out.at' q (by rw [HWL.out]; omega)
          rw [winL_at (show q < xs.length by omega)] at hsit2
          obtain ⟨gb2, go2, gc2, hze⟩ : ∃ gb go gc, z2 = .slice (some ⟨gb, go, none⟩) (arL xs q n).length gc := by obtain ⟨_, _, _, e, _⟩ := hsit2; exact ⟨_, _, _, e⟩
          rw [arL_len] at hze
          subst hze
          have HZ2 := hid hsit2
          have HQ := hid (show min (sprI xs n k l q) (farW xs n k q) = sprI xs n k l (q + 1) from rfl)
          have hms := sprI_le xs n k l q
          obtain ⟨m, hm0⟩ : ∃ m, m = sprI xs n k l q := ⟨_, rfl⟩
          rw [← hm0] at HQ hms ⊢
          clear hm0
          have hfl := farW_le xs n k q
          obtain ⟨f, hf0⟩ : ∃ f, f = farW xs n k q := ⟨_, rfl⟩
          have HF := hid (show difT (arL xs k n) (arL xs q n) (arL xs k n).length = f by rw [arL_len, hf0]; rfl)
          rw [← hf0] at HQ hfl
          clear hf0 hsit2
          go_wp2_with (first
            | (go_at_call 99; (refine (differences_any _ _ (arL xs k n) (arL xs q n) _ HZ.out HZ2.out (by rw [arL_len, arL_len]; exact Nat.le_refl _)).mono ?_); (rintro e w2 ⟨rfl, rfl⟩); (rw [HF.out]))
            | fail)
          go_round
          case rel => exact ⟨q + 1, by omega, by go_num, by rw [← HQ.out]; congr 1; split <;> omega⟩
          case measure => simp [intOf]; omega
        · obtain rfl : q = k := by omega
          go_wp2_with fail
          go_round
          case rel => exact ⟨q + 1, by omega, by go_num, by rw [HK.out]⟩
          case measure => simp [intOf]; omega
    · obtain rfl : k = xs.length := by omega
      go_wp2_with fail
      go_ret
      exact ⟨rfl, HB1.out⟩
/-- there is a spread to be told -/
def spB (xs : List Int) (n : Int) : Bool := tapB xs 2 && inB n 1 64
theorem spB_0 {xs : List Int} {n : Int} (h : tapB xs 2 = false) : spB xs n = false := by unfold spB; rw [h]; rfl
theorem spB_1 {xs : List Int} {n : Int} (h : tapB xs 2 = true) : spB xs n = inB n 1 64 := by unfold spB; rw [h]; rfl
theorem tapB_len {xs : List Int} {lo : Int} (h : tapB xs lo = true) : 1 ≤ xs.length ∧ xs.length ≤ 64 := by
  unfold tapB at h
  simp only [Bool.and_eq_true] at h
  have h1 := cycB_len h.1
  have h2 := inB_iff.1 h.2
  omega
def spN (xs : List Int) (n : Int) : Int := atB (spB xs n) 0 (sprL xs n.toNat : Nat)
theorem spN_no {xs : List Int} {n : Int} (h : spB xs n = false) : spN xs n = 0 := atB_no h
theorem spN_yes {xs : List Int} {n : Int} (h : spB xs n = true) : spN xs n = (sprL xs n.toNat : Nat) := atB_yes h
theorem ret_nb4 {a a' : Int} {b b' : Bool} (h : a = a') (h' : b = b') : Ending.returned (.tuple #[.int .i64 a, .bool b]) = .returned (.tuple #[.int .i64 a', .bool b']) := by rw [h, h']
theorem law_spec_SpreadOf (v : Value) (xs : List Int) (n : Int) (w : World) (h : Sits w v xs) (hl : xs.length ≤ 1048576) (_hwf : ∀ x ∈ xs, (Lit.int .i64 x).wf = true) (_wn : (Lit.int .i64 n).wf = true) :
    Calls Try.prog 34 #[v, .int .i64 n] w fun e w' => e = .returned (.tuple #[.int .i64 (spN xs n), .bool (spB xs n)]) ∧ Below w.heap.size w w' := by
  have HS := hid h
  cases h1 : tapB xs 2 with
  | false =>
    have HF := hid (spB_0 (n := n) h1)
    go_enter Try.func34, Try.ntmps34
    go_wp2_with (first | (go_at_call 69; (refine (brTape_any _ xs _ _ HS.out).mono ?_); (rintro e w1 ⟨rfl, rfl⟩); (rw [h1])) | fail)
    go_ret2
    exact ⟨ret_nb4 (spN_no HF.out).symm HF.out.symm, Below.refl _ _⟩
  | true =>
    have hlen := tapB_len h1
    cases h2 : inB n 1 64 with
    | false =>
      have HF := hid ((spB_1 (n := n) h1).trans h2)
      go_enter Try.func34, Try.ntmps34
      go_wp2_with (first
        | (go_at_call 69; (refine (brTape_any _ xs _ _ HS.out).mono ?_); (rintro e w1 ⟨rfl, rfl⟩); (rw [h1]))
        | (go_at_call 70; (refine (l1In_any _ _ _ _).mono ?_); (rintro e w1 ⟨rfl, rfl⟩); (rw [h2]))
        | fail)
      go_ret2
      exact ⟨ret_nb4 (spN_no HF.out).symm HF.out.symm, Below.refl _ _⟩
    | true =>
      have HF := hid ((spB_1 (n := n) h1).trans h2)
      have hn := inB_iff.1 h2
      obtain ⟨a, rfl⟩ : ∃ a : Nat, n = (a : Int) := ⟨n.toNat, by omega⟩
      have ha : a ≤ 1048576 := by omega
      have HN := hid (spN_yes HF.out)
      rw [Int.toNat_natCast] at HN
      go_enter Try.func34, Try.ntmps34
      go_wp2_with (first
        | (go_at_call 69; (refine (brTape_any _ xs _ _ HS.out).mono ?_); (rintro e w1 ⟨rfl, rfl⟩); (rw [h1]))
        | (go_at_call 70; (refine (l1In_any _ _ _ _).mono ?_); (rintro e w1 ⟨rfl, rfl⟩); (rw [h2]))
        | (go_at_call 71; (refine (brSpread_any _ xs a _ HS.out ha hlen.1 hl).mono ?_); (rintro e w1 ⟨rfl, hb1⟩); (have HB := hid hb1); (clear hb1))
        | fail)
      go_ret2
      exact ⟨ret_nb4 HN.out.symm HF.out.symm, HB.out⟩
theorem law_impl_SpreadOf (v : Value) (xs : List Int) (n : Int) (w : World) (h : Sits w v xs) (hl : xs.length ≤ 1048576) (_hwf : ∀ x ∈ xs, (Lit.int .i64 x).wf = true) (_wn : (Lit.int .i64 n).wf = true) :
    Calls Try.prog 35 #[v, .int .i64 n] w fun e w' => e = .returned (.tuple #[.int .i64 (spN xs n), .bool (spB xs n)]) ∧ Below w.heap.size w w' := by
  have HS := hid h
  cases h1 : tapB xs 2 with
  | false =>
    have HF := hid (spB_0 (n := n) h1)
    go_enter Try.func35, Try.ntmps35
    go_wp2_with (first | (go_at_call 72; (refine (isSpreadTape_any _ xs _ HS.out.reads).mono ?_); (rintro e w1 ⟨rfl, rfl⟩); (rw [h1])) | fail)
    go_ret2
    exact ⟨ret_nb4 (spN_no HF.out).symm HF.out.symm, Below.refl _ _⟩
  | true =>
    have hlen := tapB_len h1
    by_cases h2 : n < 1
    · have HF := hid ((spB_1 (n := n) h1).trans (show inB n 1 64 = false by simp [inB]; omega))
      go_enter Try.func35, Try.ntmps35
      go_wp2_with (first | (go_at_call 72; (refine (isSpreadTape_any _ xs _ HS.out.reads).mono ?_); (rintro e w1 ⟨rfl, rfl⟩); (rw [h1])) | fail)
      go_ret2
      exact ⟨ret_nb4 (spN_no HF.out).symm HF.out.symm, Below.refl _ _⟩
    · by_cases h3 : 64 < n
      · have HF := hid ((spB_1 (n := n) h1).trans (show inB n 1 64 = false by simp [inB]; omega))
        go_enter Try.func35, Try.ntmps35
        go_wp2_with (first | (go_at_call 72; (refine (isSpreadTape_any _ xs _ HS.out.reads).mono ?_); (rintro e w1 ⟨rfl, rfl⟩); (rw [h1])) | fail)
        go_ret2
        exact ⟨ret_nb4 (spN_no HF.out).symm HF.out.symm, Below.refl _ _⟩
      · have HF := hid ((spB_1 (n := n) h1).trans (show inB n 1 64 = true from inB_iff.2 (by omega)))
        obtain ⟨a, rfl⟩ : ∃ a : Nat, n = (a : Int) := ⟨n.toNat, by omega⟩
        have ha : a ≤ 2048 := by omega
        have HN := hid (spN_yes HF.out)
        rw [Int.toNat_natCast] at HN
        go_enter Try.func35, Try.ntmps35
        go_wp2_with (first
          | (go_at_call 72; (refine (isSpreadTape_any _ xs _ HS.out.reads).mono ?_); (rintro e w1 ⟨rfl, rfl⟩); (rw [h1]))
          | (go_at_call 73; (refine (spreadOf_any _ xs a _ HS.out ha hlen.1 (by omega)).mono ?_); (rintro e w1 ⟨rfl, hb1⟩); (have HB := hid hb1); (clear hb1))
          | fail)
        go_ret2
        exact ⟨ret_nb4 HN.out.symm HF.out.symm, HB.out⟩
/-- the first safe length among f ones from j on, or 0 -/
def safG (xs : List Int) : Nat → Nat → Nat
  | j, 0 => 0
  | j, f + 1 => if 3 ≤ sprL xs j then j else safG xs (j + 1) f
theorem safG_yes {xs : List Int} {j f : Nat} (h : 3 ≤ sprL xs j) (hf : 1 ≤ f) : safG xs j f = j := by
  obtain ⟨g, rfl⟩ : ∃ g, f = g + 1 := ⟨f - 1, by omega⟩
  rw [safG, if_pos h]
theorem safG_no {xs : List Int} {j f : Nat} (h : ¬ 3 ≤ sprL xs j) (hf : 1 ≤ f) : safG xs j f = safG xs (j + 1) (f - 1) := by
  obtain ⟨g, rfl⟩ : ∃ g, f = g + 1 := ⟨f - 1, by omega⟩
  rw [safG, if_neg h]; rfl
theorem safG_end (xs : List Int) (j : Nat) : safG xs j 0 = 0 := by rw [safG]
def safN (xs : List Int) : Int := atB (tapB xs 2) 0 (safG xs 1 64 : Nat)
def safB (xs : List Int) : Bool := decide (0 < safN xs)
theorem safN_no {xs : List Int} (h : tapB xs 2 = false) : safN xs = 0 := atB_no h
theorem safB_no {xs : List Int} (h : safN xs = 0) : safB xs = false := by unfold safB; rw [h]; rfl
theorem safB_yes {xs : List Int} {j : Nat} (h : safN xs = (j : Int)) (hj : 1 ≤ j) : safB xs = true := by unfold safB; rw [h]; exact decide_eq_true (by omega)
theorem safN_at {xs : List Int} {j f : Nat} (h : tapB xs 2 = true) (h2 : safG xs j f = safG xs 1 64) : safN xs = (safG xs j f : Nat) := by rw [h2]; exact atB_yes h
theorem law_spec_SafeLength (v : Value) (xs : List Int) (w : World) (h : Sits w v xs) (hl : xs.length ≤ 1048576) (_hwf : ∀ x ∈ xs, (Lit.int .i64 x).wf = true) :
    Calls Try.prog 36 #[v] w fun e w' => e = .returned (.tuple #[.int .i64 (safN xs), .bool (safB xs)]) ∧ Below w.heap.size w w' := by
  have HS := hid h
  cases h1 : tapB xs 2 with
  | false =>
    have HN := hid (safN_no h1)
    go_enter Try.func36, Try.ntmps36
    go_wp2_with (first | (go_at_call 69; (refine (brTape_any _ xs _ _ HS.out).mono ?_); (rintro e w1 ⟨rfl, rfl⟩); (rw [h1])) | fail)
    go_ret2
    exact ⟨ret_nb4 HN.out.symm (safB_no HN.out).symm, Below.refl _ _⟩
  | true =>
    have hlen := tapB_len h1
    go_enter Try.func36, Try.ntmps36
    go_wp2_with (first | (go_at_call 69; (refine (brTape_any _ xs _ _ HS.out).mono ?_); (rintro e w1 ⟨rfl, rfl⟩); (rw [h1])) | fail)
    have HT := hid h1
    clear h1
    go_loopw [4] (fun i wr => ∃ j : Nat, i = .int .i64 (j : Int) ∧ 1 ≤ j ∧ j ≤ 65 ∧ safG xs j (65 - j) = safG xs 1 64 ∧ Below w.heap.size w wr) (fun i _ => 65 - (intOf i).toNat)
    case atStart => exact ⟨1, rfl, Nat.le_refl _, by omega, rfl, Below.refl _ _⟩
    case round =>
      obtain ⟨j, rfl, hj1, hj2, hsf, hbel⟩ := hrel
      have HB := hid hbel
      have HSF := hid hsf
      have HSS := hid (HS.out.below hbel)
      by_cases hlt : j ≤ 64
      · have hlt2 : (j : Int) ≤ 64 := by omega
        have hjm : j ≤ 1048576 := by omega
        clear hsf hbel
        by_cases h3 : 3 ≤ sprL xs j
        · have HJ := hid (safG_yes (f := 65 - j) h3 (by omega))
          have HN := hid ((safN_at HT.out HSF.out).trans (by rw [HJ.out]))
          obtain ⟨s, hs⟩ : ∃ s, s = sprL xs j := ⟨_, rfl⟩
          have HSN := hid hs.symm
          have h33 : (3 : Int) ≤ (s : Int) := by omega
          clear h3 hs
          go_wp2_with (first
            | (go_at_call 71; (refine (brSpread_any _ xs j _ HSS.out hjm hlen.1 hl).mono ?_); (rintro e w1 ⟨rfl, hb1⟩); (have HB1 := hid (Below_chain HB.out hb1)); (clear hb1); (rw [HSN.out]))
            | fail)
          go_ret2
          exact ⟨ret_nb4 HN.out.symm (safB_yes HN.out hj1).symm, HB1.out⟩
        · have HJ := hid (safG_no (f := 65 - j) h3 (by omega))
          obtain ⟨s, hs⟩ : ∃ s, s = sprL xs j := ⟨_, rfl⟩
          have HSN := hid hs.symm
          have h33 : ¬ (3 : Int) ≤ (s : Int) := by omega
          clear h3 hs
          go_wp2_with (first
            | (go_at_call 71; (refine (brSpread_any _ xs j _ HSS.out hjm hlen.1 hl).mono ?_); (rintro e w1 ⟨rfl, hb1⟩); (have HB1 := hid (Below_chain HB.out hb1)); (clear hb1); (rw [HSN.out]))
            | fail)
          go_roundw
          case rel => exact ⟨j + 1, by go_num, by omega, by omega, by rw [← HSF.out, HJ.out]; rfl, HB1.out⟩
          case measure => simp [intOf]; omega
      · obtain rfl : j = 65 := by omega
        have HN := hid ((safN_at HT.out HSF.out).trans (by rw [safG_end]))
        clear hsf hbel
        go_wp2_with fail
        go_ret2
        exact ⟨ret_nb4 HN.out.symm (safB_no HN.out).symm, HB.out⟩
theorem law_impl_SafeLength (v : Value) (xs : List Int) (w : World) (h : Sits w v xs) (hl : xs.length ≤ 1048576) (_hwf : ∀ x ∈ xs, (Lit.int .i64 x).wf = true) :
    Calls Try.prog 37 #[v] w fun e w' => e = .returned (.tuple #[.int .i64 (safN xs), .bool (safB xs)]) ∧ Below w.heap.size w w' := by
  have HS := hid h
  cases h1 : tapB xs 2 with
  | false =>
    have HN := hid (safN_no h1)
    go_enter Try.func37, Try.ntmps37
    go_wp2_with (first | (go_at_call 72; (refine (isSpreadTape_any _ xs _ HS.out.reads).mono ?_); (rintro e w1 ⟨rfl, rfl⟩); (rw [h1])) | fail)
    go_ret2
    exact ⟨ret_nb4 HN.out.symm (safB_no HN.out).symm, Below.refl _ _⟩
  | true =>
    have hlen := tapB_len h1
    have hl2 : xs.length ≤ 2048 := by omega
    go_enter Try.func37, Try.ntmps37
    go_wp2_with (first | (go_at_call 72; (refine (isSpreadTape_any _ xs _ HS.out.reads).mono ?_); (rintro e w1 ⟨rfl, rfl⟩); (rw [h1])) | fail)
    have HT := hid h1
    clear h1
    go_loopw [4] (fun i wr => ∃ j : Nat, i = .int .i64 (j : Int) ∧ 1 ≤ j ∧ j ≤ 65 ∧ safG xs j (65 - j) = safG xs 1 64 ∧ Below w.heap.size w wr) (fun i _ => 65 - (intOf i).toNat)
    case atStart => exact ⟨1, rfl, Nat.le_refl _, by omega, rfl, Below.refl _ _⟩
    case round =>
      obtain ⟨j, rfl, hj1, hj2, hsf, hbel⟩ := hrel
      have HB := hid hbel
      have HSF := hid hsf
      have HSS := hid (HS.out.below hbel)
      by_cases hlt : j ≤ 64
      · have hlt2 : (j : Int) ≤ 64 := by omega
        have hjm : j ≤ 2048 := by omega
        clear hsf hbel
        by_cases h3 : 3 ≤ sprL xs j
        · have HJ := hid (safG_yes (f := 65 - j) h3 (by omega))
          have HN := hid ((safN_at HT.out HSF.out).trans (by rw [HJ.out]))
          obtain ⟨s, hs⟩ : ∃ s, s = sprL xs j := ⟨_, rfl⟩
          have HSN := hid hs.symm
          have h33 : (3 : Int) ≤ (s : Int) := by omega
          clear h3 hs
          go_wp2_with (first
            | (go_at_call 73; (refine (spreadOf_any _ xs j _ HSS.out hjm hlen.1 hl2).mono ?_); (rintro e w1 ⟨rfl, hb1⟩); (have HB1 := hid (Below_chain HB.out hb1)); (clear hb1); (rw [HSN.out]))
            | fail)
          go_ret2
          exact ⟨ret_nb4 HN.out.symm (safB_yes HN.out hj1).symm, HB1.out⟩
        · have HJ := hid (safG_no (f := 65 - j) h3 (by omega))
          obtain ⟨s, hs⟩ : ∃ s, s = sprL xs j := ⟨_, rfl⟩
          have HSN := hid hs.symm
          have h33 : ¬ (3 : Int) ≤ (s : Int) := by omega
          clear h3 hs
          go_wp2_with (first
            | (go_at_call 73; (refine (spreadOf_any _ xs j _ HSS.out hjm hlen.1 hl2).mono ?_); (rintro e w1 ⟨rfl, hb1⟩); (have HB1 := hid (Below_chain HB.out hb1)); (clear hb1); (rw [HSN.out]))
            | fail)
          go_roundw
          case rel => exact ⟨j + 1, by go_num, by omega, by omega, by rw [← HSF.out, HJ.out]; rfl, HB1.out⟩
          case measure => simp [intOf]; omega
      · obtain rfl : j = 65 := by omega
        have HN := hid ((safN_at HT.out HSF.out).trans (by rw [safG_end]))
        clear hsf hbel
        go_wp2_with fail
        go_ret2
        exact ⟨ret_nb4 HN.out.symm (safB_no HN.out).symm, HB.out⟩
end Go.Proofs.Ytaajfpjekfmddab
