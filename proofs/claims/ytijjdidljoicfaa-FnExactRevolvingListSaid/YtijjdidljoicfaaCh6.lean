/- Contracts: chCool and spec.NextCool. Conditions: the slice is not nil and reads as a list of at most 2^20 numbers. -/
import Derived.Test.YtijjdidljoicfaaCh5
namespace Go.Proofs.Ytijjdidljoicfaa
open Go.RowKit
set_option linter.unusedVariables false

/-- the length of the beginning that is taken, as found behind d indices from the back on -/
def coolD (xs : List Int) : Nat → Nat
  | 0 => xs.length
  | d + 1 => if xs.getD (xs.length - 3 - d) 0 = 0 ∧ xs.getD (xs.length - 3 - d + 1) 0 = 1 then xs.length - d else coolD xs d
def coolM (xs : List Int) : Nat := coolD xs (xs.length - 2)
def coolL (xs : List Int) : List Int := if coolM xs = 0 then [] else [xs.getD (coolM xs - 1) 0] ++ xs.take (coolM xs - 1) ++ xs.drop (coolM xs)
theorem coolD_le (xs : List Int) : ∀ d, coolD xs d ≤ xs.length
  | 0 => Nat.le_refl _
  | d + 1 => by
    rw [coolD]; split
    · omega
    · exact coolD_le xs d
theorem coolD_pos {xs : List Int} (h : 0 < xs.length) : ∀ d, d ≤ xs.length - 2 → 0 < coolD xs d
  | 0, _ => h
  | d + 1, hd => by
    rw [coolD]; split
    · omega
    · exact coolD_pos h d (by omega)
theorem coolL_length (xs : List Int) : (coolL xs).length = xs.length := by
  have h1 := coolD_le xs (xs.length - 2)
  unfold coolL coolM
  split
  · rename_i h0
    by_cases h : 0 < xs.length
    · have := coolD_pos h (xs.length - 2) (Nat.le_refl _); omega
    · simp; omega
  · simp; omega
theorem Own.lit9 (w : World) (x : Int) : Own (w.alloc (.cells #[.int .i64 x] 3)) w.heap.size (.slice (some ⟨w.heap.size, 0, none⟩) 1 1) [x] :=
  ⟨rfl, .inr ⟨w.heap.size, 1, #[.int .i64 x], rfl, Nat.le_refl _, heap_alloc_new w _, Nat.le_refl _, by unfold maxLen; omega, rfl, rfl⟩⟩
theorem Own.more2 {w : World} {lo : Nat} {v : Value} {xs ys : List Int} {n m : Nat} (hn : n = xs.length) (hm : m = ys.length) (h : w.ownsRow lo 3 1 v (n + m) (xs.map (Value.int .i64) ++ ys.map (Value.int .i64))) : Own w lo v (xs ++ ys) := by
  subst hn hm
  unfold Own
  rw [List.length_append, List.map_append]
  exact h
set_option maxHeartbeats 2000000 in
theorem chCool_any (v : Value) (xs : List Int) (w : World) (h : Sits w v xs) (hl : xs.length ≤ 1048576) :
    Calls Try.prog 82 #[v] w fun e w' => ∃ u, e = .returned u ∧ Own w' w.heap.size u (coolL xs) ∧ Below w.heap.size w w' := by
  obtain ⟨i0, hi, hz0, hz1, hz2⟩ := info_parts Try.info3
  obtain ⟨g, off, c, rfl, hc1, hm, hb, hc⟩ := h
  have HC := hid hc
  obtain ⟨n, hn⟩ : ∃ n, n = xs.length := ⟨_, rfl⟩
  have HN := hid hn
  have HDL := hid (coolD_le xs (xs.length - 2))
  rw [← hn] at hc1 hl ⊢
  clear hc hn
  go_enter Try.func82, Try.ntmps82
  go_wp2_with fail
  have hsub : ∀ q : Int, q = (n : Int) - 3 → q = (n : Int) - 3 := fun q h => h
  go_loop [3, 4] (fun m i => ∃ d : Nat, (d ≤ n - 2) ∧ i = .int .i64 ((n : Int) - 3 - d) ∧ m = .int .i64 (coolD xs d : Int)) (fun _ i => (intOf i + 1).toNat)
  case atStart => exact ⟨0, Nat.zero_le _, by simp, by rw [coolD, ← HN.out]⟩
  case round =>
    obtain ⟨d, hd, rfl, rfl⟩ := hrel
    by_cases hlt : d < n - 2
    · obtain ⟨q, hq⟩ : ∃ q : Nat, (n : Int) - 3 - d = (q : Int) := ⟨n - 3 - d, by omega⟩
      have hq1 : q + 2 + d + 1 = n := by omega
      have HQ := hid hq
      have HCD := hid (show coolD xs (d + 1) = if xs.getD q 0 = 0 ∧ xs.getD (q + 1) 0 = 1 then q + 3 else coolD xs d by
        rw [coolD, ← HN.out, show n - 3 - d = q by omega, show n - d = q + 3 by omega])
      rw [hq]
      have hql : q < xs.length := by have := HN.out; omega
      have hql1 : q + 1 < xs.length := by have := HN.out; omega
      have hcx := HC.out q hql
      have hcy : w.cell? ⟨g, off + (q + 1), none⟩ = some (.int .i64 xs[q + 1]) := HC.out (q + 1) hql1
      rw [getD_at hql, getD_at hql1] at HCD
      obtain ⟨x, hx⟩ : ∃ x, x = xs[q] := ⟨_, rfl⟩
      obtain ⟨y, hy⟩ : ∃ y, y = xs[q + 1] := ⟨_, rfl⟩
      rw [← hx, ← hy] at HCD
      rw [← hx] at hcx
      rw [← hy] at hcy
      have h0 : (0 : Int) ≤ (q : Int) := by omega
      have h1 : (q : Int) < (n : Int) := by omega
      have h2 : (0 : Int) ≤ (q : Int) + 1 := by omega
      have h3 : (q : Int) + 1 < (n : Int) := by omega
      have h4 : ((q : Int) + 1).toNat = q + 1 := by omega
      have HNX := hid (show (n : Int) - 3 - ((d + 1 : Nat) : Int) = (q : Int) - 1 by omega)
      have hmb := HDL.out
      have hdl := coolD_le xs d
      obtain ⟨md, hmd⟩ : ∃ md, md = coolD xs d := ⟨_, rfl⟩
      rw [← hmd] at HCD hdl ⊢
      clear hq hx hy hmd
      cases hx0 : (x == 0) with
      | true =>
        cases hy1 : (y == 1) with
        | true =>
          have HE := hid (show coolD xs (d + 1) = q + 3 by rw [HCD.out, if_pos ⟨by simpa using hx0, by simpa using hy1⟩])
          go_wp2_with fail
          go_round
          case rel => exact ⟨d + 1, by omega, by rw [HNX.out], by rw [HE.out]; go_num⟩
          case measure => simp [intOf] <;> omega
        | false =>
          have HE := hid (show coolD xs (d + 1) = md by rw [HCD.out, if_neg (fun h => by rw [h.2] at hy1; simp at hy1)])
          go_wp2_with fail
          go_round
          case rel => exact ⟨d + 1, by omega, by rw [HNX.out], by rw [HE.out]⟩
          case measure => simp [intOf] <;> omega
      | false =>
        have HE := hid (show coolD xs (d + 1) = md by rw [HCD.out, if_neg (fun h => by rw [h.1] at hx0; simp at hx0)])
        go_wp2_with fail
        go_round
        case rel => exact ⟨d + 1, by omega, by rw [HNX.out], by rw [HE.out]⟩
        case measure => simp [intOf] <;> omega
    · obtain rfl : d = n - 2 := by omega
      have hneg : ¬ (0 : Int) ≤ (n : Int) - 3 - ((n - 2 : Nat) : Int) := by omega
      obtain ⟨z, hz⟩ : ∃ z : Int, z = (n : Int) - 3 - ((n - 2 : Nat) : Int) := ⟨_, rfl⟩
      rw [← hz] at hneg ⊢
      have hmle := HDL.out
      rw [← HN.out] at hmle
      have HMM := hid (show coolM xs = coolD xs (n - 2) by rw [coolM, HN.out])
      obtain ⟨m, hmm⟩ : ∃ m, m = coolD xs (n - 2) := ⟨_, rfl⟩
      rw [← hmm] at hmle HMM ⊢
      clear hz hmm
      cases m with
      | zero =>
        have HV := hid (show coolL xs = [] by rw [coolL, if_pos HMM.out])
        rw [show ((0 : Nat) : Int) = 0 from rfl]
        go_wp2_with fail
        go_ret
        exact ⟨_, rfl, by rw [HV.out]; exact Own.nil _ _, Below.refl _ _⟩
      | succ k =>
        have hkn : k < n := by omega
        have hkl : k < xs.length := by have := HN.out; omega
        have HV := hid (show coolL xs = [xs[k]] ++ xs.take k ++ xs.drop (k + 1) by rw [coolL, HMM.out, if_neg (by omega), show k + 1 - 1 = k from rfl, getD_at hkl])
        have hcx : w.drew.cell? ⟨g, off + k, none⟩ = some (.int .i64 xs[k]) := HC.out k hkl
        obtain ⟨x, hx⟩ : ∃ x, x = xs[k] := ⟨_, rfl⟩
        rw [← hx] at hcx HV
        have h0 : (0 : Int) ≤ (k : Int) := by omega
        have h1 : (k : Int) < (n : Int) := by omega
        have h2 : (k : Int) ≤ (n : Int) := by omega
        have h3 : (k : Int) ≤ (c : Int) := by omega
        have h5 : (n : Int) ≤ (c : Int) := by omega
        have h6 : k ≤ c := by omega
        have h7 : (0 : Int) ≤ (k : Int) + 1 := by omega
        have h8 : (k : Int) + 1 ≤ (n : Int) := by omega
        have h9 : ((k : Int) + 1).toNat = k + 1 := by omega
        have hne : ((k : Int) + 1 == 0) = false := beq_false_of_ne (by omega)
        have hww : IntKind.i64.wrap ((k : Int) + 1 - 1) = (k : Int) := by rw [show (k : Int) + 1 - 1 = k by omega]; exact IntWalk.i64_in _ (by omega)
        have hwk : IntKind.i64.wrap (k : Int) = (k : Int) := IntWalk.i64_in _ (by omega)
        have hcast : ((k + 1 : Nat) : Int) = (k : Int) + 1 := rfl
        have HLIT := hid ((Own.lit9 w.drew x).row)
        have HB0 := hid (show Below w.heap.size w (w.drew.alloc (.cells #[.int .i64 x] 3)) from (Below.refl _ _).drew.alloc (Nat.le_refl _) _)
        have HSRC := hid (show ∀ (j : Nat) (u : Value), ((xs.take k).map (Value.int .i64))[j]? = some u → (w.drew.alloc (.cells #[.int .i64 x] 3)).cell? ((⟨g, off, none⟩ : Addr).add j) = some u from
          Sits.src (n := 0) (c := 0) (fun i hi => by
            have hi2 : i < xs.length := by simp at hi; omega
            rw [(HB0.out.cell (by exact hb)).trans (HC.out i hi2)]
            simp))
        have HTL := hid (show ((xs.take k).map (Value.int .i64)).length = k * 1 by simp; omega)
        have HTK := hid (show k = (xs.take k).length by simp; omega)
        have hA : 1 + k ≤ maxLen := by unfold maxLen; omega
        have hB : (1 + k) * 8 ≤ 140737488355328 := by omega
        have hbs : w.heap.size ≤ (w.drew.alloc (.cells #[.int .i64 x] 3)).heap.size := HB0.out.size
        clear hx
        rw [hcast]
        go_wp2_with fail
        go_region_law
          (first
            | (refine step_append_any _ rfl _ _ _ rfl w.heap.size 3 i0 (.int .i64 0) 1 8 Try.underlying22 hi hz0 hz1 hz2 rfl Nat.zero_lt_one (.slice (some ⟨w.heap.size, 0, none⟩) 1 1) 1 [.int .i64 x] rfl HLIT.out ⟨g, off, none⟩ k c ((xs.take k).map (Value.int .i64)) rfl HTL.out HSRC.out (ints_one _) hA hB hbs ?_; intro v2 w2 hown2 hgrow2 hnil2)
            | fail)
        have HO2 := hid (show Own w2 w.heap.size v2 ([x] ++ xs.take k) from Own.more2 (xs := [x]) rfl HTK.out hown2)
        have HB2 := hid (HB0.out.grown hgrow2 hbs (fun q hq => by cases hq; exact Nat.le_refl _))
        have hs2 := HB2.out.size
        clear hown2 hgrow2 hnil2
        have HL2 := hid (show ([x] ++ xs.take k).length = k + 1 by simp; omega)
        have HDL2 := hid (show n - (k + 1) = (xs.drop (k + 1)).length by rw [List.length_drop, ← HN.out])
        have hA2 : k + 1 + (n - (k + 1)) ≤ maxLen := by unfold maxLen; omega
        have hB2 : (k + 1 + (n - (k + 1))) * 8 ≤ 140737488355328 := by omega
        by_cases hcap : c = k + 1
        · have HDR := hid (show xs.drop (k + 1) = [] from List.drop_eq_nil_of_le (by have := HN.out; omega))
          have hA3 : k + 1 + 0 ≤ maxLen := by unfold maxLen; omega
          have hB3 : (k + 1 + 0) * 8 ≤ 140737488355328 := by omega
          subst hcap
          have hle : (n : Int) ≤ (k : Int) + 1 := by omega
          have hle2 : n ≤ k + 1 := hc1
          have hrf : (k : Int) + 1 ≤ (k : Int) + 1 := Int.le_refl _
          go_wp2_with (first
            | (at_builtin; refine wpList_append_own _ rfl (.tmp 43) (.tmp 46) 22 rfl w.heap.size 3 i0 (.int .i64 0) 1 8 Try.underlying22 hi hz0 hz1 hz2 rfl (by decide) _ _ _ rfl HO2.out.row ⟨g, off, none⟩ 0 0 [] rfl rfl nil_src nil_one (by rw [HL2.out]; exact hA3) (by rw [HL2.out]; exact hB3) hs2 ?_; intro v3 w3 hown3 hgrow3 hn3; have HO3 := hid (show Own w3 w.heap.size v3 (([x] ++ xs.take k) ++ []) from Own.more2 (ys := []) rfl rfl hown3); have HB3 := hid (HB2.out.grown hgrow3 hs2 (fun q hq => (World.ownsRow.lt HO2.out q hq).1)); clear hown3 hgrow3 hn3)
            | fail)
          go_ret
          exact ⟨_, rfl, by rw [HV.out, HDR.out]; exact HO3.out, HB3.out⟩
        · have hck : k + 1 < c := by omega
          have hck1 : (k : Int) + 1 < (c : Int) := by omega
          have hck2 : (k : Int) + 1 ≤ (c : Int) := by omega
          have HSR2 := hid (show ∀ (j : Nat) (u : Value), ((xs.drop (k + 1)).map (Value.int .i64))[j]? = some u → w2.cell? ((⟨g, off + (k + 1), none⟩ : Addr).add j) = some u from
            Sits.src (n := 0) (c := 0) (fun i hi => by
              have hi2 : k + 1 + i < xs.length := by simp at hi; omega
              rw [Nat.add_assoc, (HB2.out.cell (by exact hb)).trans (HC.out (k + 1 + i) hi2)]
              simp))
          have HNL := hid (show ((xs.drop (k + 1)).map (Value.int .i64)).length = (n - (k + 1)) * 1 by rw [List.length_map, ← HDL2.out, Nat.mul_one])
          go_wp2_with (first
            | (at_builtin; refine wpList_append_own _ rfl (.tmp 43) (.tmp 46) 22 rfl w.heap.size 3 i0 (.int .i64 0) 1 8 Try.underlying22 hi hz0 hz1 hz2 rfl (by decide) _ _ _ rfl HO2.out.row ⟨g, off + (k + 1), none⟩ (n - (k + 1)) (c - (k + 1)) ((xs.drop (k + 1)).map (Value.int .i64)) rfl HNL.out HSR2.out (ints_one _) (by rw [HL2.out]; exact hA2) (by rw [HL2.out]; exact hB2) hs2 ?_; intro v3 w3 hown3 hgrow3 hn3; have HO3 := hid (show Own w3 w.heap.size v3 (([x] ++ xs.take k) ++ xs.drop (k + 1)) from Own.more2 rfl HDL2.out hown3); have HB3 := hid (HB2.out.grown hgrow3 hs2 (fun q hq => (World.ownsRow.lt HO2.out q hq).1)); clear hown3 hgrow3 hn3)
            | fail)
          go_ret
          exact ⟨_, rfl, by rw [HV.out]; exact HO3.out, HB3.out⟩
def ncRes (xs : List Int) : List Int := if isBits xs = true then coolL xs else []
theorem bound_NextCool (xs : List Int) : (ncRes xs).length ≤ 1048576 := by
  unfold ncRes; split
  · rename_i h
    rw [isBits, Bool.and_eq_true, decide_eq_true_eq] at h
    rw [coolL_length]; omega
  · simp
theorem spec_NextCool_any (v : Value) (xs : List Int) (w : World) (h : Sits w v xs) (hl : xs.length ≤ 1048576) (_hwf : ∀ x ∈ xs, (Lit.int .i64 x).wf = true) :
    Calls Try.prog 46 #[v] w fun e w' => ∃ u, e = .returned (.tuple #[u, .bool (isBits xs)]) ∧ Own w' w.heap.size u (ncRes xs) ∧ Below w.heap.size w w' := by
  have HS := hid h
  cases hi2 : isBits xs with
  | false =>
    have HI := hid hi2
    have HR := hid (show ncRes xs = [] by rw [ncRes, if_neg (by rw [hi2]; simp)])
    clear hi2 h _hwf
    go_enter Try.func46, Try.ntmps46
    go_wp2_with (first | (go_at_call 80; refine (chAreBits_any _ xs _ HS.out).mono ?_; rintro e w1 ⟨rfl, rfl⟩; rw [HI.out]) | fail)
    go_ret2
    exact ⟨_, rfl, by rw [HR.out]; exact Own.nil _ _, Below.refl _ _⟩
  | true =>
    have HI := hid hi2
    have HR := hid (show ncRes xs = coolL xs by rw [ncRes, if_pos hi2])
    clear hi2 h _hwf
    go_enter Try.func46, Try.ntmps46
    go_wp2_with (first | (go_at_call 80; refine (chAreBits_any _ xs _ HS.out).mono ?_; rintro e w1 ⟨rfl, rfl⟩; rw [HI.out]) | (go_at_call 82; refine (chCool_any _ xs _ HS.out hl).mono ?_; rintro e w1 ⟨u, rfl, ho1, hb1⟩; have HO1 := hid ho1; have HB1 := hid hb1; clear ho1 hb1) | fail)
    go_ret2
    exact ⟨_, rfl, by rw [HR.out]; exact HO1.out, HB1.out⟩
end Go.Proofs.Ytijjdidljoicfaa
