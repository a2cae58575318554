/- Contracts: the rank of a window by its order (a closure of ordersOf), ordersOf; suOrders. Conditions: n from 2 to 4. -/
import Derived.Test.YteimfdpkodcfbaaPair1
import Derived.Test.YteimfdpkodcfbaaPair2
import Derived.Test.YteimfdpkodcfbaaOr1
import Derived.Test.YteimfdpkodcfbaaPrk
namespace Go.Proofs.Yteimfdpkodcfbaa
open Go.RowKit Go.Maps
set_option linter.unusedVariables false
set_option maxRecDepth 4000

/-- the rank of a window, and whether its numbers differ -/
def rkO (l : List Int) : Int := (rankR (ordR l) : Int)
def okO (l : List Int) : Bool := ordB l
theorem ordR_len {l : List Int} (h : ordB l = true) : (ordR l).length = l.length := by rw [ordR_yes h, lesL_length]
theorem fact_le4 : ∀ n : Nat, n < 5 → 1 ≤ fact n ∧ fact n ≤ 24 := by decide
theorem fact_le12 : ∀ n : Nat, n < 13 → fact n ≤ 479001600 := by decide
theorem rkO_wf (l : List Int) : (Lit.int .i64 (rkO l)).wf = true := by
  unfold rkO
  have h1 := rankR_lt (ordR l)
  have h2 : (ordR l).length ≤ 12 := by
    cases h : ordB l with
    | false => rw [ordR_no h]; simp
    | true =>
      rw [ordR_len h]
      rcases Nat.lt_or_ge 12 l.length with q | q
      · rw [ordB_far (by omega)] at h; simp at h
      · exact q
  have h3 := fact_le12 _ (Nat.lt_succ_of_le h2)
  exact WalkArith.wf_i64 (by omega)
theorem rkO_lt {l : List Int} (h : okO l = true) : 0 ≤ rkO l ∧ rkO l < (fact l.length : Int) := by
  unfold rkO
  have h1 := rankR_lt (ordR l)
  rw [ordR_len h] at h1
  omega
theorem permutationRank_nil (w : World) :
    Calls Try.prog 145 #[.slice none 0 0] w fun e w' => e = .returned (.int .i64 0) ∧ w = w' := by
  go_enter Try.func145, Try.ntmps145
  go_wp2_with fail
  go_loop [3, 8] (fun n i => i = .int .i64 0 ∧ n = .int .i64 0) (fun _ _ => 0)
  case atStart => exact ⟨rfl, rfl⟩
  case round =>
    obtain ⟨rfl, rfl⟩ := hrel
    go_wp2_with fail
    go_ret
    exact ⟨rfl, rfl⟩
theorem permutationRank_own (B : Nat) (v : Value) (xs : List Int) (w : World) (h : Own w B v xs) (h12 : xs.length ≤ 12) :
    Calls Try.prog 145 #[v] w fun e w' => e = .returned (.int .i64 (rankR xs : Int)) ∧ w = w' := by
  rcases h.form with ⟨rfl, rfl⟩ | ⟨g, cap, rfl, _⟩
  · exact permutationRank_nil w
  · exact permutationRank_any _ xs w h.sits h12
theorem ordRank_any (v : Value) (xs : List Int) (w : World) (h : Sits w v xs) (hl : xs.length ≤ 12) (hwf : ∀ n ∈ xs, (Lit.int .i64 n).wf = true) :
    Calls Try.prog 143 #[v] w fun e w' => e = .returned (.tuple #[.int .i64 (rkO xs), .bool (okO xs)]) ∧ Below w.heap.size w w' := by
  have HS := hid h
  have HWF := hid hwf
  have HL := hid (show (ordR xs).length ≤ 12 by
    cases h : ordB xs with
    | false => rw [ordR_no h]; simp
    | true => rw [ordR_len h]; exact hl)
  have hl6 : xs.length ≤ 1048576 := by omega
  clear h hwf
  go_enter Try.func143, Try.ntmps143
  go_wp2_with (first
    | (go_at_call 145; (refine (permutationRank_own _ _ (ordR xs) _ HO.out HL.out).mono ?_); (rintro e w2 ⟨rfl, rfl⟩))
    | (go_at_call 144; (refine (impl_OrderOf_any _ xs _ HS.out hl6 HWF.out).mono ?_); (rintro e w1 ⟨u, rfl, ho, hb⟩); (have HO := hid ho); (have HB := hid hb); (clear ho hb))
    | fail)
  go_ret2
  exact ⟨rfl, HB.out⟩
theorem ord_clo {n N : Nat} {ws : List Int} {w1 : World} (hn : n ≤ 4) (h1 : 1 ≤ n) (hwf : ∀ n ∈ ws, (Lit.int .i64 n).wf = true) :
    ∀ (W : World) (x : Value) (B : Nat) (ys : List Int), (∃ l ∈ winL (upTo N) n, ys = pkL ws l) → Own W B x ys → Below w1.heap.size w1 W → Calls Try.prog 143 #[x] W fun e w' => e = .returned (.tuple #[.int .i64 (rkO ys), .bool (okO ys)]) ∧ Below W.heap.size W w' := by
  intro W x B ys hys ho hb
  obtain ⟨l, hl, rfl⟩ := hys
  have hlen : (pkL ws l).length = n := by
    obtain ⟨i, _, rfl⟩ := List.mem_map.1 hl
    rw [pkL_length, arL_len]
  obtain ⟨g, m, c, rfl⟩ := Own.shape ho (by omega)
  refine ordRank_any _ _ W ho.sits (by omega) (fun z hz => ?_)
  obtain ⟨p, _, rfl⟩ := List.mem_map.1 hz
  by_cases hi : p.toNat < ws.length
  · rw [getD_at hi]; exact hwf _ (List.getElem_mem hi)
  · rw [List.getD_eq_getElem?_getD, List.getElem?_eq_none (by omega)]; decide
theorem ordersOf_any (n N : Nat) (w : World) (hn : inB (n : Int) 2 4 = true) (hN : N = fact n) :
    Calls Try.prog 99 #[.int .i64 (n : Int)] w fun e w' => ∃ g, e = .returned (.agg #[.slice (some ⟨g, 0, none⟩) N N, .func (.func 143) #[] #[]]) ∧ SitsL w' (.slice (some ⟨g, 0, none⟩) N N) (winL (upTo N) n) ∧ Below w.heap.size w w' := by
  have h1 := inB_iff.1 hn
  have hf := fact_le4 n (by omega)
  rw [← hN] at hf
  obtain ⟨hN1, hN2⟩ := hf
  have HNF := hid hN
  have hn13 : n < 13 := by omega
  have hn2048 : n ≤ 2048 := by omega
  obtain ⟨w1, hw1⟩ : ∃ w1, w1 = w.alloc (.cells #[.slice none 0 0, .nilFunc] 82) := ⟨_, rfl⟩
  have HB1 := hid (show Below w.heap.size w w1 by rw [hw1]; exact (Below.refl _ _).alloc (Nat.le_refl _) _)
  have HS1 := hid (show w1.heap.size = w.heap.size + 1 by rw [hw1]; simp)
  have HR1 := hid (show w1.rowIs w.heap.size 82 2 (fun i => if i = 0 then .slice none 0 0 else .nilFunc) by rw [hw1]; exact lay_row _ _ rfl)
  have HW1 := hid hw1
  have hN6 : N ≤ 1048576 := by omega
  have hN7 : (upTo N).length ≤ 2048 := by rw [upTo_length]; omega
  have hN8 : 1 ≤ (upTo N).length := by rw [upTo_length]; omega
  clear hw1 hN h1
  go_enter Try.func99, Try.ntmps99
  go_wp2_with (first
    | (go_at_call 132; (refine (windowsOf_any _ (upTo N) n _ HO2.out.sits hn2048 hN8 hN7).mono ?_); (rintro e w3 ⟨g, rfl, hs3, hb3⟩); (rw [upTo_length] at hs3); (rw [upTo_length]); (have HL3 := hid hs3); (have HB3 := hid (Below_chain HB2.out hb3)); (have HSZ := hid (Nat.le_trans (Nat.le_of_eq HS1.out.symm) (HB3.out.size)));
        (have hr := HR1.out.of_block (HB3.out.block w.heap.size (by have := HS1.out; omega))); (have HR := hid hr); (have hc0 : w3.cell? ⟨w.heap.size, 0, none⟩ = some (.slice none 0 0) := by have := hr.cell (i := 0) (by omega); simpa using this); (have hc1 : w3.cell? ⟨w.heap.size, 1, none⟩ = some .nilFunc := by have := hr.cell (i := 1) (by omega); simpa using this); (have hf0 := hr.frozen 0); (have hf1 := hr.frozen 1); (clear hs3 hb3 hr))
    | (go_at_call 75; (refine (firstNumbers_any N _ hN6).mono ?_); (rintro e w2 ⟨rfl, ho2, hb2⟩); (have HO2 := hid ho2); (have HB2 := hid hb2); (clear ho2 hb2))
    | (go_at_call 119; (rw [← HW1.out]); (refine (factorial_any n _ hn13).mono ?_); (rintro e w' ⟨rfl, rfl⟩); (rw [← HNF.out]))
    | fail)
  have hs0 := row_same9 HR.out (i := 0) (by omega) (.slice (some ⟨g, 0, none⟩) N N)
  have hs1 := row_same9 (HR.out.set 0 (.slice (some ⟨g, 0, none⟩) N N)) (i := 1) (by omega) (.func (.func 143) #[] #[])
  refine bodyPost_ret (v := .agg #[.slice (some ⟨g, 0, none⟩) N N, .func (.func 143) #[] #[]]) (by simp [results, Try.results99, hs0, hs1, go_sem]; try rfl) rfl ?_
  have hB := ((HB1.out.trans (HB3.out.mono (by have := HS1.out; omega))).setCell (p := ⟨w.heap.size, 0, none⟩) (Nat.le_refl _) (.slice (some ⟨g, 0, none⟩) N N)).setCell (p := ⟨w.heap.size, 1, none⟩) (Nat.le_refl _) (.func (.func 143) #[] #[])
  exact ⟨g, rfl, HL3.out.stay9 (lay_cells HR.out) (set2_other _ _ _ _) (by simp), hB⟩
end Go.Proofs.Yteimfdpkodcfbaa
