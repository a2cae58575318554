/- Contracts: the closures of balancedWordsOf, the shape itself, isPairCount, spBalanced. Conditions: numbers within the stated ranges; slices that read as lists of at most 2^20 numbers. -/
import Derived.Test.YtakelcboamjndaaBalM
import Derived.Test.YtakelcboamjndaaBs2
import Derived.Test.YtakelcboamjndaaOwnE
namespace Go.Proofs.Ytakelcboamjndaa
open Go.RowKit Go.Maps
set_option linter.unusedVariables false
set_option maxRecDepth 4000

theorem Own.lit2 (w : World) (x y : Int) : Own (w.alloc (.cells #[.int .i64 x, .int .i64 y] 3)) w.heap.size (.slice (some ⟨w.heap.size, 0, none⟩) 2 2) [x, y] :=
  World.ownsRow_lit w #[.int .i64 x, .int .i64 y] 2 (Nat.le_refl _) (by unfold maxLen; omega) rfl
theorem blCh_any (l b : Nat) (w : World) (hd : blD l b) (h0 : l ≠ 0) :
    Calls Try.prog 93 #[rv l b] w fun e w' => ∃ u, e = .returned u ∧ Own w' w.heap.size u (blCh l b) ∧ Below w.heap.size w w' := by
  have hbx := rs_box w l b
  have HB0 := hid ((Below.refl w.heap.size w).alloc (Nat.le_refl _) (rsObj l b))
  have HS := hid (show w.heap.size ≤ (w.alloc (rsObj l b)).heap.size by simp)
  obtain ⟨g0, g1⟩ := hbx
  clear hd h0
  by_cases hb : b = 0
  · have HC := hid (show blCh l b = [1] by unfold blCh; rw [if_pos hb])
    have e0 : ((b : Int) == 0) = true := by simp; omega
    clear hb
    go_enter Try.func93, Try.ntmps93
    go_wp2_with fail
    go_ret
    refine ⟨_, rfl, ?_, HB0.out.alloc HS.out _⟩
    have h := (Own.lit1 (w.alloc (rsObj l b)) 1).mono HS.out
    rw [HC.out]
    simpa using h
  · have e0 : ((b : Int) == 0) = false := by simp; omega
    by_cases hl : b = l
    · have HC := hid (show blCh l b = [0] by unfold blCh; rw [if_neg hb, if_pos hl])
      have e1 : ((b : Int) == (l : Int)) = true := by simp; omega
      clear hb hl
      go_enter Try.func93, Try.ntmps93
      go_wp2_with fail
      go_ret
      refine ⟨_, rfl, ?_, HB0.out.alloc HS.out _⟩
      have h := (Own.lit1 (w.alloc (rsObj l b)) 0).mono HS.out
      rw [HC.out]
      simpa using h
    · have HC := hid (show blCh l b = [0, 1] by unfold blCh; rw [if_neg hb, if_neg hl])
      have e1 : ((b : Int) == (l : Int)) = false := by simp; omega
      clear hb hl
      go_enter Try.func93, Try.ntmps93
      go_wp2_with fail
      go_ret
      refine ⟨_, rfl, ?_, HB0.out.alloc HS.out _⟩
      have h := (Own.lit2 (w.alloc (rsObj l b)) 0 1).mono HS.out
      rw [HC.out]
      simpa using h
theorem blBe_any (l b : Nat) (x : Int) (w : World) (hd : blD l b) (h0 : l ≠ 0) (hx : x ∈ blCh l b) :
    Calls Try.prog 94 #[rv l b, .int .i64 x] w fun e w' => e = .returned (rv (blNl l b x) (blNb l b x)) ∧ Below w.heap.size w w' := by
  have hm := bl_mem hd h0 hx
  unfold blD at hd
  have hbx := rs_box w l b
  have HB0 := hid ((Below.refl w.heap.size w).alloc (Nat.le_refl _) (rsObj l b))
  have u2 : IntKind.i64.wrap ((l : Int) - 1) = (l : Int) - 1 := IntWalk.i64_in _ (by omega)
  have HE := hid (show ((blNl l b x : Nat) : Int) = (l : Int) - 1 by unfold blNl; omega)
  rw [HE.out]
  obtain ⟨g0, g1⟩ := hbx
  rcases hm with ⟨rfl, hb⟩ | ⟨rfl, hb⟩
  · have HM := hid (show ((blNb l b 0 : Nat) : Int) = (b : Int) - 1 by unfold blNb; rw [if_neg (by decide)]; omega)
    have u1 : IntKind.i64.wrap ((b : Int) - 1) = (b : Int) - 1 := IntWalk.i64_in _ (by omega)
    rw [HM.out]
    clear hd h0 hx hb
    go_enter Try.func94, Try.ntmps94
    go_wp2_with fail
    go_returns
    exact ⟨rfl, HB0.out.alloc (by simp) _⟩
  · have HM := hid (show ((blNb l b 1 : Nat) : Int) = (b : Int) + 1 by unfold blNb; rw [if_pos rfl]; omega)
    have u1 : IntKind.i64.wrap ((b : Int) + 1) = (b : Int) + 1 := IntWalk.i64_in _ (by omega)
    rw [HM.out]
    clear hd h0 hx hb
    go_enter Try.func94, Try.ntmps94
    go_wp2_with fail
    go_returns
    exact ⟨rfl, HB0.out.alloc (by simp) _⟩
theorem blShC : ShC 93 94 blD blCh blNl blNb where
  choices l b w h h0 := blCh_any l b w h h0
  behind l b x w h h0 hx := blBe_any l b x w h h0 hx
  dom l b x h h0 hx := bl_dom h h0 hx
  len l b h := by
    unfold blCh
    split
    · simp
    · split <;> simp
theorem balancedWordsOf_any (n l : Nat) (w : World) (hl : l = 2 * n) (hn : n ≤ 1000) :
    Calls Try.prog 74 #[.int .i64 (n : Int)] w fun e w' => e = .returned (shV l 0 (fnV 93) (fnV 94) (kF (w.heap.size + 1))) ∧ KEnv w' (w.heap.size + 1) (fnV 93) (fnV 94) ∧
      w'.ownsMap Try.prog 44 (plainElem (H := Unit) Try.prog 3) (w.heap.size + 1 + 4) 0 (.map []) ∧ Below w.heap.size w w' := by
  have hsz : (w.alloc shNil).heap.size = w.heap.size + 1 := by simp
  have HB0 := hid ((Below.refl w.heap.size w).alloc (Nat.le_refl _) shNil)
  have HBX := hid (sh_row w)
  have u1 : IntKind.i64.wrap (2 * (n : Int)) = (l : Int) := by rw [IntWalk.i64_in _ (by omega)]; omega
  have u2 : 2 * (n : Int) = (l : Int) := by omega
  have hc := shapeOf_any l 0 (fnV 93) (fnV 94) _ _ (w.alloc shNil) rfl rfl
  rw [hsz] at hc
  have HC := hid hc
  have HSZ := hid hsz
  clear hc hsz hl
  go_enter Try.func74, Try.ntmps74
  go_wp2_with (first
    | (go_at_call 84; refine HC.out.mono ?_; rintro e w1 ⟨rfl, he, hm, hb⟩; have HE := hid he; have HM := hid hm; have HB := hid hb; have hr1 := HBX.out.of_block (hb.block w.heap.size (by omega)); have HR := hid hr1; have hc0 := hr1.cell (i := 0) (by omega); have hc1 := hr1.cell (i := 1) (by omega); have hc2 := hr1.cell (i := 2) (by omega); have hc3 := hr1.cell (i := 3) (by omega); have hc4 := hr1.cell (i := 4) (by omega); have hf0 := hr1.frozen 0; have hf1 := hr1.frozen 1; have hf2 := hr1.frozen 2; have hf3 := hr1.frozen 3; have hf4 := hr1.frozen 4; clear he hm hb hr1)
    | fail)
  have hs0 := row_same HR.out (i := 0) (by omega) (.int .i64 (l : Int))
  have hs1 := row_same (HR.out.set 0 (.int .i64 (l : Int))) (i := 1) (by omega) (.int .i64 0)
  have hs2 := row_same ((HR.out.set 0 (.int .i64 (l : Int))).set 1 (.int .i64 0)) (i := 2) (by omega) (fnV 93)
  have hs3 := row_same (((HR.out.set 0 (.int .i64 (l : Int))).set 1 (.int .i64 0)).set 2 (fnV 93)) (i := 3) (by omega) (fnV 94)
  have hs4 := row_same ((((HR.out.set 0 (.int .i64 (l : Int))).set 1 (.int .i64 0)).set 2 (fnV 93)).set 3 (fnV 94)) (i := 4) (by omega) (kF (w.heap.size + 1))
  refine bodyPost_ret (v := shV l 0 (fnV 93) (fnV 94) (kF (w.heap.size + 1))) (by simp [results, Try.results74, hs0, hs1, hs2, hs3, hs4, go_sem]; try rfl) rfl ?_
  refine ⟨rfl, ?_, ?_, ?_⟩
  · exact ((((HE.out.setCell (by omega)).setCell (by omega)).setCell (by omega)).setCell (by omega)).setCell (by omega)
  · exact ((((HM.out.setCell (by show _ ≠ w.heap.size; omega) _).setCell (by show _ ≠ w.heap.size; omega) _).setCell (by show _ ≠ w.heap.size; omega) _).setCell (by show _ ≠ w.heap.size; omega) _).setCell (by show _ ≠ w.heap.size; omega) _
  · exact (((((HB0.out.trans (HB.out.mono (by omega))).setCell (p := ⟨w.heap.size, 0, none⟩) (Nat.le_refl _) _).setCell (p := ⟨w.heap.size, 1, none⟩) (Nat.le_refl _) _).setCell (p := ⟨w.heap.size, 2, none⟩) (Nat.le_refl _) _).setCell (p := ⟨w.heap.size, 3, none⟩) (Nat.le_refl _) _).setCell (p := ⟨w.heap.size, 4, none⟩) (Nat.le_refl _) _
theorem isPairCount_any (n : Int) (w : World) : Calls Try.prog 73 #[.int .i64 n] w fun e w' => e = .returned (.bool (inB n 0 12)) ∧ w = w' := by
  by_cases h1 : 0 ≤ n
  · by_cases h2 : n ≤ 12
    · have HF := hid (show inB n 0 12 = true from inB_iff.2 ⟨h1, h2⟩)
      go_enter Try.func73, Try.ntmps73
      go_wp2_with fail
      go_ret
      exact ⟨ret_bool HF.out.symm, rfl⟩
    · have HF := hid (show inB n 0 12 = false by simp [inB]; omega)
      go_enter Try.func73, Try.ntmps73
      go_wp2_with fail
      go_ret
      exact ⟨ret_bool HF.out.symm, rfl⟩
  · have HF := hid (show inB n 0 12 = false by simp [inB]; omega)
    go_enter Try.func73, Try.ntmps73
    go_wp2_with fail
    go_ret
    exact ⟨ret_bool HF.out.symm, rfl⟩
theorem spBalanced_any (v : Value) (xs : List Int) (w : World) (h : Reads w v xs) (hl : xs.length ≤ 1048576) :
    Calls Try.prog 72 #[v] w fun e w' => e = .returned (.bool (blB xs)) ∧ w = w' := by
  obtain ⟨ao, c, rfl, hc1, hm, h⟩ := h.view
  rcases h with h | ⟨b, off, rfl, hb, hc⟩
  · subst h
    go_enter Try.func72, Try.ntmps72
    go_wp2
    refine wp_loop_rounds 1 ?_
    rw [rounds_succ]
    go_wp2_with fail
    go_ret
    exact ⟨rfl, rfl⟩
  · have HC := hid hc
    clear hc
    go_enter Try.func72, Try.ntmps72
    go_wp2
    go_loop [3, 8] (fun o i => ∃ k t : Nat, k ≤ xs.length ∧ i = .int .i64 k ∧ o = .int .i64 (t : Int) ∧ t ≤ k ∧ blOk (xs.drop k) t = blOk xs 0) (fun _ i => xs.length - (intOf i).toNat)
    case atStart => exact ⟨0, 0, Nat.zero_le _, rfl, rfl, Nat.le_refl _, rfl⟩
    case round =>
      obtain ⟨k, t, hk, rfl, rfl, ht, hall⟩ := hrel
      have HA := hid hall
      clear hall
      by_cases hlt : k < xs.length
      · have hcx := HC.out k hlt
        obtain ⟨x, hx⟩ : ∃ x, x = xs[k] := ⟨_, rfl⟩
        have HX := hid (show xs.drop k = x :: xs.drop (k + 1) by rw [List.drop_eq_getElem_cons hlt, hx])
        rw [← hx] at hcx
        clear hx
        cases hin : inB x 0 1
        · have HF := hid (show blB xs = false by unfold blB; rw [← HA.out, HX.out, blOk, hin]; simp)
          go_wp2_with (first | (go_at_call 55; refine (l1In_any _ _ _ _).mono ?_; rintro e w' ⟨rfl, rfl⟩; rw [hin]) | fail)
          go_ret
          exact ⟨ret_bool HF.out.symm, rfl⟩
        · have hx01 : x = 0 ∨ x = 1 := by have := inB_iff.1 hin; omega
          rcases hx01 with rfl | rfl
          · by_cases h0 : t = 0
            · subst h0
              have HF := hid (show blB xs = false by unfold blB; rw [← HA.out, HX.out, blOk, hin]; simp)
              go_wp2_with (first | (go_at_call 55; refine (l1In_any _ _ _ _).mono ?_; rintro e w' ⟨rfl, rfl⟩; rw [hin]) | fail)
              go_ret
              exact ⟨ret_bool HF.out.symm, rfl⟩
            · have HF := hid (show blOk (xs.drop (k + 1)) ((t - 1 : Nat) : Int) = blOk xs 0 by
                rw [← HA.out, HX.out, blOk, hin, show decide (0 ≤ (t : Int) + (2 * 0 - 1)) = true by simp; omega, show (t : Int) + (2 * 0 - 1) = ((t - 1 : Nat) : Int) by omega]; simp)
              have HT := hid (show (t : Int) + -1 = ((t - 1 : Nat) : Int) by omega)
              have hneg : decide ((t : Int) + -1 < 0) = false := decide_eq_false (by omega)
              go_wp2_with (first | (go_at_call 55; refine (l1In_any _ _ _ _).mono ?_; rintro e w' ⟨rfl, rfl⟩; rw [hin]) | fail)
              go_round
              case rel => exact ⟨k + 1, t - 1, by omega, by go_num, by rw [← HT.out], by omega, HF.out⟩
              case measure => simp [intOf]; omega
          · have HF := hid (show blOk (xs.drop (k + 1)) ((t + 1 : Nat) : Int) = blOk xs 0 by
              rw [← HA.out, HX.out, blOk, hin, show decide (0 ≤ (t : Int) + (2 * 1 - 1)) = true by simp; omega, show (t : Int) + (2 * 1 - 1) = ((t + 1 : Nat) : Int) by omega]; simp)
            have hneg : decide ((t : Int) + 1 < 0) = false := decide_eq_false (by omega)
            go_wp2_with (first | (go_at_call 55; refine (l1In_any _ _ _ _).mono ?_; rintro e w' ⟨rfl, rfl⟩; rw [hin]) | fail)
            go_round
            case rel => exact ⟨k + 1, t + 1, by omega, by go_num, by push_cast; rfl, by omega, HF.out⟩
            case measure => simp [intOf]; omega
      · obtain rfl : k = xs.length := by omega
        have HE := hid (show blOk xs 0 = ((t : Int) == 0) by rw [← HA.out, List.drop_length, blOk])
        by_cases h0 : t = 0
        · subst h0
          by_cases h24 : xs.length ≤ 24
          · have HF := hid (show decide ((xs.length : Int) ≤ 24) = blB xs by unfold blB; rw [HE.out]; simp [h24]; omega)
            go_wp2_with fail
            go_ret
            exact ⟨ret_bool HF.out, rfl⟩
          · have HF := hid (show decide ((xs.length : Int) ≤ 24) = blB xs by unfold blB; simp [h24]; omega)
            go_wp2_with fail
            go_ret
            exact ⟨ret_bool HF.out, rfl⟩
        · have HF := hid (show blB xs = false by unfold blB; rw [HE.out]; simp; omega)
          have e0 : ((t : Int) == 0) = false := by simp; omega
          go_wp2_with fail
          go_ret
          exact ⟨ret_bool HF.out.symm, rfl⟩
end Go.Proofs.Ytakelcboamjndaa
