/- Contracts: both CountCodes functions. Conditions: the table of math/bits holds what the program's text lays. -/
import Derived.Test.YtijjdidljoicfaaDoorCntI
namespace Go.Proofs.YtijjdidljoicfaaDoor
open Go.RowKit
set_option linter.unusedVariables false

def ccA (n : Int) : Int := if inB n 1 3 = true then (ccS n.toNat).1 else 0
def ccR (n : Int) : Int := if inB n 1 3 = true then (ccS n.toNat).2 else 0
abbrev litObj : Obj := .cells #[.int .i64 0] 3
theorem lit_box (w : World) : (w.alloc litObj).rowIs w.heap.size 3 1 (fun _ => .int .i64 0) :=
  World.rowIs_alloc w #[.int .i64 0] 3 _ (fun i hi => by
    have h : i = 0 := by simp at hi; exact hi
    subst h; rfl)
theorem lit_own (w : World) : Own (w.alloc litObj) w.heap.size (.slice (some ⟨w.heap.size, 0, none⟩) 1 1) [0] := by
  refine ⟨rfl, .inr ⟨w.heap.size, 1, #[.int .i64 0], rfl, Nat.le_refl _, heap_alloc_new w _, Nat.le_refl _, by unfold maxLen; omega, rfl, rfl⟩⟩
theorem cc_start (w w3 : World) (ws : List Int) (ht : TZ w) (ho : Own w3 ((w.alloc litObj).alloc litObj).heap.size (.slice (some ⟨((w.alloc litObj).alloc litObj).heap.size, 0, none⟩) ws.length ws.length) ws)
    (hb : Below ((w.alloc litObj).alloc litObj).heap.size ((w.alloc litObj).alloc litObj) w3) :
    CCO w w.heap.size (w.heap.size + 1 + 1) w.heap.size (w.heap.size + 1) w3.heap.size ∧
      CCJ w w.heap.size (w.heap.size + 1 + 1) w.heap.size (w.heap.size + 1) w3.heap.size ws (w3.alloc litObj) (0, 0) ∧ Own (w3.alloc litObj) w3.heap.size (.slice (some ⟨w3.heap.size, 0, none⟩) 1 1) [0] := by
  have h1 : 1 < w.heap.size := World.block_lt_of_cell? w _ (ht 0 (by omega))
  have hs2 : ((w.alloc litObj).alloc litObj).heap.size = w.heap.size + 1 + 1 := by simp
  rw [hs2] at ho
  have hgw := (World.ownsRow.lt ho _ rfl).2
  have B2 : Below w.heap.size w ((w.alloc litObj).alloc litObj) := ((Below.refl _ _).alloc (Nat.le_refl _) _).alloc (by simp) _
  have B3 : Below w.heap.size w w3 := B2.trans (hb.mono (by omega))
  have r1 := ((lit_box w).alloc litObj).of_block (hb.block w.heap.size (by omega))
  have r2 := lit_box (w.alloc litObj)
  have hs1 : (w.alloc litObj).heap.size = w.heap.size + 1 := by simp
  rw [hs1] at r2
  have r2 := r2.of_block (hb.block (w.heap.size + 1) (by omega))
  refine ⟨⟨h1, Nat.le_refl _, Nat.lt_succ_self _, by omega, hgw, Nat.le_refl _⟩, ⟨?_, ?_, r1.alloc _, r2.alloc _, B3.alloc (by have := B3.size; omega) _⟩, lit_own w3⟩
  · exact (ht.below B3).below ((Below.refl w3.heap.size w3).alloc (Nat.le_refl _) _)
  · exact (Own.below ho ((Below.refl w3.heap.size w3).alloc (Nat.le_refl _) litObj)).sits
theorem small_zero : small [0] := by
  intro i hi
  have h : i = 0 := by simpa using hi
  subst h
  exact ⟨0, rfl, by omega⟩
theorem upTo_words (n : Nat) (hn : n ≤ 1024) : ∀ i (hi : i < (upTo n).length), 0 ≤ (upTo n)[i] ∧ (upTo n)[i] < 1024 := by
  intro i hi
  simp only [upTo, List.getElem_map, List.getElem_range]
  have : i < n := by simpa [upTo] using hi
  omega
set_option maxHeartbeats 1000000 in
theorem impl_CountCodes_any (n : Int) (w : World) (_wn : (Lit.int .i64 n).wf = true) (ht : TZ w) :
    Calls Tryd.prog 12 #[.int .i64 n] w fun e w' => e = .returned (.tuple #[.int .i64 (ccA n), .int .i64 (ccR n), .bool (inB n 1 3)]) ∧ Below w.heap.size w w' := by
  by_cases hin : inB n 1 3 = true
  · obtain ⟨m, rfl, hm1, hm3⟩ : ∃ m : Nat, n = (m : Int) ∧ 1 ≤ m ∧ m ≤ 3 := by
      have := inB_iff.1 hin
      exact ⟨n.toNat, by omega, by omega, by omega⟩
    obtain ⟨ws, hws⟩ : ∃ ws, ws = upTo (2 ^ m) := ⟨_, rfl⟩
    have hl : ws.length = 2 ^ m := by rw [hws, upTo_length]
    have hp1 := pow_le_1024 m (by omega)
    have hp0 := Nat.two_pow_pos m
    have HWS := hid (show upTo ws.length = ws by rw [hl, hws])
    have HSAME := hid (show (wlk ws visC (ws.length - 1) [0] (0, 0)).1 = true ∧ (wlk ws visC (ws.length - 1) [0] (0, 0)).2 = ccS m by
      obtain ⟨h1, h2⟩ := cc_same m (by omega) hm1
      rw [hl, hws]; exact ⟨h2, h1⟩)
    have HB := hid (show ∀ i (hi : i < ws.length), 0 ≤ ws[i] ∧ ws[i] < 1024 by subst hws; exact upTo_words _ hp1)
    rw [← hl] at hp1 hp0
    have hsh : IntKind.i64.wrap (2 ^ m) = (ws.length : Int) := by
      rw [← pow_int, ← hl]
      exact IntWalk.i64_in _ (by omega)
    have hm64 : min m 64 = m := by omega
    have HLM := hid (show [(0 : Int)].length + (ws.length - 1) = ws.length by simp; omega)
    have HSM := hid small_zero
    have HA := hid (show ccA (m : Int) = (ccS m).1 by rw [ccA, if_pos hin]; rfl)
    have HR := hid (show ccR (m : Int) = (ccS m).2 by rw [ccR, if_pos hin]; rfl)
    have HIN := hid hin
    have HT := hid ht
    obtain ⟨s, hs⟩ : ∃ s, s = ccS m := ⟨_, rfl⟩
    rw [← hs] at HA HR HSAME
    obtain ⟨s1, s2⟩ := s
    clear hs hin ht _wn hl hws
    go_enter Tryd.func12, Tryd.ntmps12
    go_wp2_with (first
      | (go_at_call 27; refine (firstNumbers_any ws.length _ (by omega)).mono ?_; rintro e w3 ⟨rfl, ho3, hb3⟩; rw [HWS.out] at ho3; have HST := hid (cc_start w w3 ws HT.out ho3 hb3); clear ho3 hb3)
      | (go_at_call 23; refine (walk_CountCodes ws visC (CCJ w w.heap.size (w.heap.size + 1 + 1) w.heap.size (w.heap.size + 1) w3.heap.size ws) w3.heap.size (w.heap.size + 1 + 1) 0 ws.length ⟨w.heap.size, 0, none⟩ ⟨w.heap.size + 1, 0, none⟩ HB.out hp0 hp1 (fun _ _ _ _ hj hg hr => hj.kept HST.out.1 hg hr) (fun _ _ hj => ⟨hj.tz, hj.sits⟩) (fun _ _ _ _ _ hj ho hpl hsm _ => visC_any w _ _ _ _ _ ws HST.out.1 _ _ _ _ _ hj ho hsm (by omega) (by omega)) (ws.length - 1) [0] _ (0, 0) _ HLM.out HST.out.2.2 HST.out.2.1 HSM.out (by simp : w3.heap.size ≤ (w3.alloc litObj).heap.size)).mono ?_; rintro e w5 ⟨rfl, hj5, _, _⟩; rw [HSAME.out.2] at hj5; have hc1 := hj5.c1.cell (i := 0) (by omega); have hc2 := hj5.c2.cell (i := 0) (by omega); have HB5 := hid hj5.bel; clear hj5)
      | fail)
    go_quiet (fail)
    go_wp2_with fail
    go_ret3
    rw [HA.out, HR.out, HIN.out]
    exact ⟨rfl, below_drewN HB5.out _⟩
  · have hin : inB n 1 3 = false := by simpa using hin
    have HIN := hid hin
    have HA := hid (show ccA n = 0 by rw [ccA, if_neg (by rw [hin]; simp)])
    have HR := hid (show ccR n = 0 by rw [ccR, if_neg (by rw [hin]; simp)])
    have hcase : n < 1 ∨ (¬ n < 1 ∧ 3 < n) := by
      rcases Int.lt_or_le n 1 with h | h
      · exact .inl h
      · refine .inr ⟨by omega, ?_⟩
        apply Classical.byContradiction
        intro h3
        rw [inB_iff.2 ⟨h, by omega⟩] at hin
        cases hin
    clear hin
    rcases hcase with h | ⟨h, h3⟩
    all_goals
      go_enter Tryd.func12, Tryd.ntmps12
      go_wp2_with fail
      go_ret3
      first | rw [HA.out, HR.out, HIN.out] | rw [HA.out, HR.out]
      exact ⟨rfl, Below.refl _ _⟩
theorem spec_CountCodes_any (n : Int) (w : World) (_wn : (Lit.int .i64 n).wf = true) (_ht : TZ w) :
    Calls Tryd.prog 11 #[.int .i64 n] w fun e w' => e = .returned (.tuple #[.int .i64 (ccA n), .int .i64 (ccR n), .bool (inB n 1 3)]) ∧ Below w.heap.size w w' := by
  cases hin : inB n 1 3 with
  | true =>
    obtain ⟨m, rfl, hm1, hm3⟩ : ∃ m : Nat, n = (m : Int) ∧ 1 ≤ m ∧ m ≤ 3 := by
      have := inB_iff.1 hin
      exact ⟨n.toNat, by omega, by omega, by omega⟩
    have HA := hid (show ccA (m : Int) = (ccS m).1 by rw [ccA, if_pos hin]; rfl)
    have HR := hid (show ccR (m : Int) = (ccS m).2 by rw [ccR, if_pos hin]; rfl)
    have HIN := hid hin
    have hp0 := Nat.two_pow_pos m
    have HLM := hid (show [(0 : Int)].length + (2 ^ m - 1) = 2 ^ m by simp; omega)
    have HSM := hid small_zero
    have HSIT := hid (lit_own w).sits
    have HB := hid ((Below.refl w.heap.size w).alloc (Nat.le_refl _) litObj)
    clear hin _wn _ht hp0
    go_enter Tryd.func11, Tryd.ntmps11
    go_wp2_with (first
      | (go_at_call 14; refine (l1In_any _ _ _ _).mono ?_; rintro e w' ⟨rfl, rfl⟩; rw [HIN.out])
      | (go_at_call 26; refine (gcCount_any m hm1 hm3 (2 ^ m - 1) [0] _ _ HLM.out (by simp) HSIT.out HSM.out).mono ?_; rintro e w1 ⟨rfl, hb1⟩; have HB1 := hid hb1; clear hb1)
      | fail)
    go_ret3
    rw [HA.out, HR.out]
    exact ⟨rfl, HB.out.trans (HB1.out.mono (by simp))⟩
  | false =>
    have HIN := hid hin
    have HA := hid (show ccA n = 0 by rw [ccA, if_neg (by rw [hin]; simp)])
    have HR := hid (show ccR n = 0 by rw [ccR, if_neg (by rw [hin]; simp)])
    clear hin
    go_enter Tryd.func11, Tryd.ntmps11
    go_wp2_with (first
      | (go_at_call 14; refine (l1In_any _ _ _ _).mono ?_; rintro e w' ⟨rfl, rfl⟩; rw [HIN.out])
      | fail)
    go_ret3
    rw [HA.out, HR.out]
    exact ⟨rfl, Below.refl _ _⟩
end Go.Proofs.YtijjdidljoicfaaDoor
