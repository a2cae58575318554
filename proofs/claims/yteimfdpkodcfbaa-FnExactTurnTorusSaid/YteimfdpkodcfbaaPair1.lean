/- Contracts: the rank of a pair (a closure of pairsOf), pairsOf. Conditions: n from 2 to 11. -/
import Derived.Test.YteimfdpkodcfbaaPcM
import Derived.Test.YteimfdpkodcfbaaMx
import Derived.Test.YteimfdpkodcfbaaMet
import Derived.Test.YteimfdpkodcfbaaCRank
import Derived.Test.YteimfdpkodcfbaaBr2
import Derived.Test.YteimfdpkodcfbaaSu1
import Derived.Laws.EntriesVeiled
namespace Go.Proofs.Yteimfdpkodcfbaa
open Go.RowKit Go.Maps
set_option linter.unusedVariables false
set_option maxRecDepth 4000

theorem Own_lit2x (w : World) (x y : Int) : Own (w.alloc (.cells #[.int .i64 x, .int .i64 y] 3)) w.heap.size (.slice (some ⟨w.heap.size, 0, none⟩) 2 2) [x, y] :=
  World.ownsRow_lit w #[.int .i64 x, .int .i64 y] 2 (Nat.le_refl _) (by unfold maxLen; omega) rfl
theorem lo_wf {x y : Int} (hx : (Lit.int .i64 x).wf = true) (hy : (Lit.int .i64 y).wf = true) : (Lit.int .i64 (loP [x, y])).wf = true := by
  rw [lo_two]; split <;> assumption
theorem hi_wf {x y : Int} (hx : (Lit.int .i64 x).wf = true) (hy : (Lit.int .i64 y).wf = true) : (Lit.int .i64 (hiP [x, y])).wf = true := by
  rw [hi_two]; split <;> assumption
theorem pairRank_any (n : Int) (b0 : Nat) (v : Value) (x y : Int) (w : World) (hn : (Lit.int .i64 n).wf = true) (hpa : w.cell? ⟨b0, 0, none⟩ = some (.int .i64 n)) (hlt : b0 < w.heap.size) (h : Sits w v [x, y]) (hx : (Lit.int .i64 x).wf = true) (hy : (Lit.int .i64 y).wf = true) :
    Calls Try.prog 133 #[v, .pointer (some ⟨b0, 0, none⟩)] w fun e w' => e = .returned (.tuple #[.int .i64 (rkP n [x, y]), .bool (okP n [x, y])]) ∧ Below w.heap.size w w' := by
  have HX := hid hx
  have HY := hid hy
  have HN := hid hn
  have HP := hid hpa
  have HS := hid (h.below ((Below.refl w.heap.size w).drew))
  obtain ⟨b, off, c, rfl, hc1, hm, hb, hc⟩ := h
  clear hc hx hy hn
  have HD := hid (Below.refl w.heap.size w).drew
  have HRK := hid (show crRes n [loP [x, y], hiP [x, y]] = rkP n [x, y] from rfl)
  have HOK := hid (show combB n [loP [x, y], hiP [x, y]] = okP n [x, y] from rfl)
  have HLO := hid (show mnT [x, y] ([x, y].length - 1) = loP [x, y] from rfl)
  have HHI := hid (show mxT [x, y] ([x, y].length - 1) = hiP [x, y] from rfl)
  have HWL := hid (lo_wf HX.out HY.out)
  have HWH := hid (hi_wf HX.out HY.out)
  obtain ⟨lo, hlo⟩ : ∃ lo, lo = loP [x, y] := ⟨_, rfl⟩
  obtain ⟨hi, hhi⟩ : ∃ hi, hi = hiP [x, y] := ⟨_, rfl⟩
  rw [← hlo] at HRK HOK HLO HWL
  rw [← hhi] at HRK HOK HHI HWH
  clear hlo hhi
  have HW2 := hid (show ∀ z ∈ [lo, hi], (Lit.int .i64 z).wf = true by
    intro z hz
    simp only [List.mem_cons, List.not_mem_nil, or_false] at hz
    rcases hz with rfl | rfl
    · exact HWL.out
    · exact HWH.out)
  have HL2 := hid (show [lo, hi].length ≤ 1048576 by simp)
  have HSL := hid (show Sits (w.drew.alloc (.cells #[.int .i64 lo, .int .i64 hi] 3)) (.slice (some ⟨w.drew.heap.size, 0, none⟩) 2 2) [lo, hi] from (Own_lit2x w.drew lo hi).sits)
  have HBL := hid (show Below w.heap.size w (w.drew.alloc (.cells #[.int .i64 lo, .int .i64 hi] 3)) from (Below.refl _ _).drew.alloc (Nat.le_refl _) _)
  go_enter Try.func133, Try.ntmps133
  go_wp2_with fail
  go_region_held3 (fun w' => w'.cell? ⟨b0, 0, none⟩ = some (.int .i64 n))
    (first | exact HP.out | exact (HB3.out.cell (by exact hlt)).trans HP.out | go_keep | fail)
    (first
      | (go_at_call 134; (refine (impl_CombinationRank_any n _ [lo, hi] _ HN.out HSL.out HL2.out HW2.out).mono ?_); (rintro e w3 ⟨rfl, hb3⟩); (rw [HRK.out, HOK.out]); (have HB3 := hid (Below_chain HBL.out hb3)); (clear hb3))
      | (go_at_call 135; (refine (Min_any _ [x, y] _ HS.out (by simp) (by simp)).mono ?_); (rintro e w2 ⟨rfl, rfl⟩); (rw [HLO.out]))
      | (go_at_call 136; (refine (Max_any _ [x, y] _ HS.out (by simp) (by simp)).mono ?_); (rintro e w2 ⟨rfl, rfl⟩); (rw [HHI.out]))
      | fail)
  go_wp2_with fail
  go_ret2
  exact ⟨rfl, HB3.out⟩
theorem chooseZ_two : ∀ n : Nat, n < 12 → 2 ≤ n → chooseZ (n : Int) 2 = n * (n - 1) / 2 ∧ 1 ≤ n * (n - 1) / 2 ∧ n * (n - 1) / 2 ≤ 55 := by decide +kernel
theorem row_same9 {w : World} {g n i : Nat} {T : TypeId} {f : Nat → Value} (h : w.rowIs g T n f) (hi : i < n) (v : Value) : (w.setCell ⟨g, i, none⟩ v).cell? ⟨g, i, none⟩ = some v := by
  have := (h.set i v).cell hi
  simpa using this
theorem SitsL.stay9 {w w' : World} {v : Value} {PL : List (List Int)} {q : Nat} (h : SitsL w v PL) (hq : ∀ off y, w.cell? ⟨q, off, none⟩ = some y → (∀ k z, y ≠ .int k z) ∧ (∀ a n c, y ≠ .slice (some a) n c))
    (hst : ∀ b off, b ≠ q → w'.cell? ⟨b, off, none⟩ = w.cell? ⟨b, off, none⟩) (hsz : w.heap.size ≤ w'.heap.size) : SitsL w' v PL := by
  obtain ⟨b, off, c, rfl, h1, h2, h3, h4⟩ := h
  refine ⟨b, off, c, rfl, h1, h2, Nat.lt_of_lt_of_le h3 hsz, fun i hi => ?_⟩
  obtain ⟨u, hu, b', off', c', rfl, k1, k2, k3, k4⟩ := h4 i hi
  refine ⟨_, ?_, b', off', c', rfl, k1, k2, Nat.lt_of_lt_of_le k3 hsz, fun t ht => ?_⟩
  · by_cases e : b = q
    · subst e; exact absurd rfl ((hq _ _ hu).2 _ _ _)
    · rw [hst _ _ e]; exact hu
  · by_cases e : b' = q
    · subst e; exact absurd rfl ((hq _ _ (k4 t ht)).1 _ _)
    · rw [hst _ _ e]; exact k4 t ht
theorem set2_other (w : World) (q : Nat) (x y : Value) (b off : Nat) (h : b ≠ q) : ((w.setCell ⟨q, 0, none⟩ x).setCell ⟨q, 1, none⟩ y).cell? ⟨b, off, none⟩ = w.cell? ⟨b, off, none⟩ := by
  rw [World.cell?_setCell_other _ _ _ _ (by intro e; injection e; omega), World.cell?_setCell_other _ _ _ _ (by intro e; injection e; omega)]
theorem lay_cells {w : World} {q : Nat} {T : TypeId} (h : w.rowIs q T 2 (fun i => if i = 0 then .slice none 0 0 else .nilFunc)) : ∀ off y, w.cell? ⟨q, off, none⟩ = some y → (∀ k z, y ≠ .int k z) ∧ (∀ a n c, y ≠ .slice (some a) n c) := by
  intro off y hy
  by_cases ho : off < 2
  · rw [h.cell ho] at hy
    injection hy with hy
    subst hy
    by_cases e : off = 0
    · simp [e]
    · simp [e]
  · exfalso
    obtain ⟨c, hb, hs, hv⟩ := h
    unfold World.cell? at hy
    have hn : c[off]? = none := Array.getElem?_eq_none (by omega)
    simp [hb, hn] at hy
theorem lay_row (w : World) (g : Nat) (hg : g = w.heap.size) : (w.alloc (.cells #[.slice none 0 0, .nilFunc] 82)).rowIs g 82 2 (fun i => if i = 0 then .slice none 0 0 else .nilFunc) := by
  subst hg
  exact World.rowIs_alloc w #[.slice none 0 0, .nilFunc] 82 _ (fun t ht => by
    match t, ht with
    | 0, _ => rfl | 1, _ => rfl
    | t + 2, h => exact absurd h (by simp))
theorem pairsOf_any (n N : Nat) (w : World) (hn : inB (n : Int) 2 11 = true) (hN : N = n * (n - 1) / 2) :
    Calls Try.prog 90 #[.int .i64 (n : Int)] w fun e w' => ∃ g, e = .returned (.agg #[.slice (some ⟨g, 0, none⟩) N N, .func (.func 133) #[] #[.pointer (some ⟨w.heap.size, 0, none⟩)]]) ∧ SitsL w' (.slice (some ⟨g, 0, none⟩) N N) (winL (upTo N) 2) ∧ w'.cell? ⟨w.heap.size, 0, none⟩ = some (.int .i64 (n : Int)) ∧ w.heap.size < w'.heap.size ∧ Below w.heap.size w w' := by
  have h1 := inB_iff.1 hn
  obtain ⟨hc, hN1, hN2⟩ := chooseZ_two n (by omega) (by omega)
  rw [← hN] at hc hN1 hN2
  have hm1 : (-1 : Int) ≤ (n : Int) := by omega
  have hm2 : (n : Int) < 13 := by omega
  have HCH := hid hc
  have hcz : chooseZ (n : Int) 2 = ((N : Nat) : Int) := by rw [hc]
  have HCZ := hid hcz
  clear hc hN hcz h1
  obtain ⟨w1, hw1⟩ : ∃ w1, w1 = (w.alloc (.cells #[.int .i64 (n : Int)] 3)).alloc (.cells #[.slice none 0 0, .nilFunc] 82) := ⟨_, rfl⟩
  have HB1 := hid (show Below w.heap.size w w1 by rw [hw1]; exact ((Below.refl _ _).alloc (Nat.le_refl _) _).alloc (by simp) _)
  have HS1 := hid (show w1.heap.size = w.heap.size + 2 by rw [hw1]; simp)
  have HC1 := hid (show w1.cell? ⟨w.heap.size, 0, none⟩ = some (.int .i64 (n : Int)) by rw [hw1]; simp)
  have HR1 := hid (show w1.rowIs (w.heap.size + 1) 82 2 (fun i => if i = 0 then .slice none 0 0 else .nilFunc) by rw [hw1]; exact lay_row _ _ (by simp))
  have HW1 := hid hw1
  have hN6 : N ≤ 1048576 := by omega
  have hN7 : (upTo N).length ≤ 2048 := by rw [upTo_length]; omega
  have hN8 : 1 ≤ (upTo N).length := by rw [upTo_length]; omega
  clear hw1
  go_enter Try.func90, Try.ntmps90
  go_wp2_with (first
    | (go_at_call 132; (refine (windowsOf_any _ (upTo N) 2 _ HO2.out.sits (by omega) hN8 hN7).mono ?_); (rintro e w3 ⟨g, rfl, hs3, hb3⟩); (rw [upTo_length] at hs3); (rw [upTo_length]); (have HL3 := hid hs3); (have HB3 := hid (Below_chain HB2.out hb3)); (have HSZ := hid (Nat.le_trans (Nat.le_of_eq HS1.out.symm) (HB3.out.size)));
        (have hr := HR1.out.of_block (HB3.out.block (w.heap.size + 1) (by have := HS1.out; omega))); (have HR := hid hr); (have hc0 : w3.cell? ⟨w.heap.size + 1, 0, none⟩ = some (.slice none 0 0) := by have := hr.cell (i := 0) (by omega); simpa using this); (have hc1 : w3.cell? ⟨w.heap.size + 1, 1, none⟩ = some .nilFunc := by have := hr.cell (i := 1) (by omega); simpa using this); (have hf0 := hr.frozen 0); (have hf1 := hr.frozen 1); (clear hs3 hb3 hr))
    | (go_at_call 75; (refine (firstNumbers_any N _ hN6).mono ?_); (rintro e w2 ⟨rfl, ho2, hb2⟩); (have HO2 := hid ho2); (have HB2 := hid hb2); (clear ho2 hb2))
    | (go_at_call 137; (rw [← HW1.out]); (refine (choose_any _ _ _ hm1 hm2).mono ?_); (rintro e w' ⟨rfl, rfl⟩); (rw [HCH.out]))
    | fail)
  have hs0 := row_same9 HR.out (i := 0) (by omega) (.slice (some ⟨g, 0, none⟩) N N)
  have hs1 := row_same9 (HR.out.set 0 (.slice (some ⟨g, 0, none⟩) N N)) (i := 1) (by omega) (.func (.func 133) #[] #[.pointer (some ⟨w.heap.size, 0, none⟩)])
  refine bodyPost_ret (v := .agg #[.slice (some ⟨g, 0, none⟩) N N, .func (.func 133) #[] #[.pointer (some ⟨w.heap.size, 0, none⟩)]]) (by simp [results, Try.results90, hs0, hs1, go_sem]; try rfl) rfl ?_
  have hsz := HSZ.out
  have hB := ((HB1.out.trans (HB3.out.mono (by have := HS1.out; omega))).setCell (p := ⟨w.heap.size + 1, 0, none⟩) (Nat.le_succ _) (.slice (some ⟨g, 0, none⟩) N N)).setCell (p := ⟨w.heap.size + 1, 1, none⟩) (Nat.le_succ _) (.func (.func 133) #[] #[.pointer (some ⟨w.heap.size, 0, none⟩)])
  refine ⟨g, rfl, HL3.out.stay9 (lay_cells HR.out) (set2_other _ _ _ _) (by simp), ?_, by simp; omega, hB⟩
  rw [set2_other _ _ _ _ _ _ (by omega)]
  exact (HB3.out.cell (by show w.heap.size < w1.heap.size; have := HS1.out; omega)).trans HC1.out
end Go.Proofs.Yteimfdpkodcfbaa
