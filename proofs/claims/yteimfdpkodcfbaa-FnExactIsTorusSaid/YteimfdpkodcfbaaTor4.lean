/- Contracts: the rank of a window of a torus (a closure of squaresOf), squaresOf. Conditions: numbers of rows that divide 16. -/
import Derived.Test.YteimfdpkodcfbaaTor3
import Derived.Test.YteimfdpkodcfbaaPair1
import Derived.Test.YteimfdpkodcfbaaRep
import Derived.Test.YteimfdpkodcfbaaDig4
import Derived.Laws.EntriesVeiled
import Derived.BigQuiet
namespace Go.Proofs.Yteimfdpkodcfbaa
open Go.RowKit
set_option linter.unusedVariables false
set_option maxRecDepth 4000

theorem sqRank_any (pb : Nat) (v vb : Value) (ys : List Int) (w : World) (hpb : w.cell? ⟨pb, 0, none⟩ = some vb) (hb : Sits w vb bs4) (h : Sits w v ys) :
    Calls Try.prog 148 #[v, .pointer (some ⟨pb, 0, none⟩)] w fun e w' => e = .returned (.tuple #[.int .i64 (rkS ys), .bool (okS ys)]) ∧ Below w.heap.size w w' := by
  have HS := hid h
  have HB := hid hb
  obtain ⟨b1, o1, c1, rfl, _⟩ := hb
  obtain ⟨b2, o2, c2, rfl, _⟩ := h
  go_enter Try.func148, Try.ntmps148
  go_wp2_with (first
    | (go_at_call 130; (refine (impl_RankOfDigits_any _ _ bs4 ys _ HB.out HS.out).mono ?_); (rintro e w2 ⟨rfl, hb2⟩); (have HB2 := hid hb2); (clear hb2))
    | fail)
  go_ret2
  exact ⟨rfl, HB2.out⟩
/-- the rows that are laid -/
structure SqR (w : World) (g k n c : Nat) (h : Nat → Nat) : Prop where
  row : w.rowIs g 22 16 (fun t => if t < k then .slice (some ⟨h t, 0, none⟩) 4 4 else .slice none 0 0)
  own : ∀ t, t < k → g < h t ∧ h t < w.heap.size ∧ ∀ q, q < 4 → w.cell? ⟨h t, q, none⟩ = some (.int .i64 ((sqT n c t).getD q 0))
theorem SqR.sits {w : World} {g n c : Nat} {h : Nat → Nat} (hr : SqR w g 16 n c h) : SitsL w (.slice (some ⟨g, 0, none⟩) 16 16) (sqsL n c) := by
  refine ⟨g, 0, 16, by rw [sqsL_len], by rw [sqsL_len]; exact Nat.le_refl _, by omega, hr.row.lt, fun i hi => ?_⟩
  rw [sqsL_len] at hi
  refine ⟨.slice (some ⟨h i, 0, none⟩) 4 4, ?_, ?_⟩
  · rw [Nat.zero_add, hr.row.cell hi, if_pos hi]
  · have e : (sqsL n c)[i]'(by rw [sqsL_len]; exact hi) = sqT n c i := by simp [sqsL]
    rw [e]
    exact ⟨h i, 0, 4, rfl, by simp [sqT], by omega, (hr.own i hi).2.1, fun q hq => by
      have hq4 : q < 4 := by simpa [sqT] using hq
      rw [Nat.zero_add, (hr.own i hi).2.2 q hq4, getD_at hq]⟩
theorem SqR.drewN {w : World} {g k n c : Nat} {h : Nat → Nat} (hr : SqR w g k n c h) (q : Nat) : SqR (w.drewN q) g k n c h :=
  ⟨hr.row.of_block (w' := w.drewN q) rfl, fun t ht => hr.own t ht⟩
theorem SqR.next {w w3 : World} {g k n c : Nat} {h : Nat → Nat} {a b d e : Int} (hr : SqR w g k n c h) (hk : k < 16) (hs : sqT n c k = [a, b, d, e]) (h3 : w3 = w.alloc (.cells #[.int .i64 a, .int .i64 b, .int .i64 d, .int .i64 e] 3)) :
    SqR (w3.setCell ⟨g, k, none⟩ (.slice (some ⟨w.heap.size, 0, none⟩) 4 4)) g (k + 1) n c (fun t => if t = k then w.heap.size else h t) := by
  have hb : Below w.heap.size w w3 := by rw [h3]; exact (Below.refl _ _).alloc (Nat.le_refl _) _
  have hglt := hr.row.lt
  have hsz : w3.heap.size = w.heap.size + 1 := by rw [h3]; simp
  refine ⟨((hr.row.of_block (hb.block g hglt)).set k _).congr (fun t ht => ?_), fun t ht => ?_⟩
  · by_cases e : t = k
    · rw [if_pos e, if_pos (by omega), if_pos e]
    · rw [if_neg e]
      by_cases h2 : t < k
      · rw [if_pos h2, if_pos (by omega), if_neg e]
      · rw [if_neg h2, if_neg (by omega)]
  · by_cases e : t = k
    · subst e
      rw [if_pos rfl]
      refine ⟨hglt, by simp; omega, fun q hq => ?_⟩
      rw [World.cell?_setCell_other _ _ _ _ (by intro e; injection e; omega), h3, hs]
      match q, hq with
      | 0, _ => simp
      | 1, _ => simp
      | 2, _ => simp
      | 3, _ => simp
    · rw [if_neg e]
      obtain ⟨k1, k2, k3⟩ := hr.own t (by omega)
      refine ⟨k1, by simp; omega, fun q hq => ?_⟩
      rw [World.cell?_setCell_other _ _ _ _ (by intro e; injection e; omega), hb.cell (p := ⟨h t, q, none⟩) (by exact k2)]
      exact k3 q hq
theorem run_make_rowsT (n : Nat) (hn : n ≤ 1048576) (w : World) : Sem.run Try.prog (Instr.makeSlice 28 (.int .i64 n) (.int .i64 n)) w = .ok (.slice (some ⟨w.heap.size, 0, none⟩) n n) (w.alloc (.cells (madeCells #[.slice none 0 0] n) 22)) := run_make_rowsW n hn w
set_option maxHeartbeats 2000000 in
theorem squaresOf_any (n c : Nat) (w : World) (hp : n * c = 16) :
    Calls Try.prog 107 #[.int .i64 (n : Int)] w fun e w' => ∃ g pb vb, e = .returned (.agg #[.slice (some ⟨g, 0, none⟩) 16 16, .func (.func 148) #[] #[.pointer (some ⟨pb, 0, none⟩)]]) ∧ SitsL w' (.slice (some ⟨g, 0, none⟩) 16 16) (sqsL n c) ∧ w'.cell? ⟨pb, 0, none⟩ = some vb ∧ pb < w'.heap.size ∧ Sits w' vb bs4 ∧ Below w.heap.size w w' := by
  have h1 : n ≠ 0 := fun e => by rw [e, Nat.zero_mul] at hp; omega
  have h2 : c ≠ 0 := fun e => by rw [e, Nat.mul_zero] at hp; omega
  have hn0 : ¬ n = 0 := h1
  have hc0 : ¬ c = 0 := h2
  have hn0i : ¬ (n : Int) = 0 := by omega
  have hc0i : ¬ (c : Int) = 0 := by omega
  have hn16 : n ≤ 16 := by
    have : n * 1 ≤ n * c := Nat.mul_le_mul_left _ (by omega)
    omega
  have hc16 : c ≤ 16 := by
    have : 1 * c ≤ n * c := Nat.mul_le_mul_right _ (by omega)
    omega
  have HP := hid hp
  have hq : 16 / n = c := by rw [← hp, Nat.mul_div_cancel_left _ (by omega)]
  have hqi : (16 : Int) / (n : Int) = (c : Int) := by rw [← hq, Int.natCast_ediv]; rfl
  have hqi2 : (16 : Int).tdiv (n : Int) = (c : Int) := by rw [Int.tdiv_eq_ediv_of_nonneg (by omega), hqi]
  obtain ⟨w1, hw1⟩ : ∃ w1, w1 = w.alloc (.cells #[.slice none 0 0, .nilFunc] 82) := ⟨_, rfl⟩
  have hB1 : Below w.heap.size w w1 := by rw [hw1]; exact (Below.refl _ _).alloc (Nat.le_refl _) _
  have hs1 : w1.heap.size = w.heap.size + 1 := by rw [hw1]; simp
  have HS1 := hid hs1
  have HR1 := hid (show w1.rowIs w.heap.size 82 2 (fun i => if i = 0 then .slice none 0 0 else .nilFunc) by rw [hw1]; exact lay_row _ _ rfl)
  have HW1 := hid hw1
  have HB1 := hid hB1
  have hmk : Sem.run Try.prog (Instr.makeSlice 28 (.int .i64 16) (.int .i64 16)) w1 = .ok (.slice (some ⟨w1.heap.size, 0, none⟩) 16 16) (w1.alloc (.cells (madeCells #[.slice none 0 0] 16) 22)) := run_make_rowsT 16 (by omega) w1
  obtain ⟨w2, hw2⟩ : ∃ w2, w2 = w1.alloc (.cells (madeCells #[.slice none 0 0] 16) 22) := ⟨_, rfl⟩
  have hB2 : Below w1.heap.size w1 w2 := by rw [hw2]; exact (Below.refl _ _).alloc (Nat.le_refl _) _
  have HB2 := hid hB2
  have HR2 := hid (show SqR w2 (w.heap.size + 1) 0 n c (fun _ => 0) from ⟨by
    rw [hw2, ← hs1]
    exact (World.rowIs_made w1 (.slice none 0 0) 16 22).congr (fun t ht => by simp), fun t ht => by omega⟩)
  rw [← hw2, hs1, HW1.out] at hmk
  have HS2 := hid (show w2.heap.size = w.heap.size + 1 + 1 by rw [hw2]; simp; omega)
  clear hp hq hw1 hB1 hs1 hw2 hB2 h1 h2
  go_enter Try.func107, Try.ntmps107
  go_wp2_with fail
  clear hmk
  go_loopw [5, 6, 7, 8, 9, 17] (fun _ _ _ _ _ i wr => ∃ (k : Nat) (h : Nat → Nat), i = .int .i64 (k : Int) ∧ k ≤ 16 ∧ SqR wr (w.heap.size + 1) k n c h ∧ Below w1.heap.size w1 wr) (fun _ _ _ _ _ i _ => 16 - (intOf i).toNat)
  case atStart => exact ⟨0, fun _ => 0, rfl, Nat.zero_le _, HR2.out, HB2.out⟩
  case round =>
    obtain ⟨k, h, rfl, hk, hsq, hbel⟩ := hrel
    have HSQ := hid hsq
    have HB := hid hbel
    clear hsq hbel
    by_cases hlt : k < 16
    · obtain ⟨i, hi⟩ : ∃ i, i = k / c := ⟨_, rfl⟩
      obtain ⟨j, hj⟩ : ∃ j, j = k % c := ⟨_, rfl⟩
      have hin : i < n := by rw [hi]; exact div_lt_n HP.out (by omega) hlt
      have hjc : j < c := by rw [hj]; exact Nat.mod_lt _ (by omega)
      obtain ⟨i2, hi2⟩ : ∃ i2, i2 = (i + 1) % n := ⟨_, rfl⟩
      obtain ⟨j2, hj2⟩ : ∃ j2, j2 = (j + 1) % c := ⟨_, rfl⟩
      have hi2n : i2 < n := by rw [hi2]; exact Nat.mod_lt _ (by omega)
      have hj2c : j2 < c := by rw [hj2]; exact Nat.mod_lt _ (by omega)
      have d1 : (k : Int) / (c : Int) = (i : Int) := by rw [hi, Int.natCast_ediv]
      have d1' : (k : Int).tdiv (c : Int) = (i : Int) := by rw [Int.tdiv_eq_ediv_of_nonneg (by omega), d1]
      have d2 : (k : Int) % (c : Int) = (j : Int) := by rw [hj, Int.natCast_emod]
      have d2' : (k : Int).tmod (c : Int) = (j : Int) := by rw [Int.tmod_eq_emod_of_nonneg (by omega), d2]
      have e1 : ((i : Int) + 1) % (n : Int) = (i2 : Int) := by rw [hi2, Int.natCast_emod]; rfl
      have e1' : ((i : Int) + 1).tmod (n : Int) = (i2 : Int) := by rw [Int.tmod_eq_emod_of_nonneg (by omega), e1]
      have e2 : ((j : Int) + 1) % (c : Int) = (j2 : Int) := by rw [hj2, Int.natCast_emod]; rfl
      have e2' : ((j : Int) + 1).tmod (c : Int) = (j2 : Int) := by rw [Int.tmod_eq_emod_of_nonneg (by omega), e2]
      obtain ⟨ic, hic⟩ : ∃ ic, ic = i * c := ⟨_, rfl⟩
      obtain ⟨kc, hkc⟩ : ∃ kc, kc = i2 * c := ⟨_, rfl⟩
      have f1 : (i : Int) * (c : Int) = (ic : Int) := by rw [hic, Int.natCast_mul]
      have f2 : (i2 : Int) * (c : Int) = (kc : Int) := by rw [hkc, Int.natCast_mul]
      have hic256 : ic ≤ 256 := by rw [hic]; exact Nat.mul_le_mul (show i ≤ 16 by omega) hc16
      have hkc256 : kc ≤ 256 := by rw [hkc]; exact Nat.mul_le_mul (show i2 ≤ 16 by omega) hc16
      have HSQT := hid (show sqT n c k = [(k : Int), (ic : Int) + (j2 : Int), (kc : Int) + (j : Int), (kc : Int) + (j2 : Int)] by
        unfold sqT
        rw [← hi, ← hj, ← hi2, ← hj2, ← hic, ← hkc]
        simp)
      clear hi hj hi2 hj2 hic hkc
      go_wp2_with fail
      go_quiet (fail)
      have HSQ1 := hid (HSQ.out.drewN nq)
      have HBN1 := hid (below_drewN HB.out nq)
      obtain ⟨W1, hW1⟩ : ∃ W, W = wr.drewN nq := ⟨_, rfl⟩
      rw [← hW1] at HSQ1 HBN1 ⊢
      clear hW1
      go_wp2_with fail
      go_quiet (fail)
      have HSQ2 := hid (HSQ1.out.drewN nq)
      have HBN2 := hid (below_drewN HBN1.out nq)
      obtain ⟨W, hW⟩ : ∃ W, W = W1.drewN nq := ⟨_, rfl⟩
      rw [← hW] at HSQ2 HBN2 ⊢
      clear hW
      obtain ⟨W3, hW3⟩ : ∃ W3, W3 = W.alloc (.cells #[.int .i64 (k : Int), .int .i64 ((ic : Int) + (j2 : Int)), .int .i64 ((kc : Int) + (j : Int)), .int .i64 ((kc : Int) + (j2 : Int))] 3) := ⟨_, rfl⟩
      have HW3 := hid hW3
      have hB3 : Below W.heap.size W W3 := by rw [hW3]; exact (Below.refl _ _).alloc (Nat.le_refl _) _
      have hrow3 := HSQ2.out.row.of_block (hB3.block _ HSQ2.out.row.lt)
      have hc3 : W3.cell? ⟨w.heap.size + 1, k, none⟩ = some (.slice none 0 0) := by have := hrow3.cell hlt; rwa [if_neg (by omega)] at this
      have hf3 := hrow3.frozen k
      rw [HW3.out] at hc3 hf3
      have HN := hid (HSQ2.out.next hlt HSQT.out hW3)
      have HB4 := hid (show Below w1.heap.size w1 (W3.setCell ⟨w.heap.size + 1, k, none⟩ (.slice (some ⟨W.heap.size, 0, none⟩) 4 4)) from (HBN2.out.trans (hB3.mono HBN2.out.size)).setCell (p := ⟨w.heap.size + 1, k, none⟩) (by show w1.heap.size ≤ w.heap.size + 1; rw [HS1.out]; exact Nat.le_refl _) _)
      rw [HW3.out] at HN HB4
      clear hW3 hB3 hrow3
      go_wp2_with fail
      go_roundw
      case rel => exact ⟨k + 1, _, by go_num, hlt, HN.out, HB4.out⟩
      case measure => simp [intOf]; omega
    · obtain rfl : k = 16 := by omega
      have hA := (Below.refl wr.heap.size wr).alloc (Nat.le_refl _) (.cells #[.int .i64 2] 3)
      have HA := hid hA
      have hc0 : (wr.alloc (.cells #[.int .i64 2] 3)).cell? ⟨wr.heap.size, 0, none⟩ = some (.int .i64 2) := by simp
      have hrep := Repeat_any 2 wr.heap.size 4 (by omega) (wr.alloc (.cells #[.int .i64 2] 3)) hc0 (by simp)
      have HREP := hid hrep
      clear hA hc0 hrep
      have hszA : (wr.alloc (.cells #[.int .i64 2] 3)).heap.size = wr.heap.size + 1 := by simp
      rw [hszA] at HREP
      have HSZA := hid hszA
      clear hszA
      go_wp2_with (first
        | (go_at_call 128; (refine HREP.out.mono ?_); (rintro e w5 ⟨rfl, ho5, hb5⟩); (have HO5 := hid ho5); (rw [← HSZA.out] at hb5); (have HB5 := hid (Below_chain HA.out hb5)); (have HBW5 := hid (Below_chain HB.out HB5.out));
            (have hA6 := (Below.refl w5.heap.size w5).alloc (Nat.le_refl _) (.cells #[.slice (some ⟨wr.heap.size + 1, 0, none⟩) 4 4] 22)); (have HA6 := hid hA6);
            (have hr6 := HR1.out.of_block ((Below_chain HBW5.out hA6).block w.heap.size (by rw [HS1.out]; omega))); (have HR6 := hid hr6);
            (have hc0 : (w5.alloc (.cells #[.slice (some ⟨wr.heap.size + 1, 0, none⟩) 4 4] 22)).cell? ⟨w.heap.size, 0, none⟩ = some (.slice none 0 0) := by have := hr6.cell (i := 0) (by omega); simpa using this); (have hc1 : (w5.alloc (.cells #[.slice (some ⟨wr.heap.size + 1, 0, none⟩) 4 4] 22)).cell? ⟨w.heap.size, 1, none⟩ = some .nilFunc := by have := hr6.cell (i := 1) (by omega); simpa using this); (have hf0 := hr6.frozen 0); (have hf1 := hr6.frozen 1); (clear ho5 hb5 hA6 hr6))
        | fail)
      have hs0 := row_same9 HR6.out (i := 0) (by omega) (.slice (some ⟨w.heap.size + 1, 0, none⟩) 16 16)
      have hs1 := row_same9 (HR6.out.set 0 (.slice (some ⟨w.heap.size + 1, 0, none⟩) 16 16)) (i := 1) (by omega) (.func (.func 148) #[] #[.pointer (some ⟨w5.heap.size, 0, none⟩)])
      refine bodyPost_ret (v := .agg #[.slice (some ⟨w.heap.size + 1, 0, none⟩) 16 16, .func (.func 148) #[] #[.pointer (some ⟨w5.heap.size, 0, none⟩)]]) (by simp [results, Try.results107, hs0, hs1, go_sem]; try rfl) rfl ?_
      have h5 := HBW5.out.size
      have h6 := HS1.out
      have hsit6 := (HSQ.out.sits.below HB5.out).below HA6.out
      refine ⟨w.heap.size + 1, w5.heap.size, .slice (some ⟨wr.heap.size + 1, 0, none⟩) 4 4, rfl, hsit6.stay9 (lay_cells HR6.out) (set2_other _ _ _ _) (by simp), ?_, by simp, ?_, ?_⟩
      · rw [set2_other _ _ _ _ _ _ (by omega)]; simp
      · have h7 := (HO5.out.below HA6.out).sits
        have h8 := (HB.out.size)
        obtain ⟨b7, o7, c7, e7, k1, k2, k3, k4⟩ := h7
        simp only [Value.slice.injEq, Option.some.injEq, Addr.mk.injEq, and_true] at e7
        obtain ⟨⟨rfl, rfl⟩, _, rfl⟩ := e7
        exact ⟨_, _, _, rfl, k1, k2, by simpa using k3, fun q hq => by rw [set2_other _ _ _ _ _ _ (by omega)]; exact k4 q hq⟩
      · exact (((HB1.out.trans (HBW5.out.mono (by omega))).trans (HA6.out.mono (by omega))).setCell (p := ⟨w.heap.size, 0, none⟩) (Nat.le_refl _) _).setCell (p := ⟨w.heap.size, 1, none⟩) (Nat.le_refl _) _
end Go.Proofs.Yteimfdpkodcfbaa
