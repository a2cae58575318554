/- Contracts: the closure of CoolList, listFrom with it. Conditions: k <= n <= 12. -/
import Derived.Test.YtijjdidljoicfabCoolS
import Derived.Test.YtijjdidljoicfabCst
import Derived.Test.YtijjdidljoicfabRep
import Derived.Test.YtijjdidljoicfabSS2
namespace Go.Proofs.Ytijjdidljoicfab
open Go.RowKit
set_option linter.unusedVariables false

/-- a slice of slices: its own row from b1 on, its rows from b2 on and below H, apart from each other, that read as L -/
def RowsU (w : World) (b1 b2 H : Nat) (v : Value) (L : List (List Int)) : Prop :=
  ∃ vs : List Value, vs.length = L.length ∧ w.ownsRow b1 28 1 v L.length vs ∧ (∀ i (h1 : i < L.length) (h2 : i < vs.length), Own w b2 vs[i] L[i]) ∧
    (∀ i j (h1 : i < vs.length) (h2 : j < vs.length) (g : Nat), i ≠ j → vs[i].ownBlock = some g → vs[j].ownBlock ≠ some g) ∧ ∀ i (h1 : i < vs.length) g, vs[i].ownBlock = some g → g < H
theorem RowsU.listsA {w : World} {b1 b2 H : Nat} {v : Value} {L : List (List Int)} (hb : b2 ≤ b1) (h : RowsU w b1 b2 H v L) : ListsA w b2 v L := by
  obtain ⟨vs, a, b, c, d, _⟩ := h
  exact ⟨vs, a, ownsRow_mono b hb, c, d⟩
theorem RowsU.keep {w w' : World} {b1 b2 H : Nat} {v : Value} {L : List (List Int)} (h : RowsU w b1 b2 H v L) (hb : Below w.heap.size w w') : RowsU w' b1 b2 H v L := by
  obtain ⟨vs, a, b, c, d, e⟩ := h
  exact ⟨vs, a, ownsRow_below b hb, fun i x y => (c i x y).below hb, d, e⟩
theorem RowsU.len {w : World} {b1 b2 H : Nat} {v : Value} {L : List (List Int)} (h : RowsU w b1 b2 H v L) : slLen2 v = L.length := by
  obtain ⟨vs, a, b, _⟩ := h
  rcases b.2 with ⟨rfl, hn⟩ | ⟨g, cap, cur, rfl, _⟩
  · exact hn.symm
  · rfl
theorem RowsU.push {w w' : World} {b1 b2 H : Nat} {v v' u : Value} {L : List (List Int)} {l : List Int} {vs : List Value} (hl : vs.length = L.length) (h2 : w.ownsRow b1 28 1 v L.length vs)
    (h3 : ∀ i (h1 : i < L.length) (h2 : i < vs.length), Own w b2 vs[i] L[i]) (h4 : ∀ i j (h1 : i < vs.length) (h2 : j < vs.length) (g : Nat), i ≠ j → vs[i].ownBlock = some g → vs[j].ownBlock ≠ some g)
    (h5 : ∀ i (h1 : i < vs.length) g, vs[i].ownBlock = some g → g < H) (hu : Own w b2 u l) (hH : ∀ g, u.ownBlock = some g → H ≤ g)
    (hrow : w'.ownsRow b1 28 1 v' (L.length + 1) (vs ++ [u])) (hg : w.grownBy w' v.ownBlock) : RowsU w' b1 b2 w'.heap.size v' (L ++ [l]) := by
  have hk : ∀ x : Value, ∀ xs : List Int, Own w b2 x xs → Own w' b2 x xs := fun x xs hx => Own.kept_type hx (T := 28) (by decide) h2 hg
  have hrows : ∀ i (a : i < (L ++ [l]).length) (b : i < (vs ++ [u]).length), Own w' b2 (vs ++ [u])[i] (L ++ [l])[i] := fun i a b => by
    by_cases hi : i < L.length
    · rw [List.getElem_append_left (by omega), List.getElem_append_left hi]
      exact hk _ _ (h3 i hi (by omega))
    · have e1 : i = vs.length := by simp at b; simp at a; omega
      rw [List.getElem_append_right (by omega), List.getElem_append_right (by omega)]
      simp only [e1, Nat.sub_self, hl]
      simpa using hk _ _ hu
  refine ⟨vs ++ [u], by simp [hl], by rw [List.length_append]; exact hrow, hrows, fun i j a b g hij hi hj => ?_, fun i x g hgb => (World.ownsRow.lt (hrows i (by simp at x ⊢; omega) x) g hgb).2⟩
  simp only [List.length_append, List.length_singleton] at a b
  by_cases h6 : i < vs.length
  · rw [List.getElem_append_left h6] at hi
    by_cases h7 : j < vs.length
    · rw [List.getElem_append_left h7] at hj
      exact h4 i j h6 h7 g hij hi hj
    · rw [List.getElem_append_right (by omega)] at hj
      simp only [show j - vs.length = 0 by omega, List.getElem_cons_zero] at hj
      have := h5 i h6 g hi
      have := hH g hj
      omega
  · rw [List.getElem_append_right (by omega)] at hi
    simp only [show i - vs.length = 0 by omega, List.getElem_cons_zero] at hi
    by_cases h7 : j < vs.length
    · rw [List.getElem_append_left h7] at hj
      have := h5 j h7 g hj
      have := hH g hi
      omega
    · omega
theorem coolClos_any (f xs : List Int) (v : Value) (gs ns cs : Nat) (a : Addr) (w : World) (ha : w.cell? a = some (.slice (some ⟨gs, 0, none⟩) ns cs)) (hf : Sits w (.slice (some ⟨gs, 0, none⟩) ns cs) f) (h : Sits w v xs) (hl : xs.length ≤ 12) :
    Calls Try.prog 33 #[v, .pointer (some a)] w fun e w' => ∃ g, e = .returned (.tuple #[.slice (some ⟨g, 0, none⟩) xs.length xs.length, .bool (!(decide (coolL xs = f)))]) ∧ Own w' w.heap.size (.slice (some ⟨g, 0, none⟩) xs.length xs.length) (coolL xs) ∧ Below w.heap.size w w' := by
  have HS := hid h
  have HF := hid hf
  have HA := hid ha
  have hab : a.block < w.heap.size := World.block_lt_of_cell? w _ ha
  have hl20 : xs.length ≤ 1048576 := by omega
  obtain ⟨d, hd⟩ : ∃ d, d = decide (coolL xs = f) := ⟨_, rfl⟩
  have HD := hid hd
  clear h hf ha hd
  go_enter Try.func33, Try.ntmps33
  go_wp2_with (first
    | (go_at_call 34; refine (coolStep_any _ xs _ HS.out hl20).mono ?_; rintro e w1 ⟨g1, rfl, ho1, hb1⟩; have HO1 := hid ho1; have HB1 := hid hb1; have HF1 := hid (HF.out.below hb1); have ha1 := (hb1.cell (p := a) hab).trans HA.out; clear ho1 hb1)
    | (go_at_call 35; refine (Equal_any _ _ (coolL xs) f _ HO1.out.reads HF1.out.reads).mono ?_; rintro e w2 ⟨rfl, hb2⟩; have HO2 := hid (HO1.out.below hb2); have HB2 := hid (Below_chain HB1.out hb2); clear hb2)
    | fail)
  go_ret2
  exact ⟨g1, by rw [← HD.out]; rfl, HO2.out, HB2.out⟩
/-- where the loop stands: the lists so far, the next one, whether there is one -/
def LC (n k b1 B H0 : Nat) (f : List Int) (s7 s8 s9 : Value) (wr : World) : Prop :=
  (∃ (m : Nat) (x : List Int) (D : List (List Int)) (H g : Nat), s9 = .bool true ∧ s8 = .slice (some ⟨g, 0, none⟩) n n ∧ x.length = n ∧ coolS n k = D ++ x :: coolRun f m (coolL x) ∧ coolStop f m (coolL x) = true ∧ D.length + m = 1000 ∧
    Own wr B s8 x ∧ H ≤ g ∧ RowsU wr b1 B H s7 D) ∨ (s9 = .bool false ∧ ListsA wr B s7 (coolS n k))
set_option maxHeartbeats 2000000 in
theorem listFrom_cool (n k : Nat) (hn : n ≤ 12) (hk : k ≤ n) (gs B C : Nat) (a : Addr) (w : World) (ha : w.cell? a = some (.slice (some ⟨gs, 0, none⟩) n n)) (hB : B ≤ w.heap.size) (hC : C ≤ 2000) (hv : Own w B (.slice (some ⟨gs, 0, none⟩) n n) (coolF n k)) :
    Calls Try.prog 36 #[.slice (some ⟨gs, 0, none⟩) n n, .int .i64 (C : Int), .func (.func 33) #[] #[.pointer (some a)]] w fun e w' => ∃ u, e = .returned u ∧ ListsA w' B u (coolS n k) ∧ Below w.heap.size w w' := by
  obtain ⟨j0, hj, hy0, hy1, hy2⟩ := info_parts Try.infoL
  have hab : a.block < w.heap.size := World.block_lt_of_cell? w _ ha
  obtain ⟨wm, hrun, hown0, hgrow0⟩ := run_make_own (P := Try.prog) w w.heap.size 22 28 j0 (.slice none 0 0) 1 Try.underlying22 hj hy0 hy1 .i64 .i64 C (by rw [hy2]; omega) (by unfold maxLen; omega) (Nat.le_refl _)
  have HWM := hid (Below.grown (Below.refl w.heap.size w) hgrow0 (Nat.le_refl _) (fun q hq => by cases hq))
  have HA := hid ha
  obtain ⟨f, hf⟩ := (⟨coolF n k, rfl⟩ : ∃ f, f = coolF n k)
  have HEND := hid (cool_ends n (by omega) k (by omega))
  have HSQ := hid (show coolS n k = f :: coolRun f 1000 (coolL f) by rw [coolS, ← hf])
  have HFL := hid (show f.length = n by rw [hf]; exact coolF_length n k)
  rw [← hf] at HEND hv
  have HSF := hid hv.sits
  have hst : LC n k w.heap.size B 0 f (.slice (some ⟨w.heap.size, 0, none⟩) 0 C) (.slice (some ⟨gs, 0, none⟩) n n) (.bool true) wm := by
    have hv' : Own wm B (.slice (some ⟨gs, 0, none⟩) n n) f := Own.kept hv hgrow0 (.inr (by simp [Value.ownBlock]))
    exact .inl ⟨1000, f, [], 0, gs, rfl, rfl, HFL.out, HSQ.out, HEND.out, rfl, hv', Nat.zero_le _, ⟨[], rfl, hown0, fun i h => absurd h (by simp), fun i j h => absurd h (by simp), fun i h => absurd h (by simp)⟩⟩
  have HST := hid hst
  clear hst hown0 hgrow0 hv hf
  go_enter Try.func36, Try.ntmps36
  go_wp2_with fail
  clear hrun
  go_loopw [7, 8, 9] (fun s7 s8 s9 wr => LC n k w.heap.size B 0 f s7 s8 s9 wr ∧ Below w.heap.size w wr) (fun s7 _ _ _ => 1002 - slLen2 s7)
  case atStart => exact ⟨HST.out, HWM.out⟩
  case round =>
    obtain ⟨hlf, hbel⟩ := hrel
    rcases hlf with ⟨m, x, D, H, g, rfl, rfl, hxl, hsq, hstop, hdm, ho, hHg, hrows⟩ | ⟨rfl, hla⟩
    · have HSQ2 := hid hsq
      have HSTOP := hid hstop
      have HXL := hid hxl
      have HO := hid ho
      have HBB := hid hbel
      have HLL := hid hrows.len
      obtain ⟨vs, r1, r2, r3, r4, r5⟩ := hrows
      have HR2 := hid r2
      have HR := hid (show vs.length = D.length ∧ (∀ i (h1 : i < D.length) (h2 : i < vs.length), Own wr B vs[i] D[i]) ∧ (∀ i j (h1 : i < vs.length) (h2 : j < vs.length) (g : Nat), i ≠ j → vs[i].ownBlock = some g → vs[j].ownBlock ≠ some g) ∧ (∀ i (h1 : i < vs.length) g, vs[i].ownBlock = some g → g < H) from ⟨r1, r3, r4, r5⟩)
      have hszw := hbel.size
      have hDl : D.length ≤ 1000 := by omega
      obtain ⟨y, hy⟩ : ∃ y, y = coolL x := ⟨_, rfl⟩
      have HY := hid hy
      obtain ⟨d, hd⟩ : ∃ d, d = decide (y = f) := ⟨_, rfl⟩
      have HD := hid hd
      have hx12 : x.length ≤ 12 := by omega
      clear ho hbel hsq hstop r1 r2 r3 r4 r5 hy hd hxl
      go_wp2_with (first
        | (at_builtin; refine wpList_append_own _ rfl _ _ 22 rfl w.heap.size 28 j0 (.slice none 0 0) 1 24 Try.underlying22 hj hy0 hy1 hy2 rfl (by decide) _ _ _ rfl (World.ownsRow.alloc HR2.out _) ⟨wr.heap.size, 0, none⟩ 1 1 [.slice (some ⟨g, 0, none⟩) n n] rfl rfl (fun j u hj => new_cellV j hj) (by intro u hu; simp at hu; subst hu; rfl) ?c3 ?c4 ?c5 ?_)
        | fail)
      case c3 => unfold maxLen; omega
      case c4 => omega
      case c5 => exact Nat.le_trans hszw (by simp)
      intro v1 w1 hown1 hgrow1 _
      have hsa : wr.heap.size ≤ (wr.alloc (.cells #[.slice (some ⟨g, 0, none⟩) n n] 28)).heap.size := by simp
      have hsz1 := hgrow1.size
      have hBA : Below w.heap.size w (wr.alloc (.cells #[.slice (some ⟨g, 0, none⟩) n n] 28)) := HBB.out.alloc hszw _
      have hBL : Below wr.heap.size wr (wr.alloc (.cells #[.slice (some ⟨g, 0, none⟩) n n] 28)) := (Below.refl _ _).alloc (Nat.le_refl _) _
      have HB1 := hid (hBA.grown hgrow1 (Nat.le_trans hszw hsa) (fun q hq => (World.ownsRow.lt HR2.out q hq).1))
      have HPU := hid (show RowsU w1 w.heap.size B w1.heap.size v1 (D ++ [x]) from
        RowsU.push HR.out.1 (World.ownsRow.alloc HR2.out _) (fun i a b => (HR.out.2.1 i a b).below hBL) HR.out.2.2.1 HR.out.2.2.2 (HO.out.below hBL) (fun q hq => by simp only [Value.ownBlock, Option.some.injEq] at hq; omega) hown1 hgrow1)
      have HSIT := hid (show Sits w1 (.slice (some ⟨g, 0, none⟩) n n) x from (Own.kept_type (HO.out.below hBL) (T := 28) (by decide) (World.ownsRow.alloc HR2.out _) hgrow1).sits)
      have HCA := hid (show w1.cell? a = some (.slice (some ⟨gs, 0, none⟩) n n) from (HB1.out.cell hab).trans HA.out)
      have HSF1 := hid (HSF.out.below HB1.out)
      have hsz2 : w.heap.size ≤ w1.heap.size := Nat.le_trans hszw (Nat.le_trans hsa hsz1)
      clear hown1 hgrow1 hBA hBL
      go_wp2_with (first | (go_at_call 33; refine (coolClos_any f x _ gs n n a _ HCA.out HSF1.out HSIT.out hx12).mono ?_; rintro e w2 ⟨g2, rfl, ho2, hb2⟩; rw [← HY.out, ← HD.out]; have HO2 := hid (show Own w2 w1.heap.size (.slice (some ⟨g2, 0, none⟩) n n) y by rw [HXL.out, ← HY.out] at ho2; exact ho2); rw [HXL.out]; have HB2 := hid hb2; clear ho2 hb2) | fail)
      have HB12 := hid (HB1.out.trans (HB2.out.mono hsz2))
      have HP2 := hid (HPU.out.keep HB2.out)
      have HYL := hid (show y.length = n by rw [HY.out, coolL_length]; exact HXL.out)
      cases hdd : d with
      | false =>
        subst hdd
        have hyf : ¬ y = f := of_decide_eq_false HD.out.symm
        cases m with
        | zero => have h8 := HSTOP.out; rw [← HY.out, coolStop, decide_eq_false hyf] at h8; cases h8
        | succ m =>
          have HST2 := hid (show coolStop f m (coolL y) = true by have h8 := HSTOP.out; rw [← HY.out, coolStop, decide_eq_false hyf, Bool.false_or] at h8; exact h8)
          have HRUN := hid (show coolS n k = (D ++ [x]) ++ y :: coolRun f m (coolL y) by rw [HSQ2.out, ← HY.out, coolRun, if_neg hyf]; simp)
          have hg2 := (World.ownsRow.lt HO2.out.row g2 rfl).1
          go_roundw
          case rel => exact ⟨.inl ⟨m, y, D ++ [x], w1.heap.size, g2, rfl, rfl, HYL.out, HRUN.out, HST2.out, by simp; omega, HO2.out.mono (Nat.le_trans hB hsz2), hg2, HP2.out⟩, HB12.out⟩
          case measure =>
            have h1 := HP2.out.len
            rw [List.length_append, List.length_singleton] at h1
            have h2 := HLL.out
            show 1002 - slLen2 v1 < 1002 - slLen2 u7
            rw [h1, h2]; omega
      | true =>
        subst hdd
        have hyf : y = f := of_decide_eq_true HD.out.symm
        have HFIN := hid (show coolS n k = D ++ [x] by
          rw [HSQ2.out, ← HY.out, hyf]
          cases m with
          | zero => simp [coolRun]
          | succ m => simp [coolRun])
        go_roundw
        case rel => exact ⟨.inr ⟨rfl, by rw [HFIN.out]; exact HP2.out.listsA hB⟩, HB12.out⟩
        case measure =>
          have h1 := HP2.out.len
          rw [List.length_append, List.length_singleton] at h1
          have h2 := HLL.out
          show 1002 - slLen2 v1 < 1002 - slLen2 u7
          rw [h1, h2]; omega
    · have HLA := hid hla
      clear hla
      go_wp2_with fail
      go_ret
      exact ⟨_, rfl, HLA.out, hbel⟩
end Go.Proofs.Ytijjdidljoicfab
