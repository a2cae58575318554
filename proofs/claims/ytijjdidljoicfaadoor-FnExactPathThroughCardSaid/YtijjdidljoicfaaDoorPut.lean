/- Contract: l1Put. Conditions: an owned list of at most 12 numbers. -/
import Derived.Test.YtijjdidljoicfaaDoorPathM
import Derived.Test.YtijjdidljoicfaaDoorApp
import Derived.Test.YtijjdidljoicfaaDoorLives
namespace Go.Proofs.YtijjdidljoicfaaDoor
open Go.RowKit
set_option linter.unusedVariables false

def posL (x : Int) : List Int → Nat
  | [] => 0
  | y :: t => if y < x then posL x t + 1 else 0
theorem posL_le (x : Int) : ∀ xs : List Int, posL x xs ≤ xs.length
  | [] => Nat.le_refl _
  | y :: t => by rw [posL]; split; have := posL_le x t; simp; omega; simp
theorem posL_lt {x : Int} : ∀ {xs : List Int} {k : Nat}, k < posL x xs → xs.getD k 0 < x
  | [], k, h => by simp [posL] at h
  | y :: t, k, h => by
    rw [posL] at h
    split at h
    · cases k with
      | zero => simpa
      | succ k => have := posL_lt (x := x) (xs := t) (k := k) (by omega); simpa using this
    · omega
theorem posL_ge {x : Int} : ∀ {xs : List Int}, posL x xs < xs.length → ¬ xs.getD (posL x xs) 0 < x
  | [], h => by simp at h
  | y :: t, h => by
    rw [posL] at h ⊢
    split
    · rename_i hy
      rw [if_pos hy] at h
      have := posL_ge (xs := t) (x := x) (by simp at h; omega)
      simpa using this
    · rename_i hy
      show ¬ y < x
      exact hy
theorem putL_pos (x : Int) : ∀ xs : List Int, putL x xs = if posL x xs < xs.length ∧ xs.getD (posL x xs) 0 = x then xs else xs.take (posL x xs) ++ [x] ++ xs.drop (posL x xs)
  | [] => by simp [putL, posL]
  | y :: t => by
    rw [putL, posL]
    by_cases hy : y < x
    · rw [if_pos hy, if_pos hy, putL_pos x t]
      by_cases hc : posL x t < t.length ∧ t.getD (posL x t) 0 = x
      · rw [if_pos hc, if_pos ⟨by simp; exact hc.1, by simpa using hc.2⟩]
      · rw [if_neg hc, if_neg (fun h => hc ⟨by have := h.1; simp at this; omega, by simpa using h.2⟩)]
        simp
    · rw [if_neg hy, if_neg hy]
      by_cases he : y = x
      · rw [if_pos he, if_pos ⟨by simp, by simpa using he⟩]
      · rw [if_neg he, if_neg (fun h => he (by simpa using h.2))]
        simp
theorem wpList_append_none {P : Program} (w : World) {ops : Array Oper} {rest : List Oper} {o : Oper} {a : Act} {Q : Exit → Act → World → Prop} (hgd : o.guard = none) (s x : Operand) (t : TypeId)
    (ho : o.op = .call { callee := .builtin .append, args := #[s, x], argTypes := #[t, t] }) (base : Nat) (e : TypeId) (i : TypeInfo) (size : Nat) (ht : P.underlying t = some (.slice e)) (hi : P.info? e = some i)
    (v : Value) (n : Nat) (xs : List Value) (hs : a.eval s = v) (hown : w.ownsRow base e size v n xs) (hx : a.eval x = .slice none 0 0) (h : wpList P ops Q rest (a.put o.dst v) w) : wpList P ops Q (o :: rest) a w := by
  refine wpList_plain hgd fun K hK => ?_
  exact wp_append_none s x t ho base e i size ht hi v n xs hs hown hx (hK _ _ h)
theorem empty_own (w : World) : Own (w.alloc (.cells #[] 3)) w.heap.size (.slice (some ⟨w.heap.size, 0, none⟩) 0 0) [] :=
  World.ownsRow_made w #[] 0 (Nat.le_refl _) (by unfold maxLen; omega) rfl
theorem Own.more {w : World} {lo : Nat} {v : Value} {xs ys : List Int} {n m : Nat} (hn : n = xs.length) (hm : m = ys.length) (h : w.ownsRow lo 3 1 v (n + m) (xs.map (Value.int .i64) ++ ys.map (Value.int .i64))) : Own w lo v (xs ++ ys) := by
  subst hn hm
  unfold Own
  rw [List.length_append, List.map_append]
  exact h
set_option maxHeartbeats 1000000 in
theorem l1Put_nil (x : Int) (w : World) :
    Calls Tryd.prog 15 #[.slice none 0 0, .int .i64 x] w fun e w' => ∃ u, e = .returned u ∧ Own w' w.heap.size u [x] ∧ Below w.heap.size w w' := by
  obtain ⟨i0, hi, hz0, hz1, hz2⟩ := info_parts Tryd.info3
  have HE := hid (show (w.alloc (.cells #[] 3)).ownsRow w.heap.size 3 1 (.slice (some ⟨w.heap.size, 0, none⟩) 0 0) 0 [] from World.ownsRow_made w #[] 0 (Nat.le_refl _) (by unfold maxLen; omega) rfl)
  have HB := hid ((Below.refl w.heap.size w).alloc (Nat.le_refl _) (.cells #[] 3))
  have hS : w.heap.size < (w.alloc (.cells #[] 3)).heap.size := by simp
  go_enter Tryd.func15, Tryd.ntmps15
  go_wp2_with fail
  refine wp_loop_rounds 1 ?_
  rw [rounds_succ]
  go_wp2_with (first
    | (at_builtin; refine wpList_append_none _ rfl (.tmp 34) (.tmp 37) 22 rfl w.heap.size 3 i0 1 Tryd.underlying22 hi _ _ _ rfl HE.out rfl ?_; generalize hW : w.alloc (.cells #[] 3) = W1 at HE HB hS ⊢; clear hW)
    | (at_builtin; refine wpList_append_own _ rfl (.tmp 39) (.tmp 41) 22 rfl w.heap.size 3 i0 (.int .i64 0) 1 8 Tryd.underlying22 hi hz0 hz1 hz2 rfl (by decide) _ _ _ rfl (World.ownsRow.alloc HE.out _) ⟨W1.heap.size, 0, none⟩ 1 1 [.int .i64 x] rfl rfl (fun j y hj => new_cell1 j hj) (ints_one [x]) (by unfold maxLen; omega) (by omega) (by simp; omega) ?_; intro v2 w2 hown2 hgrow2 hn2; have HO2 := hid (Own.more (xs := []) (ys := [x]) rfl rfl hown2); have HB2 := hid ((HB.out.alloc (Nat.le_of_lt hS) (.cells #[.int .i64 x] 3)).grown hgrow2 (by simp; omega) (fun q hq => (World.ownsRow.lt HE.out q hq).1)); clear hown2 hgrow2 hn2)
    | (at_builtin; refine wpList_append_none _ rfl (.tmp 43) (.tmp 46) 22 rfl w.heap.size 3 i0 1 Tryd.underlying22 hi _ _ _ rfl HO2.out.row rfl ?_)
    | fail)
  go_ret
  exact ⟨_, rfl, HO2.out, HB2.out⟩
set_option maxHeartbeats 2000000 in
theorem l1Put_some (g c : Nat) (xs : List Int) (x : Int) (B : Nat) (w : World) (h : Own w B (.slice (some ⟨g, 0, none⟩) xs.length c) xs) (hl : xs.length ≤ 12) (hB : B ≤ w.heap.size) :
    Calls Tryd.prog 15 #[.slice (some ⟨g, 0, none⟩) xs.length c, .int .i64 x] w fun e w' => ∃ u, e = .returned u ∧ Own w' B u (putL x xs) ∧ Below w.heap.size w w' := by
  obtain ⟨i0, hi, hz0, hz1, hz2⟩ := info_parts Tryd.info3
  have HOW := hid h
  obtain ⟨b, off, c', e, hc1, hm, hb, hc⟩ := Own.sits h
  simp only [Value.slice.injEq, Option.some.injEq, Addr.mk.injEq, and_true, true_and] at e
  obtain ⟨⟨rfl, rfl⟩, rfl⟩ := e
  have HC := hid hc
  obtain ⟨k, hk⟩ : ∃ k, k = posL x xs := ⟨_, rfl⟩
  have hkl : k ≤ xs.length := by rw [hk]; exact posL_le x xs
  have HLT := hid (show ∀ t, t < k → xs.getD t 0 < x from fun t ht => posL_lt (by rw [← hk]; exact ht))
  have HGE := hid (show k < xs.length → ¬ xs.getD k 0 < x by rw [hk]; exact posL_ge)
  have HP0 := hid (show putL x xs = if k < xs.length ∧ xs.getD k 0 = x then xs else xs.take k ++ [x] ++ xs.drop k by rw [hk]; exact putL_pos x xs)
  have HE := hid (show (w.alloc (.cells #[] 3)).ownsRow w.heap.size 3 1 (.slice (some ⟨w.heap.size, 0, none⟩) 0 0) 0 [] from World.ownsRow_made w #[] 0 (Nat.le_refl _) (by unfold maxLen; omega) rfl)
  have HB := hid ((Below.refl w.heap.size w).alloc (Nat.le_refl _) (.cells #[] 3))
  have hS : w.heap.size < (w.alloc (.cells #[] 3)).heap.size := by simp
  have p1 : (0 : Int) ≤ (k : Int) := by omega
  have p2 : (k : Int) ≤ (c : Int) := by omega
  have p3 : (k : Int) ≤ (xs.length : Int) := by omega
  have p5 : (xs.length : Int) ≤ (c : Int) := by omega
  have p6 : k ≤ c := by omega
  have HN1 := hid (show ((xs.take k).map (Value.int .i64)).length = k * 1 by simp; omega)
  have HKL := hid (show k = (xs.take k).length by simp; omega)
  have HL2 := hid (show ([] ++ xs.take k).length = k by simp; omega)
  have HL3 := hid (show ([] ++ xs.take k ++ [x]).length = k + 1 by simp; omega)
  have HDL := hid (show xs.length - k = (xs.drop k).length by simp)
  have HN3 := hid (show ((xs.drop k).map (Value.int .i64)).length = (xs.length - k) * 1 by simp)
  have HSRC1 := hid (show ∀ w', Below w.heap.size w w' → ∀ (j : Nat) (u : Value), ((xs.take k).map (Value.int .i64))[j]? = some u → w'.cell? ((⟨g, 0, none⟩ : Addr).add j) = some u from fun w' hbel =>
    Sits.src (n := 0) (c := 0) (fun i hi => by
      have hi2 : i < xs.length := by simp at hi; omega
      rw [(hbel.cell (by exact hb)).trans (hc i hi2)]
      simp))
  clear hc h hk
  go_enter Tryd.func15, Tryd.ntmps15
  go_wp2_with fail
  go_loop [5] (fun i => ∃ t : Nat, t ≤ k ∧ i = .int .i64 t) (fun i => k - (intOf i).toNat)
  case atStart => exact ⟨0, Nat.zero_le _, rfl⟩
  case round =>
    obtain ⟨t, ht, rfl⟩ := hrel
    by_cases htk : t < k
    · have htl : t < xs.length := by omega
      have hcx : w.cell? ⟨g, t, none⟩ = some (.int .i64 xs[t]) := by have := HC.out t htl; rw [Nat.zero_add] at this; exact this
      have hlt := HLT.out t htk
      rw [getD_at htl] at hlt
      have htl2 : (t : Int) < (xs.length : Int) := by omega
      go_wp2_with fail
      go_round
      case rel => exact ⟨t + 1, by omega, by go_num⟩
      case measure => simp [intOf]; omega
    · obtain rfl : t = k := by omega
      by_cases hkx : t < xs.length
      · have hcx : w.cell? ⟨g, t, none⟩ = some (.int .i64 xs[t]) := by have := HC.out t hkx; rw [Nat.zero_add] at this; exact this
        have hge := HGE.out hkx
        rw [getD_at hkx] at hge
        have htl2 : (t : Int) < (xs.length : Int) := by omega
        by_cases he : xs[t] = x
        · have hbb : (xs[t] == x) = true := by simpa using he
          have HPUT := hid (show putL x xs = xs by rw [HP0.out, if_pos ⟨hkx, by rw [getD_at hkx]; exact he⟩])
          clear he
          go_wp2_with fail
          go_ret
          refine ⟨_, rfl, ?_, Below.refl _ _⟩
          rw [HPUT.out]
          exact HOW.out
        · have hbb : (xs[t] == x) = false := by simpa using he
          have HPUT := hid (show putL x xs = [] ++ xs.take t ++ [x] ++ xs.drop t by rw [HP0.out, if_neg (fun h => he (by have := h.2; rw [getD_at hkx] at this; exact this))]; rfl)
          have HSRC3 := hid (show ∀ w', Below w.heap.size w w' → ∀ (j : Nat) (u : Value), ((xs.drop t).map (Value.int .i64))[j]? = some u → w'.cell? ((⟨g, t, none⟩ : Addr).add j) = some u from fun w' hbel =>
            Sits.src (n := 0) (c := 0) (fun i hi => by
              have hi2 : t + i < xs.length := by simp at hi; omega
              have := (hbel.cell (by exact hb)).trans (HC.out (t + i) hi2)
              rw [Nat.zero_add] at this
              rw [this]
              simp))
          have htc : t < c := by omega
          have htc2 : (t : Int) < (c : Int) := by omega
          have htc3 : c ≠ t := by omega
          clear he
          go_wp2_with (first
            | (at_builtin; refine wpList_append_own _ rfl (.tmp 34) (.tmp 37) 22 rfl w.heap.size 3 i0 (.int .i64 0) 1 8 Tryd.underlying22 hi hz0 hz1 hz2 rfl (by decide) _ _ _ rfl HE.out ⟨g, 0, none⟩ t c ((xs.take t).map (Value.int .i64)) rfl HN1.out (HSRC1.out _ HB.out) (ints_one _) (by unfold maxLen; omega) (by omega) (Nat.le_of_lt hS) ?_; intro v2 w2 hown2 hgrow2 hn2; have HO2 := hid (Own.more (xs := []) rfl HKL.out hown2); have HB2 := hid (HB.out.grown hgrow2 (Nat.le_of_lt hS) (fun q hq => (World.ownsRow.lt HE.out q hq).1)); have hs2 := HB2.out.size; clear hown2 hgrow2 hn2)
            | (at_builtin; refine wpList_append_own _ rfl (.tmp 39) (.tmp 41) 22 rfl w.heap.size 3 i0 (.int .i64 0) 1 8 Tryd.underlying22 hi hz0 hz1 hz2 rfl (by decide) _ _ _ rfl (World.ownsRow.alloc HO2.out.row _) ⟨w2.heap.size, 0, none⟩ 1 1 [.int .i64 x] rfl rfl (fun j y hj => new_cell1 j hj) (ints_one [x]) (by rw [HL2.out]; unfold maxLen; omega) (by rw [HL2.out]; omega) (by simp; omega) ?_; intro v3 w3 hown3 hgrow3 hn3; have HO3 := hid (Own.more (ys := [x]) rfl rfl hown3); have HB3 := hid ((HB2.out.alloc hs2 (.cells #[.int .i64 x] 3)).grown hgrow3 (by simp; omega) (fun q hq => (World.ownsRow.lt HO2.out q hq).1)); have hs3 := HB3.out.size; clear hown3 hgrow3 hn3)
            | (at_builtin; refine wpList_append_own _ rfl (.tmp 43) (.tmp 46) 22 rfl w.heap.size 3 i0 (.int .i64 0) 1 8 Tryd.underlying22 hi hz0 hz1 hz2 rfl (by decide) _ _ _ rfl HO3.out.row ⟨g, t, none⟩ (xs.length - t) (c - t) ((xs.drop t).map (Value.int .i64)) rfl HN3.out (HSRC3.out _ HB3.out) (ints_one _) (by rw [HL3.out]; unfold maxLen; omega) (by rw [HL3.out]; omega) hs3 ?_; intro v4 w4 hown4 hgrow4 hn4; have HO4 := hid (Own.more rfl HDL.out hown4); have HB4 := hid (HB3.out.grown hgrow4 hs3 (fun q hq => (World.ownsRow.lt HO3.out q hq).1)); clear hown4 hgrow4 hn4)
            | fail)
          go_ret
          refine ⟨_, rfl, ?_, HB4.out⟩
          rw [HPUT.out]
          exact HO4.out.mono hB
      · have hkx2 : t = xs.length := by omega
        have htl2 : ¬ (t : Int) < (xs.length : Int) := by omega
        have HPUT := hid (show putL x xs = [] ++ xs.take t ++ [x] ++ xs.drop t by rw [HP0.out, if_neg (fun h => hkx h.1)]; rfl)
        have HDR := hid (show xs.drop t = [] from List.drop_eq_nil_of_le (by omega))
        have HXT := hid hkx2
        by_cases htc : c = t
        · have HSRC3 := hid (show ∀ w', Below w.heap.size w w' → ∀ (j : Nat) (u : Value), ((xs.drop t).map (Value.int .i64))[j]? = some u → w'.cell? ((⟨g, 0, none⟩ : Addr).add j) = some u from fun w' hbel j u hu => by rw [HDR.out] at hu; simp at hu)
          subst htc
          have hs0 : (c : Int) - (c : Int) = 0 := Int.sub_self _
          have hlt0 : (xs.length : Int) ≤ (c : Int) := by omega
          have hlt1 : xs.length ≤ c := by omega
          clear HSRC3 hkx2
          go_wp2_with (first
            | (at_builtin; refine wpList_append_own _ rfl (.tmp 34) (.tmp 37) 22 rfl w.heap.size 3 i0 (.int .i64 0) 1 8 Tryd.underlying22 hi hz0 hz1 hz2 rfl (by decide) _ _ _ rfl HE.out ⟨g, 0, none⟩ c c ((xs.take c).map (Value.int .i64)) rfl HN1.out (HSRC1.out _ HB.out) (ints_one _) (by unfold maxLen; omega) (by omega) (Nat.le_of_lt hS) ?_; intro v2 w2 hown2 hgrow2 hn2; have HO2 := hid (Own.more (xs := []) rfl HKL.out hown2); have HB2 := hid (HB.out.grown hgrow2 (Nat.le_of_lt hS) (fun q hq => (World.ownsRow.lt HE.out q hq).1)); have hs2 := HB2.out.size; clear hown2 hgrow2 hn2)
            | (at_builtin; refine wpList_append_own _ rfl (.tmp 39) (.tmp 41) 22 rfl w.heap.size 3 i0 (.int .i64 0) 1 8 Tryd.underlying22 hi hz0 hz1 hz2 rfl (by decide) _ _ _ rfl (World.ownsRow.alloc HO2.out.row _) ⟨w2.heap.size, 0, none⟩ 1 1 [.int .i64 x] rfl rfl (fun j y hj => new_cell1 j hj) (ints_one [x]) (by rw [HL2.out]; unfold maxLen; omega) (by rw [HL2.out]; omega) (by simp; omega) ?_; intro v3 w3 hown3 hgrow3 hn3; have HO3 := hid (Own.more (ys := [x]) rfl rfl hown3); have HB3 := hid ((HB2.out.alloc hs2 (.cells #[.int .i64 x] 3)).grown hgrow3 (by simp; omega) (fun q hq => (World.ownsRow.lt HO2.out q hq).1)); have hs3 := HB3.out.size; clear hown3 hgrow3 hn3)
            | (at_builtin; refine wpList_append_own _ rfl (.tmp 43) (.tmp 46) 22 rfl w.heap.size 3 i0 (.int .i64 0) 1 8 Tryd.underlying22 hi hz0 hz1 hz2 rfl (by decide) _ _ _ rfl HO3.out.row ⟨g, 0, none⟩ 0 0 [] rfl rfl (fun j u hu => by simp at hu) (fun u hu => by simp at hu) (by rw [HL3.out]; unfold maxLen; omega) (by rw [HL3.out]; omega) hs3 ?_; intro v4 w4 hown4 hgrow4 hn4; have HO4 := hid (Own.more (ys := []) rfl rfl hown4); have HB4 := hid (HB3.out.grown hgrow4 hs3 (fun q hq => (World.ownsRow.lt HO3.out q hq).1)); clear hown4 hgrow4 hn4)
            | fail)
          go_ret
          refine ⟨_, rfl, ?_, HB4.out⟩
          rw [HPUT.out, HDR.out]
          exact HO4.out.mono hB
        · have HSRC3 := hid (show ∀ w', Below w.heap.size w w' → ∀ (j : Nat) (u : Value), ((xs.drop t).map (Value.int .i64))[j]? = some u → w'.cell? ((⟨g, t, none⟩ : Addr).add j) = some u from fun w' hbel j u hu => by rw [HDR.out] at hu; simp at hu)
          have htc1 : t < c := by omega
          have htc2 : (t : Int) < (c : Int) := by omega
          clear hkx2
          go_wp2_with (first
            | (at_builtin; refine wpList_append_own _ rfl (.tmp 34) (.tmp 37) 22 rfl w.heap.size 3 i0 (.int .i64 0) 1 8 Tryd.underlying22 hi hz0 hz1 hz2 rfl (by decide) _ _ _ rfl HE.out ⟨g, 0, none⟩ t c ((xs.take t).map (Value.int .i64)) rfl HN1.out (HSRC1.out _ HB.out) (ints_one _) (by unfold maxLen; omega) (by omega) (Nat.le_of_lt hS) ?_; intro v2 w2 hown2 hgrow2 hn2; have HO2 := hid (Own.more (xs := []) rfl HKL.out hown2); have HB2 := hid (HB.out.grown hgrow2 (Nat.le_of_lt hS) (fun q hq => (World.ownsRow.lt HE.out q hq).1)); have hs2 := HB2.out.size; clear hown2 hgrow2 hn2)
            | (at_builtin; refine wpList_append_own _ rfl (.tmp 39) (.tmp 41) 22 rfl w.heap.size 3 i0 (.int .i64 0) 1 8 Tryd.underlying22 hi hz0 hz1 hz2 rfl (by decide) _ _ _ rfl (World.ownsRow.alloc HO2.out.row _) ⟨w2.heap.size, 0, none⟩ 1 1 [.int .i64 x] rfl rfl (fun j y hj => new_cell1 j hj) (ints_one [x]) (by rw [HL2.out]; unfold maxLen; omega) (by rw [HL2.out]; omega) (by simp; omega) ?_; intro v3 w3 hown3 hgrow3 hn3; have HO3 := hid (Own.more (ys := [x]) rfl rfl hown3); have HB3 := hid ((HB2.out.alloc hs2 (.cells #[.int .i64 x] 3)).grown hgrow3 (by simp; omega) (fun q hq => (World.ownsRow.lt HO2.out q hq).1)); have hs3 := HB3.out.size; clear hown3 hgrow3 hn3)
            | (at_builtin; refine wpList_append_own _ rfl (.tmp 43) (.tmp 46) 22 rfl w.heap.size 3 i0 (.int .i64 0) 1 8 Tryd.underlying22 hi hz0 hz1 hz2 rfl (by decide) _ _ _ rfl HO3.out.row ⟨g, t, none⟩ (xs.length - t) (c - t) ((xs.drop t).map (Value.int .i64)) rfl HN3.out (HSRC3.out _ HB3.out) (ints_one _) (by rw [HL3.out]; unfold maxLen; omega) (by rw [HL3.out]; omega) hs3 ?_; intro v4 w4 hown4 hgrow4 hn4; have HO4 := hid (Own.more rfl HDL.out hown4); have HB4 := hid (HB3.out.grown hgrow4 hs3 (fun q hq => (World.ownsRow.lt HO3.out q hq).1)); clear hown4 hgrow4 hn4)
            | fail)
          go_ret
          refine ⟨_, rfl, ?_, HB4.out⟩
          rw [HPUT.out]
          exact HO4.out.mono hB
end Go.Proofs.YtijjdidljoicfaaDoor
