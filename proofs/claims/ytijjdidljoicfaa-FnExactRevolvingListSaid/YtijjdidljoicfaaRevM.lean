/- Contract: chRevolving. Conditions: k <= n <= 12. -/
import Derived.Test.YtijjdidljoicfaaCh4
import Derived.Test.YtijjdidljoicfaaCAt1
namespace Go.Proofs.Ytijjdidljoicfaa
open Go.RowKit
set_option linter.unusedVariables false

/-- the revolving list -/
def revL : Nat → Nat → List (List Int)
  | 0, _ => [[]]
  | _ + 1, 0 => [[]]
  | n + 1, k + 1 => if k = n then [upTo (n + 1)] else revL n (k + 1) ++ (revL n k).reverse.map (fun l => l ++ [(n : Int)])
theorem revL_bound : ∀ n k, (revL n k).length ≤ 2 ^ n
  | 0, _ => by simp [revL]
  | n + 1, 0 => by have := Nat.two_pow_pos (n + 1); rw [revL]; simp; omega
  | n + 1, k + 1 => by
    rw [revL, Nat.pow_succ]
    split
    · have := Nat.two_pow_pos n; simp; omega
    · have h1 := revL_bound n (k + 1)
      have h2 := revL_bound n k
      simp; omega
theorem revL_pos : ∀ n k, 0 < (revL n k).length
  | 0, _ => by simp [revL]
  | n + 1, 0 => by simp [revL]
  | n + 1, k + 1 => by
    rw [revL]
    split
    · simp
    · have := revL_pos n (k + 1); simp; omega
theorem revL_elem : ∀ n k, k ≤ n → ∀ l ∈ revL n k, l.length = k
  | 0, k, hk, l, hl => by simp [revL] at hl; subst hl; simp; omega
  | n + 1, 0, _, l, hl => by simp [revL] at hl; subst hl; rfl
  | n + 1, k + 1, hk, l, hl => by
    rw [revL] at hl
    split at hl
    · rename_i e
      simp at hl
      subst hl
      rw [upTo_length]; omega
    · rcases List.mem_append.1 hl with hl | hl
      · exact revL_elem n (k + 1) (by omega) l hl
      · obtain ⟨m, hm, rfl⟩ := List.mem_map.1 hl
        have := revL_elem n k (by omega) m (List.mem_reverse.1 hm)
        simp; omega
theorem pow12_le {n : Nat} (h : n ≤ 12) : 2 ^ n ≤ 4096 := Nat.pow_le_pow_right (n := 2) (by decide) h
theorem rev_take {R : List (List Int)} {q : Nat} (h : q < R.length) : R.reverse.take (R.length - (q + 1) + 1) = R.reverse.take (R.length - (q + 1)) ++ [R[q]] := by
  have h1 : R.length - (q + 1) < R.reverse.length := by simp; omega
  rw [List.take_succ_eq_append_getElem h1, List.getElem_reverse]
  congr 2
  congr 1
  omega
theorem wpList_append_none3 {P : Program} (w : World) {ops : Array Oper} {rest : List Oper} {o : Oper} {a : Act} {Q : Exit → Act → World → Prop} (hgd : o.guard = none) (s x : Operand) (t : TypeId)
    (ho : o.op = .call { callee := .builtin .append, args := #[s, x], argTypes := #[t, t] }) (base : Nat) (e : TypeId) (i : TypeInfo) (size : Nat) (ht : P.underlying t = some (.slice e)) (hi : P.info? e = some i)
    (v : Value) (n : Nat) (xs : List Value) (hs : a.eval s = v) (hown : w.ownsRow base e size v n xs) (hx : a.eval x = .slice none 0 0) (h : wpList P ops Q rest (a.put o.dst v) w) : wpList P ops Q (o :: rest) a w := by
  refine wpList_plain hgd fun K hK => ?_
  exact wp_append_none s x t ho base e i size ht hi v n xs hs hown hx (hK _ _ h)
theorem Lists_lit {w : World} {B : Nat} {u : Value} {l : List Int} (h : Own w B u l) (hB : B ≤ w.heap.size) : Lists (w.alloc (.cells #[u] 22)) B (.slice (some ⟨w.heap.size, 0, none⟩) 1 1) [l] := by
  refine ⟨[u], rfl, ownsRow_mono (World.ownsRow_lit w #[u] 1 (Nat.le_refl _) (by unfold maxLen; omega) rfl) hB, fun i h1 h2 => ?_⟩
  have : i = 0 := by simpa using h2
  subst this
  exact h.below ((Below.refl _ _).alloc (Nat.le_refl _) _)
theorem l1Own_nil3 (w : World) : Calls Try.prog 92 #[.slice none 0 0] w fun e w' => ∃ u, e = .returned u ∧ Own w' w.heap.size u [] ∧ Below w.heap.size w w' := by
  obtain ⟨i0, hi, hz0, hz1, hz2⟩ := info_parts Try.info3
  have HE := hid (show (w.alloc (.cells #[] 3)).ownsRow w.heap.size 3 1 (.slice (some ⟨w.heap.size, 0, none⟩) 0 0) 0 [] from World.ownsRow_made w #[] 0 (Nat.le_refl _) (by unfold maxLen; omega) rfl)
  have HB := hid ((Below.refl w.heap.size w).alloc (Nat.le_refl _) (.cells #[] 3))
  go_enter Try.func92, Try.ntmps92
  go_wp2_with (first | (at_builtin; refine wpList_append_none3 _ rfl _ _ 22 rfl w.heap.size 3 i0 1 Try.underlying22 hi _ _ _ rfl HE.out rfl ?_) | fail)
  go_ret
  exact ⟨_, rfl, HE.out, HB.out⟩
theorem l1Own_own3 (v : Value) (xs : List Int) (B : Nat) (w : World) (h : Own w B v xs) (hl : xs.length ≤ 1048576) :
    Calls Try.prog 92 #[v] w fun e w' => ∃ u, e = .returned u ∧ Own w' w.heap.size u xs ∧ Below w.heap.size w w' := by
  rcases h.form with ⟨rfl, rfl⟩ | ⟨g, cap, rfl, _⟩
  · exact l1Own_nil3 w
  · refine (l1Own_any _ xs w h.sits hl).mono ?_
    rintro e w' ⟨u, h1, h2, h3, _⟩
    exact ⟨u, h1, h2, h3⟩
set_option maxHeartbeats 2000000 in
theorem chRevolving_any (n : Nat) : ∀ (k : Nat) (w : World), n ≤ 12 → k ≤ n →
    Calls Try.prog 64 #[.int .i64 (n : Int), .int .i64 (k : Int)] w fun e w' => ∃ u, e = .returned u ∧ Lists w' w.heap.size u (revL n k) ∧ Below w.heap.size w w' := by
  induction n with
  | zero =>
    intro k w _ hk
    obtain rfl : k = 0 := by omega
    rw [show ((0 : Nat) : Int) = 0 from rfl]
    go_enter Try.func64, Try.ntmps64
    go_wp2_with fail
    refine (raUpTo_any 0 _ (by omega)).mono ?_
    rintro e w1 ⟨u1, rfl, ho1, hb1⟩
    obtain ⟨ao, c, rfl⟩ := ho1.slice2
    have HL := hid (Lists_lit ho1 hb1.size)
    have HB := hid (hb1.alloc hb1.size (.cells #[.slice ao (upTo 0).length c] 22))
    clear ho1 hb1
    go_wp2_with fail
    go_ret
    exact ⟨_, rfl, HL.out, HB.out⟩
  | succ n ih =>
    intro k w hn hk
    cases k with
    | zero =>
      have hne : (0 : Int) ≠ (n : Int) + 1 := by omega
      rw [show ((0 : Nat) : Int) = 0 from rfl, show ((n + 1 : Nat) : Int) = (n : Int) + 1 from rfl]
      go_enter Try.func64, Try.ntmps64
      go_wp2_with fail
      refine (raUpTo_any 0 _ (by omega)).mono ?_
      rintro e w1 ⟨u1, rfl, ho1, hb1⟩
      obtain ⟨ao, c, rfl⟩ := ho1.slice2
      have HL := hid (Lists_lit ho1 hb1.size)
      have HB := hid (hb1.alloc hb1.size (.cells #[.slice ao (upTo 0).length c] 22))
      clear ho1 hb1
      go_wp2_with fail
      go_ret
      exact ⟨_, rfl, HL.out, HB.out⟩
    | succ k =>
      by_cases hkn : k = n
      · subst hkn
        have HR := hid (show revL (k + 1) (k + 1) = [upTo (k + 1)] by rw [revL, if_pos rfl])
        have h0 : ((k : Int) + 1 == 0) = false := beq_false_of_ne (by omega)
        have HUP := hid (raUpTo_any (k + 1) w (by omega))
        rw [show ((k + 1 : Nat) : Int) = (k : Int) + 1 from rfl] at HUP ⊢
        go_enter Try.func64, Try.ntmps64
        go_wp2_with fail
        refine HUP.out.mono ?_
        rintro e w1 ⟨u1, rfl, ho1, hb1⟩
        obtain ⟨ao, c, rfl⟩ := ho1.slice2
        have HL := hid (Lists_lit ho1 hb1.size)
        have HB := hid (hb1.alloc hb1.size (.cells #[.slice ao (upTo (k + 1)).length c] 22))
        clear ho1 hb1
        go_wp2_with fail
        go_ret
        exact ⟨_, rfl, by rw [HR.out]; exact HL.out, HB.out⟩
      · have hk1 : k + 1 ≤ n := by omega
        obtain ⟨i0, hi, hz0, hz1, hz2⟩ := info_parts Try.info3
        obtain ⟨j0, hj, hy0, hy1, hy2⟩ := info_parts Try.infoL
        have h0 : ((k : Int) + 1 == 0) = false := beq_false_of_ne (by omega)
        have h1 : ((k : Int) + 1 == (n : Int) + 1) = false := beq_false_of_ne (by omega)
        have hwn : IntKind.i64.wrap ((n : Int) + 1 - 1) = (n : Int) := by rw [show (n : Int) + 1 - 1 = n by omega]; exact IntWalk.i64_in _ (by omega)
        have hwk : IntKind.i64.wrap ((k : Int) + 1 - 1) = (k : Int) := by rw [show (k : Int) + 1 - 1 = k by omega]; exact IntWalk.i64_in _ (by omega)
        have hwn2 : IntKind.i64.wrap (n : Int) = (n : Int) := IntWalk.i64_in _ (by omega)
        have hwk2 : IntKind.i64.wrap (k : Int) = (k : Int) := IntWalk.i64_in _ (by omega)
        obtain ⟨R1, hR1⟩ : ∃ R, R = revL n (k + 1) := ⟨_, rfl⟩
        obtain ⟨R2, hR2⟩ : ∃ R, R = revL n k := ⟨_, rfl⟩
        have HREV := hid (show revL (n + 1) (k + 1) = R1 ++ R2.reverse.map (fun l => l ++ [(n : Int)]) by rw [revL, if_neg hkn, hR1, hR2])
        have hb1 : R1.length ≤ 4096 := by rw [hR1]; exact Nat.le_trans (revL_bound n _) (pow12_le (by omega))
        have hb2 : R2.length ≤ 4096 := by rw [hR2]; exact Nat.le_trans (revL_bound n _) (pow12_le (by omega))
        have hp2 : 0 < R2.length := by rw [hR2]; exact revL_pos n k
        have HEL := hid (show ∀ l ∈ R2, l.length = k by rw [hR2]; exact revL_elem n k (by omega))
        have HIH1 := hid (ih (k + 1) w (by omega) hk1)
        have HIH2 := hid (fun w' => ih k w' (by omega) (by omega))
        rw [← hR1] at HIH1
        rw [← hR2] at HIH2
        rw [show ((k + 1 : Nat) : Int) = (k : Int) + 1 from rfl] at HIH1 ⊢
        rw [show ((n + 1 : Nat) : Int) = (n : Int) + 1 from rfl]
        clear hR1 hR2 hkn ih
        go_enter Try.func64, Try.ntmps64
        go_wp2_with fail
        refine HIH1.out.mono ?_
        rintro e w1 ⟨u1, rfl, hu1, hbl1⟩
        have HU1 := hid hu1
        have HBL1 := hid hbl1
        have hs1 := hbl1.size
        clear hu1 hbl1
        go_wp2_with fail
        refine (HIH2.out _).mono ?_
        rintro e w2 ⟨u2, rfl, hu2, hbl2⟩
        have HLOW := hid (HU1.out.low)
        have HU1' := hid (HU1.out.below hbl2)
        have HBL2 := hid (Below_chain HBL1.out hbl2)
        have hs2 := hbl2.size
        clear hbl2
        rcases hu2.form with ⟨rfl, hnil⟩ | ⟨g, cap, rfl, hgl, hg, hc1, hmx, hcl⟩
        · rw [hnil] at hp2; simp at hp2
        · have HU2 := hid hu2
          have hwl : IntKind.i64.wrap ((R2.length : Int) - 1) = (R2.length : Int) - 1 := IntWalk.i64_in _ (by omega)
          clear hu2 hcl
          go_wp2_with fail
          go_loopw [5, 7] (fun ov i wr => ∃ r : Nat, r ≤ R2.length ∧ i = .int .i64 ((r : Int) - 1) ∧ Lists wr w.heap.size ov (R1 ++ (R2.reverse.take (R2.length - r)).map (fun l => l ++ [(n : Int)])) ∧ Lists wr w1.heap.size (.slice (some ⟨g, 0, none⟩) R2.length cap) R2 ∧ Apart w1.heap.size w2.heap.size ov ∧ w2.heap.size ≤ wr.heap.size ∧ Below w.heap.size w wr) (fun _ i _ => (intOf i + 1).toNat)
          case atStart => exact ⟨R2.length, Nat.le_refl _, by first | rfl | simp, by simpa using HU1'.out, HU2.out, fun q hq => .inl (HLOW.out q hq).2, Nat.le_refl _, HBL2.out⟩
          case round =>
            obtain ⟨r, hr, rfl, hov, hul, hap, hsw, hbw⟩ := hrel
            have HUL := hid hul
            have HAP := hid hap
            have HBW := hid hbw
            clear hap hbw
            cases r with
            | zero =>
              have HFIN := hid (show Lists wr w.heap.size u5 (R1 ++ R2.reverse.map (fun l => l ++ [(n : Int)])) by
                have h9 := hov
                rw [Nat.sub_zero, List.take_of_length_le (by simp)] at h9
                exact h9)
              rw [show ((0 : Nat) : Int) - 1 = -1 from rfl]
              clear hov hul
              go_wp2_with fail
              go_ret
              exact ⟨_, rfl, by rw [HREV.out]; exact HFIN.out, HBW.out⟩
            | succ q =>
              rw [show ((q + 1 : Nat) : Int) - 1 = (q : Int) from by omega]
              have hq : q < R2.length := by omega
              have hzz : ∃ z, wr.cell? ⟨g, q, none⟩ = some z ∧ Own wr w1.heap.size z R2[q] := by
                rcases hul.form with ⟨h8, _⟩ | ⟨g', cap', e, _, _, _, _, hcl⟩
                · simp at h8
                · simp only [Value.slice.injEq, Option.some.injEq, Addr.mk.injEq, and_true] at e
                  obtain ⟨rfl, _⟩ := e
                  exact hcl q hq
              obtain ⟨z, hcz, hzo⟩ := hzz
              obtain ⟨l, hl⟩ : ∃ l, l = R2[q] := ⟨_, rfl⟩
              rw [← hl] at hzo
              have HZO := hid hzo
              have hll : l.length = k := by rw [hl]; exact HEL.out _ (List.getElem_mem _)
              obtain ⟨L, hLd⟩ : ∃ L, L = R1 ++ (R2.reverse.take (R2.length - (q + 1))).map (fun l => l ++ [(n : Int)]) := ⟨_, rfl⟩
              have hLl : L.length ≤ 10000 := by
                rw [hLd, List.length_append, List.length_map]
                have := List.length_take_le (R2.length - (q + 1)) R2.reverse
                omega
              rw [← hLd] at hov
              have HOV := hid hov
              have HNEXT := hid (show R1 ++ (R2.reverse.take (R2.length - q)).map (fun l => l ++ [(n : Int)]) = L ++ [l ++ [(n : Int)]] by
                rw [show R2.length - q = R2.length - (q + 1) + 1 by omega, rev_take hq, List.map_append, ← List.append_assoc, ← hLd, ← hl]; rfl)
              have hq0 : (0 : Int) ≤ (q : Int) := by omega
              have hq1 : (q : Int) < (R2.length : Int) := by omega
              have hsz := HBW.out.size
              have hl20 : l.length ≤ 1048576 := by omega
              have hl12 : l.length ≤ 12 := by omega
              clear hul hzo hl hLd hov hll
              go_wp2_with fail
              refine (l1Own_own3 _ l _ _ HZO.out hl20).mono ?_
              rintro e w3 ⟨u3, rfl, ho3, hb3⟩
              have HO3 := hid ho3
              have HB3 := hid hb3
              have hs3 := hb3.size
              clear ho3 hb3
              go_wp2_with (first
                | (at_builtin; refine wpList_append_own _ rfl (.tmp 39) (.tmp 42) 22 rfl wr.heap.size 3 i0 (.int .i64 0) 1 8 Try.underlying22 hi hz0 hz1 hz2 rfl (by decide) _ _ _ rfl (World.ownsRow.alloc HO3.out.row _) ⟨w3.heap.size, 0, none⟩ 1 1 [.int .i64 (n : Int)] rfl rfl (fun j y hj => new_cell1 j hj) (ints_one [(n : Int)]) (by unfold maxLen; omega) (by omega) (by simp; omega) ?_; intro v4 w4 hown4 hgrow4 hn4; have ho4 := Own.snoc hown4; have HB4 := hid (show Below wr.heap.size wr w4 from (HB3.out.alloc hs3 (.cells #[.int .i64 (n : Int)] 3)).grown hgrow4 (by simp; omega) (fun q hq => (World.ownsRow.lt HO3.out q hq).1)); obtain ⟨g4, n4, c4, rfl⟩ := Own.shape ho4 (by simp); have hs4 := HB4.out.size; have HONE := hid ho4.one; have HO4 := hid (ho4.below ((Below.refl _ _).alloc (Nat.le_refl _) (.cells #[.slice (some ⟨g4, 0, none⟩) n4 c4] 22))); have HB4A := hid (HB4.out.alloc hs4 (.cells #[.slice (some ⟨g4, 0, none⟩) n4 c4] 22)); have HLA := HOV.out.below HB4A.out; obtain ⟨vs, hvl, hvr, hve⟩ := HLA; have HVL := hid hvl; have HVR := hid hvr; have HVE := hid hve; clear hown4 hgrow4 hn4 ho4 hvl hvr hve)
                | (at_builtin; refine wpList_append_lies _ rfl (.tmp 34) (.tmp 44) 28 rfl w.heap.size 22 j0 (.slice none 0 0) 1 24 Try.underlying28 hj hy0 hy1 hy2 rfl (by decide) _ _ _ rfl HVR.out ⟨w4.heap.size, 0, none⟩ 1 1 [.slice (some ⟨g4, 0, none⟩) n4 c4] rfl rfl (fun j u hj => new_cellV j hj) HONE.out (Nat.zero_lt_one) ?c3 ?c4 ?c5 ?_)
                | fail)
              case c3 => unfold maxLen; omega
              case c4 => omega
              case c5 => simp; omega
              intro g5 cap5 w5 hown5 hgrow5 hor
              have hbase : wr.heap.size ≤ (w4.alloc (.cells #[.slice (some ⟨g4, 0, none⟩) n4 c4] 22)).heap.size := Nat.le_trans hs4 (size_alloc2 _ _)
              have HPU := hid (show Lists w5 w.heap.size (.slice (some ⟨g5, 0, none⟩) (L.length + 1) cap5) (L ++ [l ++ [(n : Int)]]) from Lists_push HVL.out HVR.out HVE.out (HO4.out.mono (by omega)) hown5 hgrow5)
              have HB5 := hid (show Below w.heap.size w w5 from ((Below_chain HBW.out HB4.out).alloc (Nat.le_trans hsz hs4) (.cells #[.slice (some ⟨g4, 0, none⟩) n4 c4] 22)).grown hgrow5 (Nat.le_trans hsz hbase) (fun q hq => (World.ownsRow.lt HVR.out q hq).1))
              have HU5 := hid (Lists_kept (HUL.out.below HB4A.out) HVR.out hgrow5 (fun e => by
                rcases HAP.out g e with h | h <;> omega))
              have HA5 := hid (show Apart w1.heap.size w2.heap.size (.slice (some ⟨g5, 0, none⟩) (L.length + 1) cap5) from fun q hq => by
                simp only [Value.ownBlock, Option.some.injEq] at hq
                subst hq
                rcases hor with h | h
                · exact HAP.out g5 h
                · right; omega)
              have hs5 : w2.heap.size ≤ w5.heap.size := Nat.le_trans hsw (Nat.le_trans hbase hgrow5.size)
              clear hown5 hgrow5 hor
              go_wp2_with fail
              go_roundw
              case rel => exact ⟨q, by omega, by go_num, by rw [HNEXT.out]; exact HPU.out, HU5.out, HA5.out, hs5, HB5.out⟩
              case measure => simp [intOf] <;> omega
end Go.Proofs.Ytijjdidljoicfaa
