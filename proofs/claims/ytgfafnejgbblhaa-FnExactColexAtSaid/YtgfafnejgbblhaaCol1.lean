/- Contract: raColex, all combinations in colexicographic order. Conditions: n at most 12, k at most 12. -/
import Derived.Test.YtgfafnejgbblhaaCAt1
import Derived.Test.YtgfafnejgbblhaaColM
namespace Go.Proofs.Ytgfafnejgbblhaa
open Go.RowKit
set_option linter.unusedVariables false

theorem colL_bound (n : Nat) (hn : n ≤ 12) (k : Nat) (hk : k ≤ 12) : (colL n k).length ≤ 2000 := by
  rw [colL_len n k]
  exact binom_sum _ (by omega) _ (by omega)
set_option maxHeartbeats 1600000 in
theorem raColex_any (n : Nat) : ∀ (k : Nat) (w : World), n ≤ 12 → k ≤ 12 →
    Calls Try.prog 60 #[.int .i64 (n : Int), .int .i64 (k : Int)] w fun e w' => ∃ u, e = .returned u ∧ Lists w' w.heap.size u (colL n k) ∧ Below w.heap.size w w' := by
  induction n with
  | zero =>
    intro k w _ _
    by_cases hk0 : k = 0
    · subst hk0
      go_enter Try.func60, Try.ntmps60
      go_wp2_with fail
      go_ret
      refine ⟨_, rfl, ⟨[.slice none 0 0], rfl, World.ownsRow_lit w #[.slice none 0 0] 1 (Nat.le_refl _) (by unfold maxLen; omega) rfl, fun i h1 h2 => ?_⟩, (Below.refl _ _).alloc (Nat.le_refl _) _⟩
      have : i = 0 := by simpa using h2
      subst this
      exact Own.nil _ _
    · have hne : ((k : Int) == 0) = false := beq_eq_false_iff_ne.2 (by omega)
      have HE := hid (show colL 0 k = [] by obtain ⟨j, rfl⟩ : ∃ j, k = j + 1 := ⟨k - 1, by omega⟩; rfl)
      go_enter Try.func60, Try.ntmps60
      go_wp2_with fail
      go_ret
      exact ⟨_, rfl, by rw [HE.out]; exact Lists.nil _ _, Below.refl _ _⟩
  | succ n ih =>
    intro k w hn hk
    by_cases hk0 : k = 0
    · subst hk0
      go_enter Try.func60, Try.ntmps60
      go_wp2_with fail
      go_ret
      refine ⟨_, rfl, ⟨[.slice none 0 0], rfl, World.ownsRow_lit w #[.slice none 0 0] 1 (Nat.le_refl _) (by unfold maxLen; omega) rfl, fun i h1 h2 => ?_⟩, (Below.refl _ _).alloc (Nat.le_refl _) _⟩
      have : i = 0 := by simpa using h2
      subst this
      exact Own.nil _ _
    · obtain ⟨k, rfl⟩ : ∃ j, k = j + 1 := ⟨k - 1, by omega⟩
      obtain ⟨i0, hi, hz0, hz1, hz2⟩ := info_parts Try.info3
      obtain ⟨j0, hj, hy0, hy1, hy2⟩ := info_parts Try.infoL
      have hne : ((k : Int) + 1 == 0) = false := beq_eq_false_iff_ne.2 (by omega)
      have hne2 : ((n : Int) + 1 == 0) = false := beq_eq_false_iff_ne.2 (by omega)
      have E1 := hid (show (k : Int) + 1 = ((k + 1 : Nat) : Int) by omega)
      have E2 := hid (show (n : Int) + 1 - 1 = ((n : Nat) : Int) by omega)
      have E3 := hid (show (k : Int) + 1 - 1 = ((k : Nat) : Int) by omega)
      have hcb := colL_bound n (by omega) (k + 1) hk
      have hcb2 := colL_bound n (by omega) k (by omega)
      have HIH1 := hid (ih (k + 1) w (by omega) hk)
      obtain ⟨Lk, hLk⟩ : ∃ Lk, Lk = colL n k := ⟨_, rfl⟩
      obtain ⟨Lo, hLo⟩ : ∃ Lo, Lo = colL n (k + 1) := ⟨_, rfl⟩
      have HRES := hid (show colL (n + 1) (k + 1) = Lo ++ Lk.map (fun l => l ++ [(n : Int)]) by rw [hLk, hLo, colL])
      have HEL := hid (show ∀ l ∈ Lk, l.length = k from fun l h => (colL_elem n k l (by rw [← hLk]; exact h)).1)
      rw [← hLo] at HIH1 hcb
      rw [← hLk] at hcb2
      go_enter Try.func60, Try.ntmps60
      go_wp2_with fail
      refine HIH1.out.mono ?_
      rintro e w1 ⟨u1, rfl, hu1, hb1⟩
      have HIH2 := hid (ih k w1 (by omega) (by omega))
      rw [← hLk] at HIH2
      have HU1 := hid hu1
      have HB1 := hid hb1
      clear hu1 hb1 hLk hLo
      go_wp2_with fail
      refine HIH2.out.mono ?_
      rintro e w2 ⟨u2, rfl, hu2, hb2⟩
      have HL1 := hid (HU1.out.below hb2)
      have HLOW := hid (HU1.out.low)
      have HS2 := hid hb2.size
      have HB2 := hid (Below_chain HB1.out hb2)
      clear hb2
      rcases hu2.form with ⟨rfl, hnil⟩ | ⟨g, cap, rfl, hgl, hg, hc1, hmx, hcl⟩
      · have HN := hid hnil
        clear hu2 hnil
        go_wp2_with fail
        refine wp_loop_rounds 1 ?_
        rw [rounds_succ]
        go_wp2_with fail
        go_ret
        exact ⟨_, rfl, by rw [HRES.out, HN.out, List.map_nil, List.append_nil]; exact HL1.out, HB2.out⟩
      · have HUL := hid hu2
        clear hu2 hcl
        go_wp2_with fail
        go_loopw [5, 7, 23] (fun ov _ i wr => ∃ t : Nat, t ≤ Lk.length ∧ i = .int .i64 t ∧ Lists wr w.heap.size ov (Lo ++ (Lk.take t).map (fun l => l ++ [(n : Int)])) ∧ Lists wr w1.heap.size (.slice (some ⟨g, 0, none⟩) Lk.length cap) Lk ∧ Apart w1.heap.size w2.heap.size ov ∧ w2.heap.size ≤ wr.heap.size ∧ Below w.heap.size w wr) (fun _ _ i _ => Lk.length - (intOf i).toNat)
        case atStart => exact ⟨0, Nat.zero_le _, rfl, by simpa using HL1.out, HUL.out, fun q hq => .inl (HLOW.out q hq).2, Nat.le_refl _, HB2.out⟩
        case round =>
          obtain ⟨t, ht, rfl, hlt2, hul, hap, hsw, hb2⟩ := hrel
          have HLT := hid hlt2
          have HUL2 := hid hul
          have HAP := hid hap
          have HB2 := hid hb2
          clear hlt2 hap hb2
          by_cases hlt3 : t < Lk.length
          · have hzz : ∃ z, wr.cell? ⟨g, t, none⟩ = some z ∧ Own wr w1.heap.size z Lk[t] := by
              rcases hul.form with ⟨h1, _⟩ | ⟨g', cap', e, _, _, _, _, hcl⟩
              · simp at h1
              · simp only [Value.slice.injEq, Option.some.injEq, Addr.mk.injEq, and_true] at e
                obtain ⟨rfl, _⟩ := e
                exact hcl t hlt3
            obtain ⟨z, hcz, hzo⟩ := hzz
            obtain ⟨l, hl⟩ : ∃ l, l = Lk[t] := ⟨_, rfl⟩
            rw [← hl] at hzo
            have HZO := hid hzo
            have hll : l.length = k := by
              rw [hl]; exact HEL.out _ (List.getElem_mem _)
            have HL20 := hid (show l.length ≤ 1048576 by omega)
            have HLEN := hid (show l.length + [(n : Int)].length ≤ 1048576 by simp; omega)
            have HTS := hid (show Lk.take (t + 1) = Lk.take t ++ [l] by rw [List.take_succ_eq_append_getElem hlt3, hl])
            obtain ⟨L, hLd⟩ : ∃ L, L = Lo ++ (Lk.take t).map (fun l => l ++ [(n : Int)]) := ⟨_, rfl⟩
            have hLl : L.length ≤ 30000 := by
              rw [hLd, List.length_append, List.length_map]
              have h1 : (Lk.take t).length ≤ t := List.length_take_le _ _
              omega
            rw [← hLd] at HLT
            have HNEXT := hid (show Lo ++ (Lk.take (t + 1)).map (fun l => l ++ [(n : Int)]) = L ++ [l ++ [(n : Int)]] by
              rw [HTS.out, List.map_append, ← List.append_assoc, ← hLd]; rfl)
            have hsz := HB2.out.size
            clear hul hzo hl hLd hll
            go_wp2_with fail
            refine (l1Own_own z l _ wr HZO.out HL20.out).mono ?_
            rintro e w3 ⟨u3, rfl, hu3, hb3⟩
            have hs3 : wr.heap.size ≤ w3.heap.size := hb3.size
            have HU3 := hid (hu3.below ((Below.refl _ _).alloc (Nat.le_refl _) (.cells #[.int .i64 (n : Int)] 3)))
            have HLIT := hid (Own.lit1 w3 (n : Int))
            have HSA := hid (Nat.le_trans hs3 (size_alloc2 w3 (.cells #[.int .i64 (n : Int)] 3)))
            have HB3A := hid (hb3.alloc hs3 (.cells #[.int .i64 (n : Int)] 3))
            clear hu3 hb3
            go_wp2_with (first
              | (at_builtin; refine wpList_append_src _ rfl (.tmp 29) (.tmp 32) 27 rfl wr.heap.size i0 Try.underlying27 hi hz0 hz1 hz2 u3 l rfl HU3.out (.slice (some ⟨w3.heap.size, 0, none⟩) 1 1) _ [(n : Int)] rfl HLIT.out HLEN.out HSA.out ?_; intro v3 w4 hown3 hgrow3; obtain ⟨g3, n3, cap3, rfl⟩ := Own.shape hown3 (by simp); have HB4 := hid (HB3A.out.grown hgrow3 HSA.out (fun q hq => (World.ownsRow.lt HU3.out.row q hq).1)); have HB4A := hid (HB4.out.alloc HB4.out.size (.cells #[(.slice (some ⟨g3, 0, none⟩) n3 cap3)] 27)); have HO3 := hid (hown3.below ((Below.refl _ _).alloc (Nat.le_refl _) (.cells #[(.slice (some ⟨g3, 0, none⟩) n3 cap3)] 27))); have HLA := HLT.out.below HB4A.out; obtain ⟨vs, hvl, hvr, hve⟩ := HLA; have HVR := hid hvr; have HVE := hid hve; have HVL := hid hvl; have hs4 := HB4.out.size; have HV3 := hid hown3.one; clear hown3 hgrow3 hvr hve hvl)
              | (at_builtin; refine wpList_append_lies _ rfl (.tmp 27) (.tmp 34) 40 rfl w.heap.size 27 j0 (.slice none 0 0) 1 24 Try.underlying40 hj hy0 hy1 hy2 rfl (by decide) _ _ _ rfl HVR.out ⟨w4.heap.size, 0, none⟩ 1 1 [(.slice (some ⟨g3, 0, none⟩) n3 cap3)] rfl rfl (fun j u hj => new_cellV j hj) HV3.out (Nat.zero_lt_one) ?c3 ?c4 ?c5 ?_)
              | fail)
            case c3 => unfold maxLen; omega
            case c4 => omega
            case c5 => (try simp); omega
            intro g4 cap4 w5 hown4 hgrow4 hor
            have hbase : wr.heap.size ≤ (w4.alloc (.cells #[(.slice (some ⟨g3, 0, none⟩) n3 cap3)] 27)).heap.size := Nat.le_trans hs4 (size_alloc2 _ _)
            have HPU := hid (show Lists w5 w.heap.size (.slice (some ⟨g4, 0, none⟩) (L.length + 1) cap4) (L ++ [l ++ [(n : Int)]]) from Lists_push HVL.out HVR.out HVE.out (HO3.out.mono hsz) hown4 hgrow4)
            have HB5 := hid (((Below_chain HB2.out HB4.out).alloc (Nat.le_trans hsz hs4) (.cells #[(.slice (some ⟨g3, 0, none⟩) n3 cap3)] 27)).grown hgrow4 (Nat.le_trans hsz hbase) (fun q hq => (World.ownsRow.lt HVR.out q hq).1))
            have HU4 := hid (Lists_kept (HUL2.out.below HB4A.out) HVR.out hgrow4 (fun e => by
              rcases HAP.out g e with h | h <;> omega))
            have HA4 := hid (show Apart w1.heap.size w2.heap.size (.slice (some ⟨g4, 0, none⟩) (L.length + 1) cap4) from fun q hq => by
              simp only [Value.ownBlock, Option.some.injEq] at hq
              subst hq
              rcases hor with h | h
              · exact HAP.out g4 h
              · right; omega)
            have hs5 : w2.heap.size ≤ w5.heap.size := Nat.le_trans hsw (Nat.le_trans hbase hgrow4.size)
            clear hown4 hgrow4 hor
            go_wp2_with fail
            go_roundw
            case rel => first | exact ⟨t + 1, by omega, by go_num, by rw [HNEXT.out]; exact HPU.out, HU4.out, HA4.out, hs5, HB5.out⟩ | ((repeat apply Exists.intro); exact ⟨⟨t + 1, by omega, by go_num, by rw [HNEXT.out]; exact HPU.out, HU4.out, HA4.out, hs5, HB5.out⟩, rfl⟩)
            case measure => simp [intOf]; omega
          · obtain rfl : t = Lk.length := by omega
            clear hul
            go_wp2_with fail
            go_ret
            exact ⟨_, rfl, by rw [HRES.out]; simpa using HLT.out, HB2.out⟩
end Go.Proofs.Ytgfafnejgbblhaa
