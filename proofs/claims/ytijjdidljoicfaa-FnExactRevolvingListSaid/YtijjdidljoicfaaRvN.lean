/- Contracts: revolvingList and impl.RevolvingList. Conditions: none (of revolvingList: k <= n <= 12). -/
import Derived.Test.YtijjdidljoicfaaRvL
namespace Go.Proofs.Ytijjdidljoicfaa
open Go.RowKit
set_option linter.unusedVariables false

theorem revL_k0 (n : Nat) : revL n 0 = [upTo 0] := by cases n <;> rfl
theorem RowsN.get {w : World} {b : Nat} {v : Value} {L : List (List Int)} (h : RowsN w b v L) : ∃ g cap vs, v = .slice (some ⟨g, 0, none⟩) L.length cap ∧ vs.length = L.length ∧ w.ownsRow b 22 1 (.slice (some ⟨g, 0, none⟩) L.length cap) L.length vs ∧ (∀ i (h1 : i < L.length) (h2 : i < vs.length), Own w b vs[i] L[i]) ∧
    (∀ i j (h1 : i < vs.length) (h2 : j < vs.length) (g : Nat), i ≠ j → vs[i].ownBlock = some g → vs[j].ownBlock ≠ some g) ∧ ∀ i (h1 : i < vs.length), ∃ q k c, vs[i] = .slice (some ⟨q, 0, none⟩) k c := by
  obtain ⟨g, cap, rfl, vs, h1, h2, h3, h4, h5⟩ := h
  exact ⟨g, cap, vs, rfl, h1, h2, h3, h4, h5⟩
theorem rows_low {w : World} {b : Nat} {L : List (List Int)} {vs : List Value} (h1 : vs.length = L.length) (h3 : ∀ i (h1 : i < L.length) (h2 : i < vs.length), Own w b vs[i] L[i]) : ∀ i (h : i < vs.length) g, vs[i].ownBlock = some g → b ≤ g ∧ g < w.heap.size :=
  fun i h g hg => World.ownsRow.lt (h3 i (by omega) h) g hg
theorem one_cells {vs : List Value} (h5 : ∀ i (h1 : i < vs.length), ∃ q k c, vs[i] = .slice (some ⟨q, 0, none⟩) k c) : ∀ u ∈ vs, u.oneCell' = true := by
  intro u hu
  obtain ⟨i, hi, rfl⟩ := List.mem_iff_getElem.1 hu
  obtain ⟨q, k, c, e⟩ := h5 i hi
  rw [e]; rfl
theorem Sits_two2 {w : World} {u1 u2 : Value} {a b : List Int} (h1 : Sits w u1 a) (h2 : Sits w u2 b) :
    SitsL (w.alloc (.cells #[u1, u2] 22)) (.slice (some ⟨w.heap.size, 0, none⟩) 2 2) [a, b] := by
  have hb : Below w.heap.size w (w.alloc (.cells #[u1, u2] 22)) := (Below.refl _ _).alloc (Nat.le_refl _) _
  refine ⟨w.heap.size, 0, 2, rfl, Nat.le_refl _, by omega, by simp, fun i hi => ?_⟩
  match i, hi with
  | 0, _ => exact ⟨u1, by simp, h1.below hb⟩
  | 1, _ => exact ⟨u2, by simp, h2.below hb⟩
set_option maxHeartbeats 4000000 in
theorem revolvingList_any (n : Nat) : ∀ (k : Nat) (w : World), n ≤ 12 → k ≤ n →
    Calls Try.prog 70 #[.int .i64 (n : Int), .int .i64 (k : Int)] w fun e w' => ∃ u, e = .returned u ∧ RowsN w' w.heap.size u (revL n k) ∧ Below w.heap.size w w' := by
  induction n with
  | zero =>
    intro k w _ hk
    obtain rfl : k = 0 := by omega
    rw [show ((0 : Nat) : Int) = 0 from rfl]
    have HF := hid (firstNumbers_any 0 w (by omega))
    rw [show ((0 : Nat) : Int) = 0 from rfl] at HF
    go_enter Try.func70, Try.ntmps70
    go_wp2_with fail
    refine HF.out.mono ?_
    rintro e w1 ⟨rfl, ho1, hb1⟩
    have HL := hid (RowsN.one ho1 hb1.size)
    have HB := hid (hb1.alloc hb1.size (.cells #[.slice (some ⟨w.heap.size, 0, none⟩) 0 0] 22))
    clear ho1 hb1
    go_wp2_with fail
    go_ret
    exact ⟨_, rfl, HL.out, HB.out⟩
  | succ n ih =>
    intro k w hn hk
    by_cases hkb : k = 0 ∨ k = n + 1
    · have HR := hid (show revL (n + 1) k = [upTo k] by
        rcases hkb with rfl | rfl
        · exact revL_k0 _
        · exact revL_self _)
      have HF := hid (firstNumbers_any k w (by omega))
      have hgo : k = 0 ∨ (k ≠ 0 ∧ ((k : Int) == 0) = false ∧ ((k : Int) == ((n + 1 : Nat) : Int)) = true) := by
        by_cases h0 : k = 0
        · exact .inl h0
        · exact .inr ⟨h0, beq_false_of_ne (by omega), by have : k = n + 1 := by omega
                                                         rw [this]; simp⟩
      clear hkb ih
      rcases hgo with rfl | ⟨_, h1, h2⟩
      · rw [show ((0 : Nat) : Int) = 0 from rfl] at HF ⊢
        go_enter Try.func70, Try.ntmps70
        go_wp2_with fail
        refine HF.out.mono ?_
        rintro e w1 ⟨rfl, ho1, hb1⟩
        have HL := hid (RowsN.one ho1 hb1.size)
        have HB := hid (hb1.alloc hb1.size (.cells #[.slice (some ⟨w.heap.size, 0, none⟩) 0 0] 22))
        clear ho1 hb1
        go_wp2_with fail
        go_ret
        exact ⟨_, rfl, by rw [HR.out]; exact HL.out, HB.out⟩
      · obtain ⟨N, hN⟩ : ∃ N : Int, N = ((n + 1 : Nat) : Int) := ⟨_, rfl⟩
        rw [← hN] at h2 ⊢
        clear hN
        go_enter Try.func70, Try.ntmps70
        go_wp2_with fail
        refine HF.out.mono ?_
        rintro e w1 ⟨rfl, ho1, hb1⟩
        have HL := hid (RowsN.one ho1 hb1.size)
        have HB := hid (hb1.alloc hb1.size (.cells #[.slice (some ⟨w.heap.size, 0, none⟩) k k] 22))
        clear ho1 hb1
        go_wp2_with fail
        go_ret
        exact ⟨_, rfl, by rw [HR.out]; exact HL.out, HB.out⟩
    · obtain ⟨k, rfl⟩ : ∃ j, k = j + 1 := ⟨k - 1, by omega⟩
      have hk1 : k + 1 ≤ n := by omega
      have h0 : ((k : Int) + 1 == 0) = false := beq_false_of_ne (by omega)
      have h1 : ((k : Int) + 1 == (n : Int) + 1) = false := beq_false_of_ne (by omega)
      have hwn : IntKind.i64.wrap ((n : Int) + 1 - 1) = (n : Int) := by rw [show (n : Int) + 1 - 1 = n by omega]; exact IntWalk.i64_in _ (by omega)
      have hwk : IntKind.i64.wrap ((k : Int) + 1 - 1) = (k : Int) := by rw [show (k : Int) + 1 - 1 = k by omega]; exact IntWalk.i64_in _ (by omega)
      have hwn2 : IntKind.i64.wrap (n : Int) = (n : Int) := IntWalk.i64_in _ (by omega)
      have hwk2 : IntKind.i64.wrap (k : Int) = (k : Int) := IntWalk.i64_in _ (by omega)
      obtain ⟨R1, hR1⟩ : ∃ R, R = revL n (k + 1) := ⟨_, rfl⟩
      obtain ⟨R2, hR2⟩ : ∃ R, R = revL n k := ⟨_, rfl⟩
      have HREV := hid (show revL (n + 1) (k + 1) = R1 ++ R2.reverse.map (fun l => l ++ [(n : Int)]) by rw [revL, if_neg (by omega), hR1, hR2])
      have hb1 : R1.length ≤ 4096 := by rw [hR1]; exact Nat.le_trans (revL_bound n _) (pow12_le (by omega))
      have hb2 : R2.length ≤ 4096 := by rw [hR2]; exact Nat.le_trans (revL_bound n _) (pow12_le (by omega))
      have HEL := hid (show ∀ l ∈ R2, l.length = k by rw [hR2]; exact revL_elem n k (by omega))
      have HIH2 := hid (ih k w (by omega) (by omega))
      have HIH1 := hid (fun w' => ih (k + 1) w' (by omega) hk1)
      rw [← hR1] at HIH1
      rw [← hR2] at HIH2
      rw [show ((k + 1 : Nat) : Int) = (k : Int) + 1 from rfl] at HIH1 ⊢
      rw [show ((n + 1 : Nat) : Int) = (n : Int) + 1 from rfl]
      clear hR1 hR2 hkb ih
      go_enter Try.func70, Try.ntmps70
      go_wp2_with fail
      refine HIH2.out.mono ?_
      rintro e w1 ⟨u1, rfl, hu1, hbl1⟩
      obtain ⟨g, cap, vs, rfl, v1, v2, v3, v4, v5⟩ := hu1.get
      have HBL1 := hid hbl1
      have hs1 := hbl1.size
      have hv1 : ∀ j, j < R2.length → ∃ ao k c, vs.getD j undef = .slice ao k c := fun j hj => by
        obtain ⟨q, k', c, e⟩ := v5 j (by omega)
        exact ⟨some ⟨q, 0, none⟩, k', c, by rw [List.getD_eq_getElem?_getD, List.getElem?_eq_getElem (by omega), Option.getD_some, e]⟩
      have HREVC := hid (Reverse_rows g R2.length cap w.heap.size vs w1 v2 (by omega) hv1)
      have HRV := hid (fun (w2 : World) (h1 : w2.ownsRow w.heap.size 22 1 (.slice (some ⟨g, 0, none⟩) R2.length cap) R2.length vs.reverse) (h2 : w1.grownBy w2 (some g)) => RowsN.reversed v1 v2 v3 v4 v5 ⟨g, cap, rfl⟩ h1 h2)
      have HGLOW := hid (World.ownsRow.lt v2 g rfl)
      clear hu1 hbl1 v1 v2 v3 v4 v5 hv1
      go_wp2_with fail
      refine HREVC.out.mono ?_
      rintro e w2 ⟨rfl, hr2, hg2⟩
      have HV2 := hid (HRV.out w2 hr2 hg2)
      have HBL2 := hid (show Below w.heap.size w w2 from HBL1.out.grown hg2 hs1 (fun q hq => by cases hq; exact HGLOW.out.1))
      have hs2 := HBL2.out.size
      have HREL := hid (show ∀ l ∈ R2.reverse, l.length = k from fun l hl => HEL.out l (List.mem_reverse.1 hl))
      have hRl : R2.reverse.length = R2.length := List.length_reverse
      obtain ⟨R, hR⟩ : ∃ R, R = R2.reverse := ⟨_, rfl⟩
      obtain ⟨m, hm⟩ : ∃ m, m = R2.length := ⟨_, rfl⟩
      rw [← hR] at HV2 HREV HREL hRl
      rw [← hm] at HV2 hRl hb2 ⊢
      have HRL := hid hRl
      clear hr2 hg2 hR hm HRV HREVC HIH2 HEL HBL1
      go_wp2_with fail
      go_loopw [6, 7, 27] (fun _ _ i wr => ∃ (t : Nat) (L : List (List Int)), t ≤ m ∧ i = .int .i64 (t : Int) ∧ RowsN wr w.heap.size (.slice (some ⟨g, 0, none⟩) m cap) L ∧ L.length = m ∧ (∀ j, j < m → L.getD j [] = if j < t then R.getD j [] ++ [(n : Int)] else R.getD j []) ∧ Below w.heap.size w wr) (fun _ _ i _ => m - (intOf i).toNat)
      case atStart => exact ⟨0, R, Nat.zero_le _, rfl, HV2.out, HRL.out, fun j hj => by rw [if_neg (by omega)], HBL2.out⟩
      case round =>
        obtain ⟨t, L, ht, rfl, hrows, hLl, hL, hbel⟩ := hrel
        have HROWS := hid hrows
        have HL := hid hL
        have HB := hid hbel
        have HLL := hid hLl
        have hsw := hbel.size
        clear hL hbel
        by_cases hlt : t < m
        · obtain ⟨q, k', c, hcx, hq, hfz⟩ := hrows.row (i := t) (by omega)
          obtain ⟨l, hl⟩ : ∃ l, l = L[t]'(by omega) := ⟨_, rfl⟩
          rw [← hl] at hq
          have hlR : l = R.getD t [] := by
            have h8 := HL.out t hlt
            rw [if_neg (by omega), getDL2 (by omega), ← hl] at h8
            exact h8
          have hlk : l.length = k := by
            rw [hlR, getDL2 (by have := HRL.out; omega)]
            exact HREL.out _ (List.getElem_mem _)
          have HLR := hid hlR
          have HA1 := hid ((Below.refl wr.heap.size wr).alloc (Nat.le_refl _) (.cells #[.int .i64 (n : Int)] 3))
          have hz1 : (wr.alloc (.cells #[.int .i64 (n : Int)] 3)).heap.size = wr.heap.size + 1 := by simp
          have HS2 := hid (Sits_two2 (hq.below HA1.out).sits (Own.lit9 wr (n : Int)).sits)
          rw [hz1] at HS2
          clear hz1
          have HA2 := hid (HA1.out.alloc HA1.out.size (.cells #[.slice (some ⟨q, 0, none⟩) k' c, .slice (some ⟨wr.heap.size, 0, none⟩) 1 1] 22))
          have HFE := hid (show [l, [(n : Int)]].flatten = l ++ [(n : Int)] by simp)
          have HN2 := hid (show [l, [(n : Int)]].length ≤ 1048576 by show 2 ≤ 1048576; omega)
          have HFL := hid (show (l ++ [(n : Int)]).length = k + 1 by simp [hlk])
          have HFZ := hid hfz
          clear hrows hq hlR hlk hl hfz hLl
          go_wp2_with fail
          refine (joined_is _ _ (l ++ [(n : Int)]) (k + 1) _ HS2.out HN2.out HFE.out HFL.out (by omega)).mono ?_
          rintro e w3 ⟨rfl, ho3, hb3⟩
          obtain ⟨q2, hq2⟩ : ∃ z, z = ((wr.alloc (.cells #[.int .i64 (n : Int)] 3)).alloc (.cells #[.slice (some ⟨q, 0, none⟩) k' c, .slice (some ⟨wr.heap.size, 0, none⟩) 1 1] 22)).heap.size := ⟨_, rfl⟩
          rw [← hq2] at ho3 ⊢
          have hq2w : wr.heap.size ≤ q2 := by rw [hq2]; exact HA2.out.size
          have hb3' := Below_chain HA2.out hb3
          obtain ⟨hput, hgput⟩ := RowsN.put HROWS.out hb3' (i := t) (by have := HLL.out; omega) (ho3.mono (Nat.le_trans hsw hq2w)) hq2w
          have HPUT := hid hput
          have hcz := (hb3'.cell (p := ⟨g, t, none⟩) (World.block_lt_of_cell? _ _ hcx)).trans hcx
          have HB3 := hid (Below_chain HB.out hb3')
          obtain ⟨_, _, _, _, _, hfz3⟩ := (HROWS.out.below hb3').row (i := t) (by have := HLL.out; omega)
          have HBP := hid (HB3.out.grown hgput HB3.out.size (fun z hz => by cases hz; exact HGLOW.out.1))
          have HLN := hid (show ∀ j, j < m → (L.set t (l ++ [(n : Int)])).getD j [] = if j < t + 1 then R.getD j [] ++ [(n : Int)] else R.getD j [] from fun j hj => by
            by_cases e : j = t
            · subst e
              rw [List.getD_eq_getElem?_getD, List.getElem?_set_self (by have := HLL.out; omega), Option.getD_some, if_pos (by omega), HLR.out]
            · rw [List.getD_eq_getElem?_getD, List.getElem?_set_ne (fun h => e h.symm), ← List.getD_eq_getElem?_getD, HL.out j hj]
              by_cases e2 : j < t
              · rw [if_pos e2, if_pos (by omega)]
              · rw [if_neg e2, if_neg (by omega)])
          clear ho3 hb3 hb3' hq2 hput hgput hcx
          go_wp2_with fail
          go_roundw
          case rel => exact ⟨t + 1, _, by omega, by go_num, HPUT.out, by rw [List.length_set]; exact HLL.out, HLN.out, HBP.out⟩
          case measure => simp [intOf] <;> omega
        · obtain rfl : t = m := by omega
          have HLE := hid (show L = R.map (fun l => l ++ [(n : Int)]) by
            apply List.ext_getElem
            · rw [List.length_map, HLL.out, HRL.out]
            · intro j h5 h6
              have h7 := HL.out j (by have := HLL.out; omega)
              rw [if_pos (by have := HLL.out; omega), getDL2 h5, getDL2 (by simpa using h6)] at h7
              rw [h7, List.getElem_map])
          rw [HLE.out] at HROWS
          clear hrows hLl
          go_wp2_with fail
          refine (HIH1.out _).mono ?_
          rintro e w5 ⟨u5, rfl, hu5, hb5⟩
          obtain ⟨g1, cap1, vs1, rfl, a1, a2, a3, a4, a5⟩ := hu5.get
          obtain ⟨g2, cap2, vs2, e2, c1, c2, c3, c4, c5⟩ := HROWS.out.get
          have hlow := rows_low a1 a3
          have hhigh := rows_low c1 c3
          rw [List.length_map, HRL.out] at e2 c2
          simp only [Value.slice.injEq, Option.some.injEq, Addr.mk.injEq, and_true, true_and] at e2
          obtain ⟨rfl, rfl⟩ := e2
          have HSV := hid (SitsV.two (SitsRow.of_own a2) (SitsRow.of_own (ownsRow_below c2 hb5)))
          have HOC := hid (show ∀ p ∈ [vs1, vs2], ∀ u ∈ p, u.oneCell' = true from fun p hp => by
            simp only [List.mem_cons, List.not_mem_nil, or_false] at hp
            rcases hp with rfl | rfl
            · exact one_cells a5
            · exact one_cells c5)
          have HP2 := hid (show [vs1, vs2].length ≤ 1048576 by show 2 ≤ 1048576; omega)
          have HFE := hid (show [vs1, vs2].flatten = vs1 ++ vs2 by simp)
          have HLN := hid (show (vs1 ++ vs2).length = R1.length + t by rw [List.length_append, a1, c1, List.length_map, HRL.out])
          have hsz5 := hb5.size
          have HA6 := hid ((Below.refl w5.heap.size w5).alloc (Nat.le_refl _) (.cells #[.slice (some ⟨g1, 0, none⟩) R1.length cap1, .slice (some ⟨g, 0, none⟩) t cap] 28))
          have HJ := hid (fun (w7 : World) (u : Value) (hb : Below w5.heap.size w5 w7) (hv : ∃ g cap, u = .slice (some ⟨g, 0, none⟩) (R1 ++ R.map (fun l => l ++ [(n : Int)])).length cap) (hr : w7.ownsRow w.heap.size 22 1 u (R1 ++ R.map (fun l => l ++ [(n : Int)])).length (vs1 ++ vs2)) =>
            RowsN.joined (B := wr.heap.size) a1 (fun i x y => (a3 i x y).mono hsw) a4 a5 (fun i h g hg => (hlow i h g hg).1) c1 (fun i x y => (c3 i x y).below hb5) c4 c5 (fun i h g hg => (hhigh i h g hg).2) hb hv hr)
          have HB5 := hid (Below_chain HB.out hb5)
          have HRT := hid (show (R1 ++ R.map (fun l => l ++ [(n : Int)])).length = R1.length + t by rw [List.length_append, List.length_map, HRL.out])
          have ht2 : R1.length + t ≤ 1048576 := by omega
          clear hu5 hb5 a1 a2 a3 a4 a5 c1 c2 c3 c4 c5 hlow hhigh
          go_wp2_with fail
          refine (joinedL_is _ _ (vs1 ++ vs2) (R1.length + t) _ HSV.out HOC.out HP2.out HFE.out HLN.out ht2).mono ?_
          rintro e w7 ⟨rfl, hr7, hb7⟩
          obtain ⟨g7, hg7⟩ : ∃ q, q = (w5.alloc (.cells #[.slice (some ⟨g1, 0, none⟩) R1.length cap1, .slice (some ⟨g, 0, none⟩) t cap] 28)).heap.size := ⟨_, rfl⟩
          rw [← hg7] at hr7 ⊢
          have hbb := Below_chain HA6.out hb7
          have HRES := hid (HJ.out w7 _ hbb ⟨g7, R1.length + t, by rw [HRT.out]⟩ (by rw [HRT.out]; exact ownsRow_mono hr7 (by rw [hg7]; exact Nat.le_trans (Nat.le_trans hsw hsz5) HA6.out.size)))
          have HB7 := hid (Below_chain HB5.out hbb)
          clear hr7 hb7 hbb hg7
          go_wp2_with fail
          go_ret
          exact ⟨_, rfl, by rw [HREV.out]; exact HRES.out, HB7.out⟩
theorem preLen_rvlRes (n k : Int) : preLen (rvlRes n k) (rvlRes n k).length ≤ 100000 := by
  cases hs : szB n k with
  | false =>
    have : rvlRes n k = [] := by rw [rvlRes, if_neg (by rw [hs]; simp)]
    rw [this]; exact Nat.zero_le _
  | true =>
    obtain ⟨N, K, rfl, rfl, hN, hK⟩ := szB_nat hs
    have hR : rvlRes (N : Int) (K : Int) = revL N K := by rw [rvlRes, if_pos hs]; rfl
    rw [hR]
    have h1 := Nat.le_trans (revL_bound N K) (pow12_le hN)
    have h2 := preLen_le (L := revL N K) (c := 12) (fun l hl => by rw [revL_elem N K hK l hl]; omega) (revL N K).length
    omega
theorem impl_RevolvingList_any (n k : Int) (w : World) :
    Calls Try.prog 33 #[.int .i64 n, .int .i64 k] w fun e w' => ∃ u, e = .returned (.tuple #[u, .bool (szB n k)]) ∧ ListsA w' w.heap.size u (rvlRes n k) ∧ Below w.heap.size w w' := by
  cases hs : szB n k with
  | true =>
    have HS := hid hs
    obtain ⟨N, K, rfl, rfl, hN, hK⟩ := szB_nat hs
    have HR := hid (show rvlRes (N : Int) (K : Int) = revL N K by rw [rvlRes, if_pos hs]; rfl)
    clear hs
    go_enter Try.func33, Try.ntmps33
    go_wp2_with (first
      | (go_at_call 65; refine (isChoice_any _ _ _).mono ?_; rintro e w1 ⟨rfl, rfl⟩; rw [HS.out])
      | (go_at_call 70; refine (revolvingList_any N K _ hN hK).mono ?_; rintro e w1 ⟨u, rfl, hu, hb1⟩; have HU := hid hu.listsA; have HB1 := hid hb1; clear hu hb1)
      | fail)
    go_ret2
    exact ⟨_, rfl, by rw [HR.out]; exact HU.out, HB1.out⟩
  | false =>
    have HS := hid hs
    have HR := hid (show rvlRes n k = [] by rw [rvlRes, if_neg (by rw [hs]; simp)])
    clear hs
    go_enter Try.func33, Try.ntmps33
    go_wp2_with (first | (go_at_call 65; refine (isChoice_any _ _ _).mono ?_; rintro e w1 ⟨rfl, rfl⟩; rw [HS.out]) | fail)
    go_ret2
    exact ⟨_, rfl, by rw [HR.out]; exact ⟨[], rfl, World.ownsRow_nil _ _ _ _, fun i h => absurd h (by simp), fun i j h => absurd h (by simp)⟩, Below.refl _ _⟩
end Go.Proofs.Ytijjdidljoicfaa
