/- Contracts: suMade and superOf; both SuperOf functions. Conditions: the number in its range. -/
import Derived.Test.YtlkhkecnghpokabSo2
import Derived.Test.YtlkhkecnghpokabSu2
import Derived.Test.YtlkhkecnghpokabAt2
namespace Go.Proofs.Ytlkhkecnghpokab
open Go.RowKit
set_option linter.unusedVariables false
set_option maxRecDepth 4000

theorem suWB_wf {xs : List Int} (h : suWB xs = true) : ∀ x ∈ xs, (Lit.int .i64 x).wf = true := by
  intro x hx
  have hl := suWB_len h
  rw [suWB_near hl] at h
  unfold belowB at h
  rw [List.mem_iff_getElem] at hx
  obtain ⟨i, hi, rfl⟩ := hx
  have := (allTo_iff _ _).1 h i hi
  rw [getD_at hi, inB_iff] at this
  exact WalkArith.wf_i64 (by omega)
theorem own_sh {w : World} {B : Nat} {u : Value} {L : List Int} (h : Own w B u L) (h1 : 1 ≤ L.length) : ∃ g c, u = .slice (some ⟨g, 0, none⟩) L.length c := by
  rcases h.form with ⟨_, e⟩ | ⟨g, c, e, _⟩
  · rw [e] at h1; simp at h1
  · exact ⟨g, c, e⟩
structure SuSt (m n1 : Nat) (ws rs : List Int) : Prop where
  ok : suOk (n1 : Int) ws = true
  res : firRes (n1 : Int) ws = rs
  wf : ∀ x ∈ ws, (Lit.int .i64 x).wf = true
  len : ws.length ≤ 200
  one : 0 < ws.length
  pos : 0 < rs.length
  cnt : rs.length ≤ 24
  lt : ∀ i (h : i < rs.length), ∃ r : Nat, rs[i] = (r : Int) ∧ r < fact n1
  fir : firL n1 ws (wnN n1 ws) = rs
theorem su_st {m : Nat} (h : m < 4) : SuSt m (m + 1) (supL m) (rksL (m + 1) (supL m)) := by
  have t := rks_ok h
  have hok : suOk ((m + 1 : Nat) : Int) (supL m) = true := by
    rw [suOk_r (suNB_iff.2 (by omega))]; exact t.ok
  have hf : firL (m + 1) (supL m) (wnN ((m + 1 : Nat) : Int) (supL m)) = rksL (m + 1) (supL m) := by rw [wnN_nat]; rfl
  refine ⟨hok, ?_, suWB_wf t.ok, suWB_len t.ok, t.one, t.pos, t.len, fun i hi => ?_, hf⟩
  · rw [firRes_yes hok, Int.toNat_natCast]; exact hf
  · have := t.lt i hi
    exact ⟨((rksL (m + 1) (supL m))[i]).toNat, by omega, by omega⟩
theorem pat_at {n1 r : Nat} (h : n1 ≤ 12) (hr : r < fact n1) : patB (n1 : Int) (r : Int) = true ∧ patRes (n1 : Int) (r : Int) = atR n1 (upTo n1) r := by
  have h1 : patB (n1 : Int) (r : Int) = true := by
    unfold patB
    rw [Bool.and_eq_true, inB_iff, inB_iff, Int.toNat_natCast]
    omega
  exact ⟨h1, by rw [patRes_yes h1, Int.toNat_natCast, Int.toNat_natCast]⟩
theorem layA_le {n1 : Nat} {rs : List Int} {k : Nat} (hk : k ≤ 24) (hn : n1 ≤ 4) : (layA n1 rs k).length ≤ 216 := by
  have h := layA_length n1 rs k
  have h2 : k * (2 * n1 + 1) ≤ 24 * 9 := Nat.mul_le_mul hk (by omega)
  omega
theorem joinedR_at (v : Value) (P : List (List Int)) (F : List Int) (n A : Nat) (w : World) (h : RdL w v P) (hp : P.length ≤ 1048576) (hF : P.flatten = F) (hn : F.length = n) (ht : n ≤ 1048576) (hA : w.heap.size = A) :
    Calls Try.prog 93 #[v] w fun e w' => e = .returned (.slice (some ⟨A, 0, none⟩) n n) ∧ Own w' A (.slice (some ⟨A, 0, none⟩) n n) F ∧ Below w.heap.size w w' := by
  subst hA
  exact joinedR_is v P F n w h hp hF hn ht
theorem three_at {w : World} {g n1 c : Nat} {x : Int} {p : List Int} {B : Nat} (h : Own w B (.slice (some ⟨g, 0, none⟩) n1 c) p) :
    RdL ((w.alloc (.cells #[.int .i64 x] 3)).alloc (.cells #[.slice (some ⟨g, 0, none⟩) n1 c, .slice (some ⟨w.heap.size, 0, none⟩) 1 1, .slice (some ⟨g, 0, none⟩) n1 c] 22)) (.slice (some ⟨w.heap.size + 1, 0, none⟩) 3 3) [p, [x], p]
    ∧ ((w.alloc (.cells #[.int .i64 x] 3)).alloc (.cells #[.slice (some ⟨g, 0, none⟩) n1 c, .slice (some ⟨w.heap.size, 0, none⟩) 1 1, .slice (some ⟨g, 0, none⟩) n1 c] 22)).heap.size = w.heap.size + 2
    ∧ Below w.heap.size w ((w.alloc (.cells #[.int .i64 x] 3)).alloc (.cells #[.slice (some ⟨g, 0, none⟩) n1 c, .slice (some ⟨w.heap.size, 0, none⟩) 1 1, .slice (some ⟨g, 0, none⟩) n1 c] 22)) := by
  have hb := (Below.refl w.heap.size w).alloc (Nat.le_refl _) (.cells #[.int .i64 x] 3)
  have h1 := RdL_three (h.below hb).rdN (Own.lit1 w x).rdN (h.below hb).rdN
  have hs : (w.alloc (.cells #[.int .i64 x] 3)).heap.size = w.heap.size + 1 := by simp
  rw [hs] at h1
  exact ⟨h1, by simp, hb.alloc (by simp) _⟩
set_option maxHeartbeats 1000000 in
theorem superOf_any (m : Nat) : ∀ (n : Nat) (w : World), n = m + 1 → m < 5 →
    Calls Try.prog 56 #[.int .i64 (n : Int)] w fun e w' => ∃ u, e = .returned u ∧ Own w' w.heap.size u (supL m) ∧ Below w.heap.size w w' := by
  induction m with
  | zero =>
    intro n w hn _
    obtain rfl : n = 1 := hn
    have HL := hid (Own.lit1 w 0)
    have HB := hid ((Below.refl w.heap.size w).alloc (Nat.le_refl _) (.cells #[.int .i64 0] 3))
    go_enter Try.func56, Try.ntmps56
    go_wp2_with fail
    go_ret
    exact ⟨_, rfl, HL.out, HB.out⟩
  | succ m ih =>
    intro n w hn hm
    have st := su_st (show m < 4 by omega)
    obtain ⟨n1, hn1⟩ : ∃ n1, n1 = m + 1 := ⟨_, rfl⟩
    have hq : (n : Int) - 1 = (n1 : Int) := by omega
    have hne : ((n : Int) == 1) = false := beq_eq_false_iff_ne.2 (by omega)
    have hn4 : n1 ≤ 4 := by omega
    have hn0 : 1 ≤ n1 := by omega
    obtain ⟨rs, hrs⟩ : ∃ rs, rs = rksL (m + 1) (supL m) := ⟨_, rfl⟩
    have HG := hid (show supL (m + 1) = layA n1 rs rs.length by rw [supL, hrs, hn1])
    rw [← hrs, ← hn1] at st
    have ST := hid st
    have IH := hid (ih n1)
    have HN1 := hid hn1
    have HWN := hid (show (Lit.int .i64 (n1 : Int)).wf = true from WalkArith.wf_i64 (by omega))
    have HWL := hid (show (supL m).length ≤ 1048576 by have := st.len; omega)
    have hm5 : m < 5 := by omega
    have hcnt := st.cnt
    have hpos := st.pos
    clear hn hrs hn1 ih st
    go_enter Try.func56, Try.ntmps56
    go_wp2_with (first
      | (go_at_call 56; (refine (IH.out _ HN1.out hm5).mono ?_); (rintro e w1 ⟨u1, rfl, ho1, hb1⟩); (have HS1 := hid (ho1.reads.sits ST.out.one)); (have HB1 := hid hb1); (clear ho1 hb1))
      | (go_at_call 19; (refine (impl_RanksIn_any (n1 : Int) _ (supL m) _ HWN.out HS1.out HWL.out ST.out.wf).mono ?_); (rintro e w2 ⟨u2, rfl, ho2, hb2⟩); (rw [ST.out.res] at ho2); (rw [ST.out.ok]); (obtain ⟨g2, off2, c2, rfl, hg1, hg2, hg3, hg4⟩ := ho2.reads.sits hpos); (have HC2 := hid hg4); (have HB2 := hid (Below_chain HB1.out hb2)); (clear ho2 hb2 hg4))
      | fail)
    go_loopw [3, 7, 8, 9, 24] (fun wv _ _ _ i wr => ∃ k : Nat, i = .int .i64 (k : Int) ∧ k ≤ rs.length ∧ Own wr w.heap.size wv (layA n1 rs k) ∧ Below w2.heap.size w2 wr) (fun _ _ _ _ i _ => rs.length - (intOf i).toNat)
    case atStart => exact ⟨0, rfl, Nat.zero_le _, Own.nil _ _, Below.refl _ _⟩
    case round =>
      obtain ⟨k, rfl, hk, hown, hbel⟩ := hrel
      have HBR := hid (Below_chain HB2.out hbel)
      have HBR2 := hid hbel
      have HO := hid hown
      by_cases hlt : k < rs.length
      · obtain ⟨r, hr1, hr2⟩ := ST.out.lt k hlt
        have hcx : wr.cell? ⟨g2, off2 + k, none⟩ = some (.int .i64 (r : Int)) := by
          rw [← hr1]; exact (hbel.cell (by exact hg3)).trans (HC2.out k hlt)
        obtain ⟨ao, cc, rfl, _, hcc⟩ := hown.shp9
        have HPA := hid (pat_at (show n1 ≤ 12 by omega) hr2)
        have HRD := hid (show (rs.getD k 0).toNat = r by rw [getD_at hlt, hr1, Int.toNat_natCast])
        have hfl := fact_le n1 (by omega)
        have HWR := hid (show (Lit.int .i64 (r : Int)).wf = true from WalkArith.wf_i64 (by omega))
        obtain ⟨N, hN⟩ : ∃ N, N = 2 * n1 + 1 := ⟨_, rfl⟩
        have HBL := hid ((blkL_length n1 r).trans hN.symm)
        have HFLT := hid (show [atR n1 (upTo n1) r, [(n1 : Int)], atR n1 (upTo n1) r].flatten = blkL n1 r by unfold blkL; simp)
        have HAL := hid (atR_length n1 (upTo n1) r)
        have hN6 : N ≤ 1048576 := by omega
        have hN7 : 1 ≤ N := by omega
        have hN8 : N ≤ 500000 := by omega
        clear hN
        have HLA := hid (layA_le (n1 := n1) (rs := rs) (k := k) (by omega) hn4)
        obtain ⟨LL, hLL⟩ : ∃ LL, LL = (layA n1 rs k).length := ⟨_, rfl⟩
        rw [← hLL] at HO ⊢
        have HNX := hid (show layA n1 rs (k + 1) = layL (layA n1 rs k) (blkL n1 r) by rw [layA, HRD.out])
        clear hown hbel hr1 hr2 hLL
        go_wp2_with (first
          | (go_at_call 91; (refine (impl_PermutationAt_any (n1 : Int) (r : Int) _ HWN.out HWR.out).mono ?_); (rintro e w3 ⟨u3, rfl, ho3, hb3⟩); (rw [HPA.out.2] at ho3); (rw [HPA.out.1]); (obtain ⟨g3, c3, rfl⟩ := own_sh ho3 (by rw [HAL.out]; exact hn0)); (rw [HAL.out] at ho3 ⊢); (have HO3 := hid ho3); (have HB3 := hid (Below_chain HBR.out hb3)); (have HOW3 := hid (HO.out.below hb3)); (have HB3r := hid (Below_chain HBR2.out hb3)); (clear ho3 hb3); (have HPS := hid (three_at (x := (n1 : Int)) HO3.out)))
          | (go_at_call 93; (refine (joinedR_at _ _ (blkL n1 r) N (w3.heap.size + 2) _ HPS.out.1 (by show 3 ≤ 1048576; omega) HFLT.out HBL.out hN6 HPS.out.2.1).mono ?_); (rintro e w4 ⟨rfl, ho4, hb4⟩); (have HB4 := hid (Below_chain HPS.out.2.2 hb4)); (have HS4 := hid (ho4.reads.sits (by rw [HBL.out]; omega))); (clear ho4 hb4))
          | (go_at_call 92; (refine (laidOver_any _ _ (layA n1 rs k) (blkL n1 r) _ (HOW3.out.below HB4.out).rdN HS4.out (by have := HLA.out; omega) (by rw [HBL.out]; omega) (by rw [HBL.out]; omega)).mono ?_); (rintro e w5 ⟨u5, rfl, ho5, hb5⟩); (have HB5 := hid (Below_chain HB3.out (Below_chain HB4.out hb5))); (have HB5r := hid (Below_chain HB3r.out (Below_chain HB4.out hb5))); (have HO5 := hid (ho5.mono (Nat.le_trans HB3.out.size HB4.out.size))); (clear ho5 hb5))
          | fail)
        go_roundw
        case rel => exact ⟨k + 1, by go_num, hlt, by rw [HNX.out]; exact HO5.out, HB5r.out⟩
        case measure => simp [intOf]; omega
      · obtain rfl : k = rs.length := by omega
        clear hown hbel
        go_wp2_with fail
        go_ret
        exact ⟨_, rfl, by rw [HG.out]; exact HO.out, HBR.out⟩
set_option maxHeartbeats 1000000 in
theorem suMade_any (m : Nat) : ∀ (n : Nat) (w : World), n = m + 1 → m < 5 →
    Calls Try.prog 55 #[.int .i64 (n : Int)] w fun e w' => ∃ u, e = .returned u ∧ Own w' w.heap.size u (supL m) ∧ Below w.heap.size w w' := by
  obtain ⟨i0, hi, hz0, hz1, hz2⟩ := info_parts Try.info3
  induction m with
  | zero =>
    intro n w hn _
    obtain rfl : n = 1 := hn
    have HL := hid (Own.lit1 w 0)
    have HB := hid ((Below.refl w.heap.size w).alloc (Nat.le_refl _) (.cells #[.int .i64 0] 3))
    go_enter Try.func55, Try.ntmps55
    go_wp2_with fail
    go_ret
    exact ⟨_, rfl, HL.out, HB.out⟩
  | succ m ih =>
    intro n w hn hm
    have st := su_st (show m < 4 by omega)
    obtain ⟨n1, hn1⟩ : ∃ n1, n1 = m + 1 := ⟨_, rfl⟩
    have hq : (n : Int) - 1 = (n1 : Int) := by omega
    have hne : ((n : Int) == 1) = false := beq_eq_false_iff_ne.2 (by omega)
    have hn4 : n1 ≤ 4 := by omega
    have hn0 : 1 ≤ n1 := by omega
    obtain ⟨rs, hrs⟩ : ∃ rs, rs = rksL (m + 1) (supL m) := ⟨_, rfl⟩
    have HG := hid (show supL (m + 1) = layA n1 rs rs.length by rw [supL, hrs, hn1])
    rw [← hrs, ← hn1] at st
    have ST := hid st
    have IH := hid (ih n1)
    have HN1 := hid hn1
    have hm5 : m < 5 := by omega
    have hn5 : n1 ≤ 5 := by omega
    have hn6 : n1 ≤ 1048576 := by omega
    have hcnt := st.cnt
    have hpos := st.pos
    clear hn hrs hn1 ih st
    go_enter Try.func55, Try.ntmps55
    go_wp2_with (first
      | (go_at_call 55; (refine (IH.out _ HN1.out hm5).mono ?_); (rintro e w1 ⟨u1, rfl, ho1, hb1⟩); (have HS1 := hid (ho1.reads.sits ST.out.one)); (have HB1 := hid hb1); (clear ho1 hb1))
      | (go_at_call 49; (refine (suFirsts_any n1 _ (supL m) _ HS1.out hn0 hn5 ST.out.len).mono ?_); (rintro e w2 ⟨u2, rfl, ho2, hb2⟩); (rw [ST.out.fir] at ho2); (obtain ⟨g2, off2, c2, rfl, hg1, hg2, hg3, hg4⟩ := ho2.reads.sits hpos); (have HC2 := hid hg4); (have HB2 := hid (Below_chain HB1.out hb2)); (clear ho2 hb2 hg4))
      | fail)
    go_loopw [6, 8, 9, 10, 26] (fun wv _ _ _ i wr => ∃ k : Nat, i = .int .i64 (k : Int) ∧ k ≤ rs.length ∧ Own wr w.heap.size wv (layA n1 rs k) ∧ Below w2.heap.size w2 wr) (fun _ _ _ _ i _ => rs.length - (intOf i).toNat)
    case atStart => exact ⟨0, rfl, Nat.zero_le _, Own.nil _ _, Below.refl _ _⟩
    case round =>
      obtain ⟨k, rfl, hk, hown, hbel⟩ := hrel
      have HBR := hid (Below_chain HB2.out hbel)
      have HBR2 := hid hbel
      have HO := hid hown
      by_cases hlt : k < rs.length
      · obtain ⟨r, hr1, hr2⟩ := ST.out.lt k hlt
        have hcx : wr.cell? ⟨g2, off2 + k, none⟩ = some (.int .i64 (r : Int)) := by
          rw [← hr1]; exact (hbel.cell (by exact hg3)).trans (HC2.out k hlt)
        obtain ⟨ao, cc, rfl, _, hcc⟩ := hown.shp9
        have HRD := hid (show (rs.getD k 0).toNat = r by rw [getD_at hlt, hr1, Int.toNat_natCast])
        have HR2 := hid hr2
        have hfl := fact_le n1 (by omega)
        obtain ⟨N, hN⟩ : ∃ N, N = 2 * n1 + 1 := ⟨_, rfl⟩
        have HBL := hid ((blkL_length n1 r).trans hN.symm)
        have HAL := hid (atR_length n1 (upTo n1) r)
        have hN7 : 1 ≤ N := by omega
        have hN8 : N ≤ 500000 := by omega
        clear hN
        have HLA := hid (layA_le (n1 := n1) (rs := rs) (k := k) (by omega) hn4)
        obtain ⟨LL, hLL⟩ : ∃ LL, LL = (layA n1 rs k).length := ⟨_, rfl⟩
        rw [← hLL] at HO ⊢
        have HNX := hid (show layA n1 rs (k + 1) = layL (layA n1 rs k) (blkL n1 r) by rw [layA, HRD.out])
        have hn12 : n1 ≤ 12 := by omega
        have HAL6 := hid (show (atR n1 (upTo n1) r).length ≤ 1048576 by rw [HAL.out]; exact hn6)
        have HLEN6 := hid (show (atR n1 (upTo n1) r ++ [(n1 : Int)]).length + (atR n1 (upTo n1) r).length ≤ 1048576 by simp only [List.length_append, List.length_singleton, HAL.out]; omega)
        clear hown hbel hr1 hr2 hLL
        go_wp2_with (first
          | (go_at_call 88; (refine (raUpTo_any n1 _ hn6).mono ?_); (rintro e w3 ⟨u3, rfl, ho3, hb3⟩); (have HO3 := hid ho3); (have HB3 := hid (Below_chain HBR.out hb3)); (have HB3r := hid (Below_chain HBR2.out hb3)); (have HOW3 := hid (HO.out.below hb3)); (clear ho3 hb3))
          | (go_at_call 87; (refine (raAt_any n1 _ (upTo n1) r _ _ HO3.out.reads (upTo_length n1) hn12 HR2.out rfl).mono ?_); (rintro e w4 ⟨u4, rfl, ho4, hb4⟩); (obtain ⟨g4, c4, rfl⟩ := own_sh ho4 (by rw [HAL.out]; exact hn0)); (rw [HAL.out] at ho4 ⊢); (have HO4 := hid ho4); (have HB4 := hid (Below_chain HB3.out hb4)); (have HB4r := hid (Below_chain HB3r.out hb4)); (have HOW4 := hid (HOW3.out.below hb4)); (clear ho4 hb4))
          | (go_at_call 89; (refine (l1OwnN_any _ (atR n1 (upTo n1) r) _ HO4.out.rdN HAL6.out).mono ?_); (rintro e w5 ⟨u5, rfl, ho5, hb5⟩); (obtain ⟨g5, c5, rfl⟩ := own_sh ho5 (by rw [HAL.out]; exact hn0)); (rw [HAL.out] at ho5 ⊢); (have HO5 := hid ho5); (have HB5 := hid hb5); (clear ho5 hb5))
          | (at_builtin; (refine wpList_push _ rfl _ _ 22 rfl w4.heap.size i0 Try.underlying22 hi hz0 hz1 hz2 _ n1 c5 (atR n1 (upTo n1) r) rfl HO5.out (n1 : Int) w5.heap.size rfl rfl hn6 HB5.out.size ?_); (intro g6 c6 w6 hp6); (have HO6 := hid hp6.own); (have HB6 := hid (hp6.below w4 rfl HB5.out)); (have HP6 := hid (HO4.out.below HB6.out)); (clear hp6))
          | (at_builtin; (refine wpList_append_src w6 rfl _ _ 22 rfl w4.heap.size i0 Try.underlying22 hi hz0 hz1 hz2 _ (atR n1 (upTo n1) r ++ [(n1 : Int)]) rfl HO6.out _ _ (atR n1 (upTo n1) r) rfl HP6.out HLEN6.out HB6.out.size ?_); (intro v7 w7 ho7 hg7); (have HB7 := hid (HB6.out.grown hg7 HB6.out.size (fun q hq => (World.ownsRow.lt HO6.out q hq).1))); (have HO7 := hid (show Own w7 w4.heap.size v7 (blkL n1 r) from ho7)); (obtain ⟨g7, c7, rfl⟩ := own_sh HO7.out (by rw [HBL.out]; exact hN7)); (have HS7 := hid (HO7.out.reads.sits (by rw [HBL.out]; exact hN7))); (rw [HBL.out] at HS7 ⊢); (clear ho7 hg7))
          | (go_at_call 90; (refine (suLay_any _ _ (layA n1 rs k) (blkL n1 r) _ (HOW4.out.below HB7.out).rdN HS7.out (by have := HLA.out; omega) (by rw [HBL.out]; omega) (by rw [HBL.out]; omega)).mono ?_); (rintro e w8 ⟨u8, rfl, ho8, hb8⟩); (have HB8r := hid (Below_chain HB4r.out (Below_chain HB7.out hb8))); (have HO8 := hid (ho8.mono (Nat.le_trans HB4.out.size HB7.out.size))); (clear ho8 hb8))
          | fail)
        go_roundw
        case rel => exact ⟨k + 1, by go_num, hlt, by rw [HNX.out]; exact HO8.out, HB8r.out⟩
        case measure => simp [intOf]; omega
      · obtain rfl : k = rs.length := by omega
        clear hown hbel
        go_wp2_with fail
        go_ret
        exact ⟨_, rfl, by rw [HG.out]; exact HO.out, HBR.out⟩
def superR (n : Int) : List Int := if suNB n = true then supL (n.toNat - 1) else []
theorem superR_no {n : Int} (h : suNB n = false) : superR n = [] := by unfold superR; rw [if_neg (by rw [h]; simp)]
theorem superR_yes {m : Nat} (h : suNB ((m + 1 : Nat) : Int) = true) : superR ((m + 1 : Nat) : Int) = supL m := by unfold superR; rw [if_pos h, Int.toNat_natCast, Nat.add_sub_cancel]
theorem sup_len : ∀ m, m < 5 → (supL m).length ≤ 216 := by
  intro m hm
  cases m with
  | zero => simp [supL]
  | succ m => exact layA_le (rks_ok (show m < 4 by omega)).len (by omega)
theorem bound_SuperOf (n : Int) : (superR n).length ≤ 1048576 := by
  cases h : suNB n with
  | false => rw [superR_no h]; simp
  | true =>
    obtain ⟨m, rfl, h1, h5⟩ := suNB_nat h
    obtain ⟨k, rfl⟩ : ∃ k, m = k + 1 := ⟨m - 1, by omega⟩
    rw [superR_yes h]
    have := sup_len k (by omega)
    omega
theorem spec_SuperOf_any (n : Int) (w : World) (_hwf : (Lit.int .i64 n).wf = true) :
    Calls Try.prog 24 #[.int .i64 n] w fun e w' => ∃ u, e = .returned (.tuple #[u, .bool (suNB n)]) ∧ Own w' w.heap.size u (superR n) ∧ Below w.heap.size w w' := by
  cases hn : suNB n with
  | false =>
    have HR := hid (superR_no hn)
    go_enter Try.func24, Try.ntmps24
    go_wp2_with (first | (go_at_call 45; (refine (suSize_any _ _).mono ?_); (rintro e w' ⟨rfl, rfl⟩); (rw [hn])) | fail)
    go_ret2
    exact ⟨_, rfl, by rw [HR.out]; exact Own.nil _ _, Below.refl _ _⟩
  | true =>
    obtain ⟨m, rfl, h1, h5⟩ := suNB_nat hn
    obtain ⟨k, hk⟩ : ∃ k, m = k + 1 := ⟨m - 1, by omega⟩
    have HR := hid (show superR (m : Int) = supL k by subst hk; exact superR_yes hn)
    have HK := hid hk
    have hk5 : k < 5 := by omega
    clear hk
    go_enter Try.func24, Try.ntmps24
    go_wp2_with (first | (go_at_call 45; (refine (suSize_any _ _).mono ?_); (rintro e w' ⟨rfl, rfl⟩); (rw [hn])) | (go_at_call 55; (refine (suMade_any k m _ HK.out hk5).mono ?_); (rintro e w2 ⟨u, rfl, ho, hb⟩); (have HO := hid ho); (have HB := hid hb); (clear ho hb)) | fail)
    go_ret2
    exact ⟨_, rfl, by rw [HR.out]; exact HO.out, HB.out⟩
theorem impl_SuperOf_any (n : Int) (w : World) (_hwf : (Lit.int .i64 n).wf = true) :
    Calls Try.prog 25 #[.int .i64 n] w fun e w' => ∃ u, e = .returned (.tuple #[u, .bool (suNB n)]) ∧ Own w' w.heap.size u (superR n) ∧ Below w.heap.size w w' := by
  cases hn : suNB n with
  | false =>
    have HR := hid (superR_no hn)
    go_enter Try.func25, Try.ntmps25
    go_wp2_with (first | (go_at_call 50; (refine (isSuperSize_any _ _).mono ?_); (rintro e w' ⟨rfl, rfl⟩); (rw [hn])) | fail)
    go_ret2
    exact ⟨_, rfl, by rw [HR.out]; exact Own.nil _ _, Below.refl _ _⟩
  | true =>
    obtain ⟨m, rfl, h1, h5⟩ := suNB_nat hn
    obtain ⟨k, hk⟩ : ∃ k, m = k + 1 := ⟨m - 1, by omega⟩
    have HR := hid (show superR (m : Int) = supL k by subst hk; exact superR_yes hn)
    have HK := hid hk
    have hk5 : k < 5 := by omega
    clear hk
    go_enter Try.func25, Try.ntmps25
    go_wp2_with (first | (go_at_call 50; (refine (isSuperSize_any _ _).mono ?_); (rintro e w' ⟨rfl, rfl⟩); (rw [hn])) | (go_at_call 56; (refine (superOf_any k m _ HK.out hk5).mono ?_); (rintro e w2 ⟨u, rfl, ho, hb⟩); (have HO := hid ho); (have HB := hid hb); (clear ho hb)) | fail)
    go_ret2
    exact ⟨_, rfl, by rw [HR.out]; exact HO.out, HB.out⟩
end Go.Proofs.Ytlkhkecnghpokab
