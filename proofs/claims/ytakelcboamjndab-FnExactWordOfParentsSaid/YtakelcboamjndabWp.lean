/- Contracts: spTree, both WordOfParents. Conditions: slices that are not nil and read as lists of at most 2^20 numbers. -/
import Derived.Test.YtakelcboamjndabPar
import Derived.Test.YtakelcboamjndabWpM
namespace Go.Proofs.Ytakelcboamjndab
open Go.RowKit Go.Maps
set_option linter.unusedVariables false
set_option maxRecDepth 4000

theorem wpB_long {ps : List Int} (h : ¬ ps.length ≤ 12) : wpB ps = false := by
  unfold wpB; rw [decide_eq_false h, Bool.and_false]
theorem wpB_short {ps : List Int} (h : ps.length ≤ 12) : wpB ps = trB ps 0 [-1] := by
  unfold wpB; rw [decide_eq_true h, Bool.and_true]
theorem dT_hit {a : Int} {r : List Int} : dT a (a :: r) = a :: r := by rw [dT, if_pos rfl]
theorem dT_miss {p a : Int} {r : List Int} (h : a ≠ p) : dT p (a :: r) = dT p r := by rw [dT, if_neg h]
theorem spTree_any (v : Value) (ps : List Int) (w : World) (h : Reads w v ps) (hl : ps.length ≤ 1048576) :
    Calls Try.prog 49 #[v] w fun e w' => e = .returned (.bool (wpB ps)) ∧ w = w' := by
  obtain ⟨ao, c, rfl, hc1, hm, h⟩ := h.view
  have hcell : ps.length = 0 ∨ ∃ b off, ao = some ⟨b, off, none⟩ ∧ b < w.heap.size ∧ ∀ i (hi : i < ps.length), w.cell? ⟨b, off + i, none⟩ = some (.int .i64 ps[i]) := by
    rcases h with h | ⟨b, off, rfl, hb, hc⟩
    · left; rw [h]; rfl
    · exact .inr ⟨b, off, rfl, hb, hc⟩
  have HCELL := hid hcell
  clear h hcell
  by_cases h12 : ps.length ≤ 12
  · have HF := hid (wpB_short h12)
    have q12 : (ps.length : Int) ≤ 12 := by omega
    have q13 : ¬ (12 : Int) < (ps.length : Int) := by omega
    go_enter Try.func49, Try.ntmps49
    go_wp2_with fail
    go_loop [11] (fun i => ∃ (k : Nat) (S : List Int), k ≤ ps.length ∧ i = .int .i64 k ∧ chW ps S ∧ S.headD 0 = (k : Int) - 1 ∧ trB (ps.drop k) k S = wpB ps) (fun i => ps.length - (intOf i).toNat)
    case atStart => exact ⟨0, [-1], Nat.zero_le _, rfl, rfl, rfl, by rw [HF.out]; rfl⟩
    case round =>
      obtain ⟨k, S, hk, rfl, hch, hhd, htr⟩ := hrel
      by_cases hlt : k < ps.length
      · rcases HCELL.out with h | ⟨b, off, rfl, hb, hc⟩
        · omega
        have hcx := hc k hlt
        have HC := hid hc
        obtain ⟨p, hp⟩ : ∃ p, p = ps[k] := ⟨_, rfl⟩
        have hd : ps.drop k = p :: ps.drop (k + 1) := by rw [List.drop_eq_getElem_cons hlt, hp]
        have HPK := hid (show ps.getD k 0 = p by rw [getD_at hlt, hp])
        rw [← hp] at hcx
        rw [hd, trB] at htr
        have HTR := hid htr
        have HCH := hid hch
        have HHD := hid hhd
        have u1 : IntKind.i64.wrap ((k : Int) - 1) = (k : Int) - 1 := IntWalk.i64_in _ (by omega)
        have q1 : (0 : Int) ≤ (k : Int) := by omega
        have q2 : (k : Int) < (ps.length : Int) := by omega
        clear hc hp hd htr hch hhd
        go_wp2_with fail
        go_loop [5] (fun u => ∃ (a : Int) (r : List Int), chW ps (a :: r) ∧ u = .int .i64 a ∧ dT p (a :: r) = dT p S ∧ a < (k : Int)) (fun u => (intOf u + 1).toNat)
        case atStart =>
          have h1 := HCH.out
          have h2 := HHD.out
          cases S with
          | nil => exact h1.elim
          | cons a r =>
            have h3 : a = (k : Int) - 1 := h2
            exact ⟨a, r, h1, by rw [h3], rfl, by omega⟩
        case round =>
          obtain ⟨a, r, hch, rfl, hdt, hak⟩ := hrel
          by_cases hap : a = p
          · subst hap
            rw [dT_hit] at hdt
            have HD := hid hdt
            have HC2 := hid hch
            have HAK := hid hak
            have hpp : (a != a) = false := by simp
            have hmin := (chW_low hch a (by simp)).1
            clear hch hdt hak
            by_cases ha0 : 0 ≤ a
            all_goals
              go_wp2_with fail
              go_round
              case rel => exact ⟨k + 1, (k : Int) :: a :: r, by omega, by go_num, chW_push HC2.out hlt HPK.out HAK.out, by simp, by have h := HTR.out; rw [← HD.out] at h; simpa using h⟩
              case measure => simp [intOf]; omega
          · have hnp : (a != p) = true := by simpa using hap
            rw [dT_miss hap] at hdt
            cases r with
            | nil =>
              obtain rfl : a = -1 := hch
              have HF2 := hid (show false = wpB ps by rw [← HTR.out, ← hdt]; simp [dT])
              clear hdt hak hap
              go_wp2_with fail
              go_ret
              exact ⟨ret_bool HF2.out, rfl⟩
            | cons b2 r =>
              obtain ⟨g1, g2, g3, g4, g5⟩ := hch
              obtain ⟨n, rfl⟩ := Int.eq_ofNat_of_zero_le g1
              have hn : n < ps.length := by omega
              have hcn := HC.out n hn
              have e3 : ps[n] = b2 := by rw [← getD_at hn]; exact g4
              rw [e3] at hcn
              have HC2 := hid g5
              have HD := hid hdt
              have HAK := hid (show b2 < (k : Int) by omega)
              have hmin := (chW_low g5 b2 (by simp)).1
              have q3 : (n : Int) < (ps.length : Int) := by omega
              have q4 : (0 : Int) ≤ (n : Int) := by omega
              have HLT := hid g2
              clear g1 g2 g3 g4 g5 e3 hap hdt hak
              go_wp2_with fail
              go_round
              case rel => exact ⟨b2, r, HC2.out, rfl, HD.out, HAK.out⟩
              case measure => simp [intOf]; have := HLT.out; omega
      · obtain rfl : k = ps.length := by omega
        have HF2 := hid (show true = wpB ps by rw [← htr, List.drop_length]; rfl)
        clear hch hhd htr
        go_wp2_with fail
        go_ret
        exact ⟨ret_bool HF2.out, rfl⟩
  · have HF := hid (wpB_long h12)
    have q13 : (12 : Int) < (ps.length : Int) := by omega
    go_enter Try.func49, Try.ntmps49
    go_wp2_with fail
    go_ret
    exact ⟨ret_bool HF.out.symm, rfl⟩
theorem wp_total {ps : List Int} (h : trB ps 0 [-1] = true) (h12 : ps.length ≤ 12) : (wdT ps 0 [-1]).length ≤ 24 := by
  rw [wd_len h]; omega
theorem wpB_two {ps : List Int} (h : wpB ps = true) : trB ps 0 [-1] = true ∧ ps.length ≤ 12 := by
  unfold wpB at h
  rw [Bool.and_eq_true, decide_eq_true_eq] at h
  exact h
set_option maxHeartbeats 2000000 in
theorem spec_WordOfParents_any (v : Value) (ps : List Int) (w : World) (h : Sits w v ps) (hl : ps.length ≤ 1048576) (_hwf : ∀ x ∈ ps, (Lit.int .i64 x).wf = true) :
    Calls Try.prog 21 #[v] w fun e w' => ∃ u, e = .returned (.tuple #[u, .bool (wpB ps)]) ∧ Own w' w.heap.size u (wpRes ps) ∧ Below w.heap.size w w' := by
  have HR := hid h.reads
  obtain ⟨b, off, c, rfl, hc1, hm, hb, hc⟩ := h
  have HC := hid hc
  clear hc
  cases hg : wpB ps
  · have HF := hid (show wpRes ps = [] by unfold wpRes; rw [hg]; simp)
    go_enter Try.func21, Try.ntmps21
    go_wp2_with (first | (go_at_call 49; refine (spTree_any _ ps _ HR.out hl).mono ?_; rintro e w1 ⟨rfl, rfl⟩; rw [hg]) | fail)
    go_ret2
    exact ⟨_, rfl, by rw [HF.out]; exact Own.nil _ _, Below.refl _ _⟩
  · have HF := hid (show wpRes ps = wdT ps 0 [-1] by unfold wpRes; rw [if_pos hg])
    obtain ⟨h1, h12⟩ := wpB_two hg
    obtain ⟨T, hT⟩ : ∃ T, T = wdT ps 0 [-1] := ⟨_, rfl⟩
    have HTL := hid (show T.length ≤ 24 by rw [hT]; exact wp_total h1 h12)
    have HT := hid hT.symm
    have HTR := hid h1
    rw [← hT] at HF
    obtain ⟨i0, hi, hz0, hz1, hz2⟩ := info_parts Try.info3
    clear h1 hT
    go_enter Try.func21, Try.ntmps21
    go_wp2_with (first | (go_at_call 49; refine (spTree_any _ ps _ HR.out hl).mono ?_; rintro e w1 ⟨rfl, rfl⟩; rw [hg]) | fail)
    clear hg
    go_loopw [4, 5, 13] (fun v a i wr => ∃ (k : Nat) (a0 : Int) (S : List Int) (P : List Int), k ≤ ps.length ∧ i = .int .i64 k ∧ a = .int .i64 a0 ∧ chW ps (a0 :: S) ∧ a0 < (k : Int) ∧ trB (ps.drop k) k (a0 :: S) = true ∧ Own wr w.heap.size v P ∧ P ++ wdT (ps.drop k) k (a0 :: S) = T ∧ Below w.heap.size w wr) (fun _ _ i _ => ps.length - (intOf i).toNat)
    case atStart => exact ⟨0, -1, [], [], Nat.zero_le _, rfl, rfl, rfl, by omega, HTR.out, Own.nil _ _, HT.out, Below.refl _ _⟩
    case round =>
      obtain ⟨k, a0, S, P, hk, rfl, rfl, hch, hak0, htr, hown, hwd, hbel⟩ := hrel
      obtain ⟨wo, rfl⟩ : ∃ wo : World, wo = wr := ⟨_, rfl⟩
      by_cases hlt : k < ps.length
      · have hcx := (hbel.cell (p := ⟨b, off + k, none⟩) (by exact hb)).trans (HC.out k hlt)
        obtain ⟨p, hp⟩ : ∃ p, p = ps[k] := ⟨_, rfl⟩
        have hd : ps.drop k = p :: ps.drop (k + 1) := by rw [List.drop_eq_getElem_cons hlt, hp]
        have HPK := hid (show ps.getD k 0 = p by rw [getD_at hlt, hp])
        rw [← hp] at hcx
        rw [hd, trB, Bool.and_eq_true, decide_eq_true_eq] at htr
        rw [hd, wdT] at hwd
        obtain ⟨D, hD⟩ : ∃ D, D = dT p (a0 :: S) := ⟨_, rfl⟩
        rw [← hD] at htr hwd
        obtain ⟨R, hR⟩ : ∃ R, R = wdT (ps.drop (k + 1)) (k + 1) ((k : Int) :: D) := ⟨_, rfl⟩
        rw [← hR] at hwd
        have HR2 := hid hR
        have HTR2 := hid htr.2
        have HDN := hid htr.1
        have HCH := hid hch
        have HD := hid hD.symm
        have HOWN := hid hown
        have HWD := hid hwd
        have HBEL := hid hbel
        have HAK := hid hak0
        have q1 : (0 : Int) ≤ (k : Int) := by omega
        have q2 : (k : Int) < (ps.length : Int) := by omega
        clear hp hd htr hch hwd hR hD hown hbel hak0
        go_wp2_with fail
        go_loopw [4, 5] (fun v a wr => ∃ (a1 : Int) (r : List Int) (P : List Int), a = .int .i64 a1 ∧ chW ps (a1 :: r) ∧ dT p (a1 :: r) = D ∧ a1 < (k : Int) ∧ Own wr w.heap.size v P ∧ P ++ (List.replicate ((a1 :: r).length - D.length) 0 ++ (1 :: R)) = T ∧ Below w.heap.size w wr) (fun _ a _ => (intOf a + 1).toNat)
        case atStart => exact ⟨a0, S, P, rfl, HCH.out, HD.out, HAK.out, HOWN.out, HWD.out, HBEL.out⟩
        case round =>
          obtain ⟨a1, r, P1, rfl, hch, hdt, hak, hown, hwd, hbel⟩ := hrel
          have HB := hid hbel
          have HOW := hid hown
          have hPl : P1.length ≤ 23 := by
            have h1 := HTL.out
            rw [← hwd] at h1
            simp at h1; omega
          by_cases hap : a1 = p
          · subst hap
            rw [dT_hit] at hdt
            rw [← hdt, Nat.sub_self, List.replicate_zero, List.nil_append] at hwd
            have hpp : (a1 != a1) = false := by simp
            have HWD2 := hid (show (P1 ++ [1]) ++ R = T by rw [← hwd]; simp)
            have HNX := hid (chW_push hch hlt HPK.out hak)
            have HTR3 := hid (show trB (ps.drop (k + 1)) (k + 1) ((k : Int) :: a1 :: r) = true by rw [hdt]; exact HTR2.out)
            have HR3 := hid (show R = wdT (ps.drop (k + 1)) (k + 1) ((k : Int) :: a1 :: r) by rw [hdt]; exact HR2.out)
            clear hch hdt hak hwd hown hbel
            go_wp2_with (first
              | (at_builtin; refine wpList_append_own _ rfl _ _ 22 rfl w.heap.size 3 i0 (.int .i64 0) 1 8 Try.underlying22 hi hz0 hz1 hz2 rfl (by decide) _ _ _ rfl (World.ownsRow.alloc HOW.out.row _) ⟨wr.heap.size, 0, none⟩ 1 1 [.int .i64 1] rfl rfl (fun j u hj => new_cell1 j hj) (one_cell _ _) (by unfold maxLen; omega) (by omega) (by have := HB.out.size; (try simp); omega) ?_; intro v' w5 hown5 hgrow5 _; have HO5 := hid (Own.snoc hown5); have HB5 := hid ((HB.out.alloc HB.out.size (.cells #[.int .i64 1] 3)).grown hgrow5 (by have := HB.out.size; simp; omega) (fun k hk => (World.ownsRow.lt HOW.out.row k hk).1)); clear hown5 hgrow5)
              | fail)
            go_roundw
            case rel => exact ⟨k + 1, (k : Int), a1 :: r, P1 ++ [1], by omega, by go_num, rfl, HNX.out, by omega, HTR3.out, HO5.out, by rw [← HR3.out]; exact HWD2.out, HB5.out⟩
            case measure => simp [intOf]; omega
          · have hnp : (a1 != p) = true := by simpa using hap
            rw [dT_miss hap] at hdt
            cases r with
            | nil => exact absurd hdt.symm HDN.out
            | cons b2 r =>
              obtain ⟨g1, g2, g3, g4, g5⟩ := hch
              obtain ⟨n, rfl⟩ := Int.eq_ofNat_of_zero_le g1
              have hn : n < ps.length := by omega
              have HE3 := hid (show ps[n] = b2 by rw [← getD_at hn]; exact g4)
              have HC2 := hid g5
              have HD2 := hid hdt
              have HAK2 := hid (show b2 < (k : Int) by omega)
              have hmin := (chW_low g5 b2 (by simp)).1
              have q3 : (n : Int) < (ps.length : Int) := by omega
              have q4 : (0 : Int) ≤ (n : Int) := by omega
              have HLT := hid g2
              have HWD2 := hid (show (P1 ++ [0]) ++ (List.replicate ((b2 :: r).length - D.length) 0 ++ (1 :: R)) = T by
                rw [← hwd]
                have h1 : D.length ≤ (b2 :: r).length := by rw [← hdt]; exact dT_le _ _
                rw [show (((n : Nat) : Int) :: b2 :: r).length - D.length = ((b2 :: r).length - D.length) + 1 by rw [List.length_cons (a := ((n : Nat) : Int))]; omega, List.replicate_succ]
                simp)
              clear g1 g2 g3 g4 g5 hap hdt hak hwd hown hbel
              go_wp2_with (first
                | (at_builtin; refine wpList_append_own _ rfl _ _ 22 rfl w.heap.size 3 i0 (.int .i64 0) 1 8 Try.underlying22 hi hz0 hz1 hz2 rfl (by decide) _ _ _ rfl (World.ownsRow.alloc HOW.out.row _) ⟨wr.heap.size, 0, none⟩ 1 1 [.int .i64 0] rfl rfl (fun j u hj => new_cell1 j hj) (one_cell _ _) (by unfold maxLen; omega) (by omega) (by have := HB.out.size; (try simp); omega) ?_; intro v' w5 hown5 hgrow5 _; have HO5 := hid (Own.snoc hown5); have HB5 := hid ((HB.out.alloc HB.out.size (.cells #[.int .i64 0] 3)).grown hgrow5 (by have := HB.out.size; simp; omega) (fun k hk => (World.ownsRow.lt HOW.out.row k hk).1)); have hcn5 := (HB5.out.cell (p := ⟨b, off + n, none⟩) (by exact hb)).trans (HC.out n hn); rw [show ps[n] = b2 from HE3.out] at hcn5; clear hown5 hgrow5)
                | fail)
              go_roundw
              case rel => exact ⟨b2, r, P1 ++ [0], rfl, HC2.out, HD2.out, HAK2.out, HO5.out, HWD2.out, HB5.out⟩
              case measure => simp [intOf]; have := HLT.out; omega
      · obtain rfl : k = ps.length := by omega
        rw [List.drop_length, wdT] at hwd
        have HOWN := hid hown
        have HWD := hid (show P ++ List.replicate S.length 0 = T by rw [← hwd]; simp)
        have HBEL := hid hbel
        have HCH := hid hch
        clear hch hak0 htr hown hwd hbel
        go_wp2_with fail
        go_loopw [4, 5] (fun v a wr => ∃ (a1 : Int) (r : List Int) (P : List Int), a = .int .i64 a1 ∧ chW ps (a1 :: r) ∧ Own wr w.heap.size v P ∧ P ++ List.replicate r.length 0 = T ∧ Below w.heap.size w wr) (fun _ a _ => (intOf a + 1).toNat)
        case atStart => exact ⟨a0, S, P, rfl, HCH.out, HOWN.out, HWD.out, HBEL.out⟩
        case round =>
          obtain ⟨a1, r, P1, rfl, hch, hown, hwd, hbel⟩ := hrel
          have HB := hid hbel
          have HOW := hid hown
          cases r with
          | nil =>
            obtain rfl : a1 = -1 := hch
            have HE := hid (show P1 = T by rw [← hwd]; simp)
            clear hown hwd hbel
            go_wp2_with fail
            go_ret2
            exact ⟨_, rfl, by rw [HF.out, ← HE.out]; exact HOW.out, HB.out⟩
          | cons b2 r =>
            obtain ⟨g1, g2, g3, g4, g5⟩ := hch
            obtain ⟨n, rfl⟩ := Int.eq_ofNat_of_zero_le g1
            have hn : n < ps.length := by omega
            have HE3 := hid (show ps[n] = b2 by rw [← getD_at hn]; exact g4)
            have hPl : P1.length ≤ 23 := by
              have h1 := HTL.out
              rw [← hwd] at h1
              simp at h1; omega
            have HC2 := hid g5
            have hmin := (chW_low g5 b2 (by simp)).1
            have q3 : (n : Int) < (ps.length : Int) := by omega
            have q4 : (0 : Int) ≤ (n : Int) := by omega
            have HLT := hid g2
            have HWD2 := hid (show (P1 ++ [0]) ++ List.replicate r.length 0 = T by rw [← hwd, List.length_cons, List.replicate_succ]; simp)
            clear g1 g2 g3 g4 g5 hwd hown hbel
            go_wp2_with (first
              | (at_builtin; refine wpList_append_own _ rfl _ _ 22 rfl w.heap.size 3 i0 (.int .i64 0) 1 8 Try.underlying22 hi hz0 hz1 hz2 rfl (by decide) _ _ _ rfl (World.ownsRow.alloc HOW.out.row _) ⟨wr.heap.size, 0, none⟩ 1 1 [.int .i64 0] rfl rfl (fun j u hj => new_cell1 j hj) (one_cell _ _) (by unfold maxLen; omega) (by omega) (by have := HB.out.size; (try simp); omega) ?_; intro v' w5 hown5 hgrow5 _; have HO5 := hid (Own.snoc hown5); have HB5 := hid ((HB.out.alloc HB.out.size (.cells #[.int .i64 0] 3)).grown hgrow5 (by have := HB.out.size; simp; omega) (fun k hk => (World.ownsRow.lt HOW.out.row k hk).1)); have hcn5 := (HB5.out.cell (p := ⟨b, off + n, none⟩) (by exact hb)).trans (HC.out n hn); rw [show ps[n] = b2 from HE3.out] at hcn5; clear hown5 hgrow5)
              | fail)
            go_roundw
            case rel => exact ⟨b2, r, P1 ++ [0], rfl, HC2.out, HO5.out, HWD2.out, HB5.out⟩
            case measure => simp [intOf]; have := HLT.out; omega
theorem Index_no (v : Value) (l : List Int) (x : Int) (w : World) (h : Sits w v l) (hx : x ∉ l) :
    Calls Try.prog 51 #[v, .int .i64 x] w fun e w' => e = .returned (.int .i64 (-1)) ∧ w = w' := by
  obtain ⟨b, off, c, rfl, hc1, hm, hb, hc⟩ := h
  have HC := hid hc
  have HX := hid hx
  clear hc hx
  go_enter Try.func51, Try.ntmps51
  go_wp2_with fail
  go_loop [8] (fun i => ∃ k : Nat, k ≤ l.length ∧ i = .int .i64 k) (fun i => l.length - (intOf i).toNat)
  case atStart => exact ⟨0, Nat.zero_le _, rfl⟩
  case round =>
    obtain ⟨k, hk, rfl⟩ := hrel
    by_cases hlt : k < l.length
    · have hck := HC.out k hlt
      have q1 : (0 : Int) ≤ (k : Int) := by omega
      have q2 : (k : Int) < (l.length : Int) := by omega
      have hv : l[k] ≠ x := fun e => HX.out (e ▸ List.getElem_mem hlt)
      obtain ⟨y, hy⟩ : ∃ y, y = l[k] := ⟨_, rfl⟩
      rw [← hy] at hck hv
      have hbb : (x == y) = false := by simp [Ne.symm hv]
      clear hv hy
      go_wp2_with fail
      go_round
      case rel => exact ⟨k + 1, by omega, by go_num⟩
      case measure => simp [intOf]; omega
    · obtain rfl : k = l.length := by omega
      go_wp2_with fail
      go_ret
      exact ⟨rfl, rfl⟩
theorem new_cellW {u : Value} {w : World} {z : Value} {T : TypeId} {n : Nat} (h : w.heap.size = n) (j : Nat) (hj : [z][j]? = some u) : (w.alloc (.cells #[z] T)).cell? ((⟨n, 0, none⟩ : Addr).add j) = some u := by
  subst h; exact new_cell1 j hj
theorem wp_row {P : List Int} {q d m : Nat} (hq : P.length = q) (h : q + d < m) :
    (P ++ List.replicate (m - q) 0).set (q + d) 1 = (P ++ (List.replicate d 0 ++ [1])) ++ List.replicate (m - (q + d + 1)) (0 : Int) := by
  subst hq
  rw [List.set_append, if_neg (by omega), Nat.add_sub_cancel_left, show m - P.length = d + ((m - (P.length + d + 1)) + 1) by omega, ← List.replicate_append_replicate, List.set_append, if_neg (by simp), List.length_replicate, Nat.sub_self, List.replicate_succ, List.set_cons_zero]
  simp
theorem size_set (W : World) (p : Addr) (x : Value) : (W.setCell p x).heap.size = W.heap.size := by simp
set_option maxHeartbeats 2000000 in
theorem impl_WordOfParents_any (v : Value) (ps : List Int) (w : World) (h : Sits w v ps) (hl : ps.length ≤ 1048576) (_hwf : ∀ x ∈ ps, (Lit.int .i64 x).wf = true) :
    Calls Try.prog 22 #[v] w fun e w' => ∃ u, e = .returned (.tuple #[u, .bool (wpB ps)]) ∧ Own w' w.heap.size u (wpRes ps) ∧ Below w.heap.size w w' := by
  obtain ⟨b, off, c, rfl, hc1, hm, hb, hc⟩ := h
  have HC := hid hc
  clear hc
  cases hn : inB (ps.length : Int) 0 12
  · have h12 : ¬ ps.length ≤ 12 := by
      intro h
      have : inB (ps.length : Int) 0 12 = true := inB_iff.2 ⟨by omega, by omega⟩
      rw [this] at hn; exact absurd hn (by simp)
    have HG := hid (wpB_long h12)
    have HF := hid (show wpRes ps = [] by unfold wpRes; rw [wpB_long h12]; simp)
    go_enter Try.func22, Try.ntmps22
    go_wp2_with (first | (go_at_call 50; refine (isPairCount_any _ _).mono ?_; rintro e w' ⟨rfl, rfl⟩; rw [hn]) | fail)
    go_ret2
    exact ⟨_, by rw [HG.out]; rfl, by rw [HF.out]; exact Own.nil _ _, Below.refl _ _⟩
  · have h12 : ps.length ≤ 12 := by have := inB_iff.1 hn; omega
    have HG := hid (wpB_short h12)
    obtain ⟨T, hT⟩ : ∃ T, T = wdT ps 0 [-1] := ⟨_, rfl⟩
    have HT := hid hT
    obtain ⟨m, hmm⟩ : ∃ m, m = 2 * ps.length := ⟨_, rfl⟩
    have HMM := hid hmm
    have hm24 : m ≤ 24 := by omega
    have hmk := run_make_ints m (by omega) w
    have HM := hid (Own.of_rowIs ((World.rowIs_made w (.int .i64 0) m 3).congr (g := fun j => .int .i64 ((List.replicate m (0 : Int)).getD j 0)) (fun i hi => by simp [List.getD_eq_getElem?_getD, hi])) (by simp) (by unfold maxLen; omega))
    have HB0 := hid ((Below.refl w.heap.size w).alloc (Nat.le_refl _) (.cells (madeCells #[.int .i64 0] m) 3))
    have u1 : IntKind.i64.wrap (2 * (ps.length : Int)) = (m : Int) := by rw [IntWalk.i64_in _ (by omega)]; omega
    obtain ⟨wm, hwm⟩ : ∃ wm, wm = w.alloc (.cells (madeCells #[.int .i64 0] m) 3) := ⟨_, rfl⟩
    have HWS := hid (show wm.heap.size = w.heap.size + 1 by rw [hwm]; simp)
    rw [← hwm] at hmk HM HB0
    obtain ⟨i0, hi, hz0, hz1, hz2⟩ := info_parts Try.info3
    clear hT hmm hwm
    go_enter Try.func22, Try.ntmps22
    go_wp2_with (first | (go_at_call 50; refine (isPairCount_any _ _).mono ?_; rintro e w' ⟨rfl, rfl⟩; rw [hn]) | fail)
    clear hmk hn
    go_loopw [5, 6, 21] (fun vo pl i wr => ∃ (k q s go co : Nat) (S P : List Int), k ≤ ps.length ∧ i = .int .i64 k ∧ pl = .int .i64 (q : Int) ∧ vo = .slice (some ⟨go, 0, none⟩) s co ∧ S.length = s ∧ P.length = q ∧ chW ps S ∧ S.headD 0 < (k : Int) ∧ q + s ≤ 2 * k + 1 ∧ trB (ps.drop k) k S = wpB ps ∧ (wpB ps = true → P ++ wdT (ps.drop k) k S = T) ∧
      Own wr w.heap.size (.slice (some ⟨go, 0, none⟩) s co) S.reverse ∧ Own wr w.heap.size (.slice (some ⟨w.heap.size, 0, none⟩) m m) (P ++ List.replicate (m - q) 0) ∧ w.heap.size ≠ go ∧ Below w.heap.size w wr) (fun _ _ i _ => ps.length - (intOf i).toNat)
    case atStart => exact ⟨0, 0, 1, wm.heap.size, 1, [-1], [], Nat.zero_le _, rfl, rfl, rfl, rfl, rfl, rfl, by show (-1 : Int) < 0; omega, by omega, by rw [HG.out]; rfl, fun _ => by rw [HT.out]; rfl, (Own.lit1 wm (-1)).mono (by rw [HWS.out]; omega), by simpa using HM.out.below ((Below.refl _ _).alloc (Nat.le_refl _) _), by rw [HWS.out]; omega, HB0.out.alloc HB0.out.size _⟩
    case round =>
      obtain ⟨k, q, s, go, co, S, P, hk, rfl, rfl, rfl, hsl, hpl, hch, hhd, hqs, htr, hwd, hoo, how, hne, hbel⟩ := hrel
      have HO := hid hoo
      have HW := hid how
      have HB := hid hbel
      have HQS := hid hqs
      by_cases hlt : k < ps.length
      · have hcx := (hbel.cell (p := ⟨b, off + k, none⟩) (by exact hb)).trans (HC.out k hlt)
        obtain ⟨p, hp⟩ : ∃ p, p = ps[k] := ⟨_, rfl⟩
        have hd : ps.drop k = p :: ps.drop (k + 1) := by rw [List.drop_eq_getElem_cons hlt, hp]
        have HPK := hid (show ps.getD k 0 = p by rw [getD_at hlt, hp])
        rw [← hp] at hcx
        rw [hd, trB] at htr
        rw [hd, wdT] at hwd
        have q1 : (0 : Int) ≤ (k : Int) := by omega
        have q2 : (k : Int) < (ps.length : Int) := by omega
        have HSO := hid hoo.sits
        by_cases hpS : p ∈ S
        · obtain ⟨hix, htk, hdl⟩ := open_ix hch hpS
          have hDn := dT_mem.2 hpS
          obtain ⟨D, hD⟩ : ∃ D, D = dT p S := ⟨_, rfl⟩
          rw [← hD] at hix htk hdl hDn htr hwd
          have hDch : chW ps D := by rw [hD]; exact dT_ch hch (by rw [← hD]; exact hDn)
          obtain ⟨r, hr⟩ := dT_head (p := p) (S := S) (by rw [← hD]; exact hDn)
          rw [← hD] at hr
          subst hr
          have hplow := (chW_low hch p hpS).2
          have HCH2 := hid (chW_push (i := k) hDch hlt HPK.out (by omega))
          have HTR2 := hid (show trB (ps.drop (k + 1)) (k + 1) ((k : Int) :: p :: r) = wpB ps by rw [← htr]; simp)
          obtain ⟨j, hj⟩ : ∃ j, j = ixL p S.reverse := ⟨_, rfl⟩
          have HIX := hid (fun W (hW : Sits W (.slice (some ⟨go, 0, none⟩) s co) S.reverse) => Index_ix _ S.reverse p W hW (by simpa using hpS))
          rw [← hj] at hix htk HIX
          obtain ⟨md, hmd⟩ : ∃ md, md = (p :: r).length := ⟨_, rfl⟩
          rw [← hmd] at hix hdl
          rw [hsl] at hdl
          obtain ⟨d, hdd⟩ : ∃ d, d = s - md := ⟨_, rfl⟩
          have hs24 : s ≤ 25 := by omega
          have hmd24 : md ≤ 25 := by omega
          obtain ⟨q2, hq2⟩ : ∃ q2, q2 = q + d := ⟨_, rfl⟩
          obtain ⟨q3, hq3⟩ : ∃ q3, q3 = q2 + 1 := ⟨_, rfl⟩
          have hmv := HMM.out
          have hqm : q2 < m := by omega
          have HWD2 := hid (show wpB ps = true → (P ++ (List.replicate d 0 ++ [1])) ++ wdT (ps.drop (k + 1)) (k + 1) ((k : Int) :: p :: r) = T from fun h => by
            rw [← hwd h, hsl, ← hmd, ← hdd]; simp)
          have HP2 := hid (show (P ++ (List.replicate d 0 ++ [1])).length = q3 by simp [hpl]; omega)
          have u2 : IntKind.i64.wrap ((s : Int) - 1) = (s : Int) - 1 := IntWalk.i64_in _ (by omega)
          have u3 : IntKind.i64.wrap ((s : Int) - 1 - (j : Int)) = (d : Int) := by rw [IntWalk.i64_in _ (by omega)]; omega
          have u4 : IntKind.i64.wrap ((q : Int) + (d : Int)) = (q2 : Int) := by rw [IntWalk.i64_in _ (by omega)]; omega
          have u5 : IntKind.i64.wrap ((q2 : Int) + 1) = (q3 : Int) := by rw [IntWalk.i64_in _ (by omega)]; omega
          have u6 : IntKind.i64.wrap ((j : Int) + 1) = (md : Int) := by rw [IntWalk.i64_in _ (by omega)]; omega
          have u7 : ¬ (j : Int) < 0 := by omega
          have q3a : (0 : Int) ≤ (q2 : Int) := by omega
          have q3b : (q2 : Int) < (m : Int) := by omega
          have q3c : (0 : Int) ≤ (md : Int) := by omega
          obtain ⟨c0, c1, c2, c3, _, c5, c6⟩ := Own_cells hoo
          have q3d : (md : Int) ≤ (co : Int) := by rw [List.length_reverse] at c1; omega
          have hwl : (P ++ List.replicate (m - q) (0 : Int)).length = m := by simp [hpl]; omega
          obtain ⟨w0, w1, w2, w3, w4, w5, w6⟩ := Own_cells how
          have hwz : ∃ z, wr.cell? ⟨w.heap.size, q2, none⟩ = some z := ⟨_, w5 q2 (by rw [hwl]; exact hqm)⟩
          obtain ⟨z, hwz⟩ := hwz
          have hwf := w6 q2
          have hset := Own.set (g := w.heap.size) (cap := m) (xs := P ++ List.replicate (m - q) 0) (base := w.heap.size) (w := wr) (by rw [hwl]; exact how) q2 1
          rw [hwl, hq2, wp_row hpl (by omega), ← hq2, ← hq3] at hset
          have HSET := hid hset.1
          have HGS := hid hset.2
          have HCUT := hid (show wr.ownsRow w.heap.size 3 1 (.slice (some ⟨go, 0, none⟩) md co) md (((p :: r).reverse).map (Value.int .i64)) by
            have h := Own.cut hoo md (by rw [List.length_reverse, hsl]; exact hdl)
            rw [← hix, htk] at h
            rw [← hix]
            have h2 := h.row
            rw [List.length_reverse, ← hmd, ← hix] at h2
            exact h2)
          have HCUT2 := hid (World.ownsRow.kept HCUT.out HGS.out (.inr (by show some go ≠ some w.heap.size; intro e; exact hne (Option.some.inj e).symm)))
          have HBS := hid ((HB.out.setCell (p := ⟨w.heap.size, q2, none⟩) (Nat.le_refl _) (.int .i64 1)))
          have HMD := hid (show ((p :: r).reverse).length = md by rw [List.length_reverse]; exact hmd.symm)
          have HRV := hid (show ((k : Int) :: p :: r).reverse = (p :: r).reverse ++ [(k : Int)] from List.reverse_cons)
          have HQ3 := hid (show q3 + (md + 1) ≤ 2 * (k + 1) + 1 by have := HQS.out; omega)
          have HDL := hid (show ((k : Int) :: p :: r).length = md + 1 by rw [List.length_cons, ← hmd])
          clear c0 c5 c6 w0 w1 w2 w4 hoo how hbel hqs hch htr hwd hd hp hix htk hdl hDn hDch hplow hj hD hpS hset hmd w5 w6 hwl hsl hdd hmv c1 hq2 hq3 w3
          go_wp2_with (first
            | (go_at_call 51; refine (HIX.out _ HSO.out).mono ?_; rintro e w' ⟨rfl, rfl⟩)
            | (at_builtin; (refine wpList_append_lies _ rfl _ _ 22 rfl w.heap.size 3 i0 (.int .i64 0) 1 8 Try.underlying22 hi hz0 hz1 hz2 rfl (by decide) _ _ _ rfl (World.ownsRow.alloc HCUT2.out _) ⟨wr.heap.size, 0, none⟩ 1 1 [.int .i64 (k : Int)] rfl rfl (fun j u hj => new_cellW (size_set _ _ _) j hj) (one_cell _ _) Nat.zero_lt_one (by unfold maxLen; omega) (by omega) (by have := HB.out.size; first | omega | (simp <;> omega)) ?_); intro g2 c2' w7 hown7 hgrow7 hlies7; have HO7 := hid hown7; have HG7 := hid hgrow7; have hl7 : go = g2 ∨ g2 = wr.heap.size + 1 := hlies7.elim (fun h => .inl (Option.some.inj h)) (fun h => .inr (by simpa using h)); clear hown7 hgrow7 hlies7)
            | fail)
          have HW7 := hid (Own.kept (HSET.out.below ((Below.refl _ _).alloc (Nat.le_refl _) (.cells #[.int .i64 (k : Int)] 3))) HG7.out (.inr (by show some w.heap.size ≠ some go; intro e; exact hne (Option.some.inj e))))
          have HB7 := hid ((HBS.out.alloc HBS.out.size (.cells #[.int .i64 (k : Int)] 3)).grown HG7.out (Nat.le_trans HBS.out.size (by simp)) (fun k hk => (World.ownsRow.lt HCUT2.out k hk).1))
          have HO8 := hid (show Own w7 w.heap.size (.slice (some ⟨g2, 0, none⟩) (md + 1) c2') (((k : Int) :: p :: r).reverse) by
            rw [HRV.out]; have h := HO7.out; rw [← HMD.out] at h; have h2 := Own.snoc h; rw [HMD.out] at h2; exact h2)
          have hne7 : w.heap.size ≠ g2 := by have := HB.out.size; omega
          go_roundw
          case rel => exact ⟨k + 1, q3, md + 1, g2, c2', (k : Int) :: p :: r, P ++ (List.replicate d 0 ++ [1]), by omega, by go_num, rfl, rfl, HDL.out, HP2.out, HCH2.out, by show (k : Int) < _; omega, HQ3.out, HTR2.out, HWD2.out, HO8.out, HW7.out, hne7, HB7.out⟩
          case measure => simp [intOf]; omega
        · have hDn : dT p S = [] := Classical.byContradiction fun h => hpS (dT_mem.1 h)
          have HGF := hid (show wpB ps = false by rw [← htr, hDn]; simp)
          have HRS := hid (show wpRes ps = [] by unfold wpRes; rw [HGF.out]; simp)
          have HIX := hid (fun W (hW : Sits W (.slice (some ⟨go, 0, none⟩) s co) S.reverse) => Index_no _ S.reverse p W hW (by simpa using hpS))
          clear hoo how hbel hqs hch htr hwd hd hp hDn hpS hsl
          go_wp2_with (first
            | (go_at_call 51; refine (HIX.out _ HSO.out).mono ?_; rintro e w' ⟨rfl, rfl⟩)
            | fail)
          go_ret2
          exact ⟨_, by rw [HGF.out]; rfl, by rw [HRS.out]; exact Own.nil _ _, HB.out⟩
      · obtain rfl : k = ps.length := by omega
        have HGT := hid (show wpB ps = true by rw [← htr, List.drop_length]; rfl)
        have HE := hid (show P ++ List.replicate (m - q) 0 = wpRes ps by
          have h1 := hwd HGT.out
          rw [List.drop_length, wdT] at h1
          have h2 := congrArg List.length h1
          have h3 := wd_len (wpB_two HGT.out).1
          rw [← HT.out] at h3
          rw [show wpRes ps = T by unfold wpRes; rw [if_pos HGT.out, HT.out], ← h1]
          congr 2
          have := HMM.out
          simp at h2
          omega)
        clear hoo how hbel hqs hch htr hwd hsl hhd
        go_wp2_with fail
        go_ret2
        exact ⟨_, by rw [HGT.out]; rfl, by rw [← HE.out]; exact HW.out, HB.out⟩
end Go.Proofs.Ytakelcboamjndab
