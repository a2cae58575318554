/- Contracts: both NecklacesOf. Conditions: ints in their range. -/
import Derived.Test.YtjghjlhjeibfoabNk1
import Derived.Test.YtjghjlhjeibfoabLw3
namespace Go.Proofs.Ytjghjlhjeibfoab
open Go.RowKit
set_option linter.unusedVariables false
set_option maxRecDepth 4000

/-- A list of lists stays where its blocks stay. -/
theorem LsE.stay {w w' : World} {lo hi : Nat} {v : Value} {vs : List Value} {L : List (List Int)} (h : LsE w lo hi v vs L) (hk : ∀ k, lo ≤ k → k < hi → w'.heap[k]? = w.heap[k]?) : LsE w' lo hi v vs L := by
  refine ⟨h.len, ?_, fun i a b => ⟨(h.rows i a b).1.of_block (fun k hv => hk k ((h.rows i a b).1.low k hv).1 ((h.rows i a b).2 k hv)), (h.rows i a b).2⟩, h.apart⟩
  rcases h.outer with h1 | ⟨g, cap, cur, e, h1, h2, hg, rest⟩
  · exact .inl h1
  · exact .inr ⟨g, cap, cur, e, h1, h2, (hk g h1 h2).trans hg, rest⟩
/-- The like of wpList_pushE; it tells the blocks that stay, and where the new row of slices lies. -/
theorem wpList_pushF {P : Program} (w : World) {ops : Array Oper} {rest : List Oper} {o : Oper} {a : Act} {Q : Exit → Act → World → Prop} (hgd : o.guard = none) (s x : Operand) (t : TypeId)
    (ho : o.op = .call { callee := .builtin .append, args := #[s, x], argTypes := #[t, t] }) (B H : Nat) (i : TypeInfo) (ht : P.underlying t = some (.slice 22)) (hi : P.info? 22 = some i) (hz : i.zero = some (.slice none 0 0)) (hsize : i.size = 1) (hby : i.bytes = 24)
    (aA : Option Addr) (n c : Nat) (L : List (List Int)) (hs : a.eval s = .slice aA n c) (hL : GrL w B H (.slice aA n c) L) (u : Value) (l : List Int) (hu : OwnE w B u l) (hH : ∀ g, u.ownBlock = some g → H ≤ g) (gs : Nat) (hgs : w.heap.size = gs) (hx : a.eval x = .slice (some ⟨gs, 0, none⟩) 1 1) (hn : n ≤ 1048576) (hB : B ≤ w.heap.size) (hHs : H ≤ w.heap.size)
    (h : ∀ (g cap : Nat) (w' : World), GrL w' B w.heap.size (.slice (some ⟨g, 0, none⟩) (n + 1) cap) (L ++ [l]) → w.heap.size ≤ w'.heap.size → (∀ (b : Nat) (w0 : World), b ≤ B → Below b w0 w → Below b w0 w') → (∀ k, k < w.heap.size → (Value.slice aA n c).ownBlock ≠ some k → w'.heap[k]? = w.heap[k]?) → ((Value.slice aA n c).ownBlock = some g ∨ w.heap.size ≤ g) → wpList P ops Q rest (a.put o.dst (.slice (some ⟨g, 0, none⟩) (n + 1) cap)) w') :
    wpList P ops Q (o :: rest) a (w.alloc (.cells #[u] 22)) := by
  subst hgs
  have hl := hL.lenA
  subst hl
  have hb : Below w.heap.size w (w.alloc (.cells #[u] 22)) := (Below.refl _ _).alloc (Nat.le_refl _) _
  obtain ⟨vs, hE⟩ := hL.below hb
  refine wpList_append_lies _ hgd s x t ho B 22 i (.slice none 0 0) 1 24 ht hi hz hsize hby rfl (by decide) _ L.length _ hs hE.outer ⟨w.heap.size, 0, none⟩ 1 1 [u] hx rfl (fun j u hj => new_cellV j hj) hu.one Nat.zero_lt_one (by unfold maxLen; omega) (by omega) (by simp; omega) ?_
  intro g cap w' h1 h2 h3
  refine h g cap w' ?_ (Nat.le_trans (by simp) h2.size) (fun b w0 e hb0 => ?_) (fun k hk hne => ?_) ?_
  · exact ⟨_, hE.push (hu.below hb) (fun g hg => ⟨hH g hg, (hu.low g hg).2⟩) hHs h1 h2⟩
  · exact (hb0.alloc (Nat.le_trans e hB) _).grown h2 (Nat.le_trans (Nat.le_trans e hB) (by simp)) (fun k hk => Nat.le_trans e (World.ownsRow.lt hE.outer k hk).1)
  · rw [h2.block k (by simp; omega) (fun e => hne e.symm)]
    exact hb.block k hk
  · rcases h3 with h3 | h3
    · exact .inl h3
    · right; rw [h3]; simp
theorem wdTo_at {n k : Nat} : ∀ {C i : Nat} (h : i < C) (h2 : i < (wdTo n k C).length), (wdTo n k C)[i] = wdL n k i
  | C + 1, i, h, h2 => by
    by_cases e : i < C
    · simp only [wdTo]
      rw [List.getElem_append_left (by rw [wdTo_len]; exact e)]
      exact wdTo_at e _
    · have : i = C := by omega
      subst this
      simp only [wdTo]
      rw [List.getElem_append_right (by rw [wdTo_len]; exact Nat.le_refl _)]
      simp
/-- The elements of a list of lists that lies in blocks that stay. -/
theorem LsE.elem {w w' : World} {lo hi c C : Nat} {aA : Option Addr} {vs : List Value} {L : List (List Int)} (h : LsE w lo hi (.slice aA C c) vs L) (hk : ∀ k, lo ≤ k → k < hi → w'.heap[k]? = w.heap[k]?) (hC : L.length = C) (h0 : 0 < C) :
    ∃ g, aA = some ⟨g, 0, none⟩ ∧ C ≤ c ∧ c ≤ 9223372036854775807 ∧ ∀ i (hi2 : i < L.length), ∃ ao c2, w'.cell? ⟨g, i, none⟩ = some (.slice ao L[i].length c2) ∧ OwnE w' lo (.slice ao L[i].length c2) L[i] := by
  have h' := h.stay hk
  rcases h.outer with ⟨e, e2⟩ | ⟨g, cap, cur, e, _⟩
  · simp only [Value.slice.injEq] at e
    omega
  · simp only [Value.slice.injEq] at e
    obtain ⟨rfl, hl, rfl⟩ := e
    obtain ⟨_, h2, h3, _, _, _, h7⟩ := h'.cell
    refine ⟨g, rfl, by omega, h3, fun i hi2 => ?_⟩
    have hi3 : i < vs.length := by rw [h.len]; exact hi2
    have h8 := h7 i hi3
    have h9 := (h'.rows i hi3 hi2).1
    obtain ⟨ao, c2, e, _⟩ := h9.shp
    rw [e] at h8 h9
    exact ⟨ao, c2, h8, h9⟩
theorem law_spec_NecklacesOf (n k : Int) (w : World) (_wn : (Lit.int .i64 n).wf = true) (_wk : (Lit.int .i64 k).wf = true) :
    Calls Try.prog 25 #[.int .i64 n, .int .i64 k] w fun e w' => ∃ u, e = .returned (.tuple #[u, .bool (nkB n k)]) ∧ ReadsL w' u (nkRes n k) ∧ Below w.heap.size w w' := by
  cases hk0 : kindB n k with
  | false =>
    have HP := hid (show nkB n k = false by unfold nkB; rw [hk0]; rfl)
    have HF := hid (nkRes_no HP.out)
    go_enter Try.func25, Try.ntmps25
    go_wp2_with (first | (go_at_call 42; (refine (lyKind_any _ _ _).mono ?_); (rintro e w1 ⟨rfl, rfl⟩); (rw [hk0])) | fail)
    go_ret2
    exact ⟨_, ret_sb7 HP.out.symm, by rw [HF.out]; exact (Lists.nil _ w.heap.size).readsL, Below.refl _ _⟩
  | true =>
    have hk9 := hk0
    obtain ⟨n, k, rfl, rfl, hn1, hn2, hk1, hk2⟩ := kindB_nat hk0
    have hnt := nec_tab k hk2 n hn2 n (by omega)
    by_cases hup : necC k n ≤ 1100
    · have HP := hid (show nkB (n : Int) (k : Int) = true by unfold nkB; rw [hk9, Int.toNat_natCast, Int.toNat_natCast, decide_eq_true hup]; rfl)
      obtain ⟨C, hC, hC2, hW⟩ := nec_few hn1 hn2 hk1 hk2 hup
      have HF := hid (show nkRes (n : Int) (k : Int) = ncTo n k C by rw [nkRes_yes HP.out, Int.toNat_natCast, Int.toNat_natCast, show (upT k n).toNat = C by omega])
      have HW := hid hW
      obtain ⟨U, hU⟩ : ∃ U, U = necC k n := ⟨_, rfl⟩
      rw [← hU] at hup
      have HU := hid hU
      have hq : ¬ (1100 : Int) < U := by omega
      clear hk9 hC hW hup hU hnt
      go_enter Try.func25, Try.ntmps25
      go_wp2_with (first
        | (go_at_call 42; (refine (lyKind_any _ _ _).mono ?_); (rintro e w1 ⟨rfl, rfl⟩); (rw [hk0]))
        | (go_at_call 52; (refine (lyNecklaces_any k n _ hk2 hn1 hn2).mono ?_); (rintro e w2 ⟨rfl, rfl⟩); (rw [← HU.out]))
        | (go_at_call 53; (refine (lyAll_any n k C _ hn1 hn2 hk1 hk2 HW.out (by omega)).mono ?_); (rintro e w2 ⟨u, rfl, hl, hb⟩); (have HL := hid hl); (have HB := hid hb); (clear hl hb))
        | fail)
      go_ret2
      exact ⟨_, ret_sb7 HP.out.symm, by rw [HF.out]; exact HL.out, HB.out⟩
    · have HP := hid (show nkB (n : Int) (k : Int) = false by unfold nkB; rw [Int.toNat_natCast, Int.toNat_natCast, decide_eq_false hup]; simp)
      have HF := hid (nkRes_no HP.out)
      obtain ⟨U, hU⟩ : ∃ U, U = necC k n := ⟨_, rfl⟩
      rw [← hU] at hup
      have HU := hid hU
      have hq : (1100 : Int) < U := by omega
      clear hk9 hup hU hnt
      go_enter Try.func25, Try.ntmps25
      go_wp2_with (first
        | (go_at_call 42; (refine (lyKind_any _ _ _).mono ?_); (rintro e w1 ⟨rfl, rfl⟩); (rw [hk0]))
        | (go_at_call 52; (refine (lyNecklaces_any k n _ hk2 hn1 hn2).mono ?_); (rintro e w2 ⟨rfl, rfl⟩); (rw [← HU.out]))
        | fail)
      go_ret2
      exact ⟨_, ret_sb7 HP.out.symm, by rw [HF.out]; exact (Lists.nil _ w.heap.size).readsL, Below.refl _ _⟩
set_option maxHeartbeats 2000000 in
theorem law_impl_NecklacesOf (n k : Int) (w : World) (_wn : (Lit.int .i64 n).wf = true) (_wk : (Lit.int .i64 k).wf = true) :
    Calls Try.prog 26 #[.int .i64 n, .int .i64 k] w fun e w' => ∃ u, e = .returned (.tuple #[u, .bool (nkB n k)]) ∧ ListsE w' w.heap.size w'.heap.size u (nkRes n k) ∧ Below w.heap.size w w' := by
  cases hi1 : inB n 1 12 with
  | false =>
    have HP := hid (show nkB n k = false by unfold nkB kindB; rw [hi1]; rfl)
    have HF := hid (nkRes_no HP.out)
    go_enter Try.func26, Try.ntmps26
    go_wp2_with (first | (go_at_call 45; (refine (isWordLength_any _ _).mono ?_); (rintro e w1 ⟨rfl, rfl⟩); (rw [hi1])) | fail)
    go_ret2
    exact ⟨_, ret_sb7 HP.out.symm, by rw [HF.out]; exact (GrL.nil _ _ 0).listsE, Below.refl _ _⟩
  | true =>
    cases hi2 : inB k 1 6 with
    | false =>
      have HP := hid (show nkB n k = false by unfold nkB kindB; rw [hi1, hi2]; rfl)
      have HF := hid (nkRes_no HP.out)
      go_enter Try.func26, Try.ntmps26
      go_wp2_with (first | (go_at_call 45; (refine (isWordLength_any _ _).mono ?_); (rintro e w1 ⟨rfl, rfl⟩); (rw [hi1])) | (go_at_call 46; (refine (isLetterCount_any _ _).mono ?_); (rintro e w1 ⟨rfl, rfl⟩); (rw [hi2])) | fail)
      go_ret2
      exact ⟨_, ret_sb7 HP.out.symm, by rw [HF.out]; exact (GrL.nil _ _ 0).listsE, Below.refl _ _⟩
    | true =>
      have hk9 : kindB n k = true := by unfold kindB; rw [hi1, hi2]; rfl
      obtain ⟨n, k, rfl, rfl, hn1, hn2, hk1, hk2⟩ := kindB_nat hk9
      have hnt := nec_tab k hk2 n hn2 n (by omega)
      have hnt0 : 0 ≤ necC k n := hnt.1
      by_cases hup : necC k n ≤ 1100
      · have HP := hid (show nkB (n : Int) (k : Int) = true by unfold nkB; rw [hk9, Int.toNat_natCast, Int.toNat_natCast, decide_eq_true hup]; rfl)
        obtain ⟨C, hC, hC2, hW⟩ := nec_few hn1 hn2 hk1 hk2 hup
        have HF := hid (show nkRes (n : Int) (k : Int) = ncTo n k C by rw [nkRes_yes HP.out, Int.toNat_natCast, Int.toNat_natCast, show (upT k n).toNat = C by omega])
        obtain ⟨U, hU⟩ : ∃ U : Nat, (U : Int) = necC k n := ⟨(necC k n).toNat, by omega⟩
        rw [← hU] at hup
        have HC := hid hC
        have HW := hid hW
        have HU := hid hU
        have hq : ¬ (1100 : Int) < (U : Int) := by omega
        have hU2 : U ≤ 1100 := by omega
        obtain ⟨j0, hj, hy0, hy1, hy2⟩ := info_parts Try.infoL
        have HMK := hid (fun (W : World) (hB : w.heap.size ≤ W.heap.size) => run_make_own (P := Try.prog) W w.heap.size 32 22 j0 (.slice none 0 0) 1 Try.underlying32 hj hy0 hy1 .i64 .i64 U (by rw [hy2]; omega) (by unfold maxLen; omega) hB)
        clear hk9 hC hW hup hU hnt hnt0
        go_enter Try.func26, Try.ntmps26
        go_wp2_with (first
          | (go_at_call 45; (refine (isWordLength_any _ _).mono ?_); (rintro e w1 ⟨rfl, rfl⟩); (rw [hi1]))
          | (go_at_call 46; (refine (isLetterCount_any _ _).mono ?_); (rintro e w1 ⟨rfl, rfl⟩); (rw [hi2]))
          | (go_at_call 54; (have HX := HB2); (refine (countNecklaces_any k n _ hk2 hn1 hn2).mono ?_); (rintro e w3 ⟨rfl, hb3⟩); (rw [← HU.out]); (have HB3 := hid (Below_chain HB2.out hb3)); (obtain ⟨wm, hrun, hown0, hgrow0⟩ := HMK.out w3 HB3.out.size); (have HM0 := hid hown0); (have HBM := hid (Below.grown HB3.out hgrow0 HB3.out.size (fun q hq => by cases hq))); (have HSM := hid hgrow0.size); (clear hb3 hown0 hgrow0))
          | (go_at_call 54; (refine (countNecklaces_any k n _ hk2 hn1 hn2).mono ?_); (rintro e w2 ⟨rfl, hb2⟩); (rw [← HU.out]); (have HB2 := hid hb2); (clear hb2))
          | (go_at_call 51; (refine (allLyndonUpTo_any n k C _ hn1 hn2 hk1 hk2 HW.out HC.out HW.out.pos (by omega)).mono ?_); (rintro e w4 ⟨aA, c9, rfl, hg4, hb4⟩); (obtain ⟨vs, hls⟩ := hg4.listsE); (have HLS := hid hls); (have HG0 := hid (((GrL.made (H := wm.heap.size) HM0.out).below hb4).up hb4.size)); (have HB4 := hid (HBM.out.trans (hb4.mono (Nat.le_trans HB3.out.size HSM.out)))); (clear hg4 hls hb4))
          | fail)
        clear hrun
        go_loopw [6, 8, 31] (fun nv _ iv wr => ∃ (i p c0 : Nat) (a2 : Option Addr), iv = .int .i64 (i : Int) ∧ i ≤ C ∧ p ≤ i ∧ nv = .slice a2 p c0 ∧ GrL wr w.heap.size wr.heap.size (.slice a2 p c0) (ncTo n k i) ∧ (∀ g, (Value.slice a2 p c0).ownBlock = some g → g < wm.heap.size ∨ w4.heap.size ≤ g) ∧ (∀ t, wm.heap.size ≤ t → t < w4.heap.size → wr.heap[t]? = w4.heap[t]?) ∧ w4.heap.size ≤ wr.heap.size ∧ Below w.heap.size w wr) (fun _ _ iv _ => C - (intOf iv).toNat)
        case atStart => exact ⟨0, 0, U, _, rfl, Nat.zero_le _, Nat.le_refl _, rfl, HG0.out, fun g hg => .inl (World.ownsRow.lt HM0.out g hg).2, fun t _ _ => rfl, Nat.le_refl _, HB4.out⟩
        case round =>
          obtain ⟨i, p, c0, a2, rfl, hi, hpi, rfl, hgr, hap, hst, hsz, hbel⟩ := hrel
          have HG := hid hgr
          have HAP := hid hap
          have HST := hid hst
          have HB := hid hbel
          have HSZ := hid hsz
          have HPI := hid hpi
          clear hgr hap hst hbel hsz
          by_cases hlt : i < C
          · obtain ⟨g1, hg1, hc1, hc2, hel⟩ := HLS.out.elem HST.out (wdTo_len n k C) (by omega)
            obtain ⟨ao, c2, hcx, ho⟩ := hel i (by rw [wdTo_len]; exact hlt)
            rw [wdTo_at hlt] at hcx ho
            subst hg1
            have hw := HW.out.word hn1 hn2 hk1 hk2 hlt
            have HYES := hid (fun h => ncTo_yes (n := n) (k := k) (i := i) h)
            have HNO := hid (fun h => ncTo_no (n := n) (k := k) (i := i) h)
            obtain ⟨W, hWW⟩ : ∃ W, W = wdL n k i := ⟨_, rfl⟩
            rw [← hWW] at hcx ho hw HYES HNO
            obtain ⟨m, hm⟩ : ∃ m, m = W.length := ⟨_, rfl⟩
            have HLM := hid hm
            have hw1 := hw.1
            have hw2 := hw.2.1
            have HSI := hid (OwnE.sitsN ho hw1)
            rw [← hm] at hcx HYES HNO HSI hw1 hw2
            obtain ⟨r, hr⟩ : ∃ r, r = n % m := ⟨_, rfl⟩
            obtain ⟨u1, u2⟩ := rem_nat hr
            have u3 : ((m : Int) == 0) = false := beq_eq_false_iff_ne.2 (by omega)
            have HRE := hid hr
            have hrl : r < 13 := by rw [hr]; have := Nat.mod_lt n (show m > 0 by omega); omega
            have hp14 : p ≤ 1400 := by omega
            have q1 : (i : Int) < (C : Int) := by omega
            have HI := hid (show i + 1 ≤ C from hlt)
            clear hel ho hw hWW hm hr hpi hi
            by_cases hr0 : r = 0
            · have HNC := hid (HYES.out (by rw [← HRE.out]; exact hr0))
              subst hr0
              go_wp2_with (first
                | (at_builtin; (refine wpList_pushF _ rfl _ _ 32 rfl w.heap.size wr.heap.size j0 Try.underlying32 hj hy0 hy1 hy2 a2 p c0 (ncTo n k i) rfl HG5.out (.slice (some ⟨wr.heap.size, 0, none⟩) n n) (arL W 0 n) HO5.out (fun g hg => by simp only [Value.ownBlock, Option.some.injEq] at hg; omega) w5.heap.size rfl rfl (by omega) HB5.out.size HS5.out ?_); (intro g6 c6 w6 hg6 hz6 hb6 hk6 hl6); (rw [← HNC.out] at hg6); (have HG6 := hid (hg6.up hz6)); (have HB6 := hid (hb6 _ w (Nat.le_refl _) HB5.out)); (have HK6 := hid hk6); (have HL6 := hid hl6); (have HZ6 := hid hz6); (clear hg6 hz6 hb6 hk6 hl6))
                | (go_at_call 55; (refine (around_any _ W 0 n _ HSI.out (by omega) (by omega) (by rw [← HLM.out]; exact hw1) (by rw [← HLM.out]; omega)).mono ?_); (rintro e w5 ⟨rfl, ho5, hb5⟩); (have HO5 := hid (ho5.e.mono HB.out.size)); (have HG5 := hid (HG.out.below hb5)); (have HS5 := hid hb5.size); (have HK5 := hid (fun t (ht : t < wr.heap.size) => hb5.block t ht)); (have HB5 := hid (Below_chain HB.out hb5)); (clear ho5 hb5))
                | fail)
              go_roundw
              case rel => exact ⟨i + 1, p + 1, c6, some ⟨g6, 0, none⟩, by go_num, HI.out, by have := HPI.out; omega, rfl, HG6.out, fun g hg => by
                  simp only [Value.ownBlock, Option.some.injEq] at hg
                  have h1 := HL6.out; have h2 := HS5.out; have h3 := HSZ.out
                  rcases h1 with h1 | h1
                  · rw [hg] at h1; exact HAP.out g h1
                  · right; omega, fun t h1 h2 => by
                  have h3 := HSZ.out; have h4 := HS5.out
                  rw [HK6.out t (by omega) (fun e => by have := HAP.out t e; omega), HK5.out t (by omega)]
                  exact HST.out t h1 h2, by have h3 := HSZ.out; have h4 := HS5.out; have h5 := HZ6.out; omega, HB6.out⟩
              case measure => simp [intOf]; omega
            · have u4 : ((r : Int) == 0) = false := beq_eq_false_iff_ne.2 (by omega)
              have HNC := hid (HNO.out (by rw [← HRE.out]; exact hr0))
              clear hr0
              go_wp2_with fail
              go_roundw
              case rel => exact ⟨i + 1, p, c0, a2, by go_num, HI.out, by have := HPI.out; omega, rfl, by rw [HNC.out]; exact HG.out, HAP.out, HST.out, HSZ.out, HB.out⟩
              case measure => simp [intOf]; omega
          · obtain rfl : i = C := by omega
            have q1 : ¬ (i : Int) < (i : Int) := by omega
            clear hpi
            go_wp2_with fail
            go_ret2
            exact ⟨_, ret_sb7 HP.out.symm, by rw [HF.out]; exact HG.out.listsE, HB.out⟩
      · have HP := hid (show nkB (n : Int) (k : Int) = false by unfold nkB; rw [Int.toNat_natCast, Int.toNat_natCast, decide_eq_false hup]; simp)
        have HF := hid (nkRes_no HP.out)
        obtain ⟨U, hU⟩ : ∃ U, U = necC k n := ⟨_, rfl⟩
        rw [← hU] at hup
        have HU := hid hU
        have hq : (1100 : Int) < U := by omega
        clear hk9 hup hU hnt hnt0
        go_enter Try.func26, Try.ntmps26
        go_wp2_with (first
          | (go_at_call 45; (refine (isWordLength_any _ _).mono ?_); (rintro e w1 ⟨rfl, rfl⟩); (rw [hi1]))
          | (go_at_call 46; (refine (isLetterCount_any _ _).mono ?_); (rintro e w1 ⟨rfl, rfl⟩); (rw [hi2]))
          | (go_at_call 54; (refine (countNecklaces_any k n _ hk2 hn1 hn2).mono ?_); (rintro e w2 ⟨rfl, hb2⟩); (rw [← HU.out]); (have HB2 := hid hb2); (clear hb2))
          | fail)
        go_ret2
        exact ⟨_, ret_sb7 HP.out.symm, by rw [HF.out]; exact (GrL.nil _ _ 0).listsE, HB2.out⟩
end Go.Proofs.Ytjghjlhjeibfoab
