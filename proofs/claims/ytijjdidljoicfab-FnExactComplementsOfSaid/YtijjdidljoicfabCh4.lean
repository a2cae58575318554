/- Contracts: chSize, spec.IsExchangeList, spec.IsAdjacentList and spec.ComplementsOf. Conditions: the slice reads as a list of lists. -/
import Derived.Test.YtijjdidljoicfabCh3
namespace Go.Proofs.Ytijjdidljoicfab
open Go.RowKit
set_option linter.unusedVariables false

theorem ret_bb3 {a b c d : Bool} (h : a = c) (h2 : b = d) : Ending.returned (.tuple #[.bool a, .bool b]) = Ending.returned (.tuple #[.bool c, .bool d]) := by rw [h, h2]
def szB (n k : Int) : Bool := inB n 0 12 && inB k 0 n
theorem szB_nat {n k : Int} (h : szB n k = true) : ∃ N K : Nat, n = (N : Int) ∧ k = (K : Int) ∧ N ≤ 12 ∧ K ≤ N := by
  rw [szB, Bool.and_eq_true] at h
  have h1 := inB_iff.1 h.1
  have h2 := inB_iff.1 h.2
  exact ⟨n.toNat, k.toNat, by omega, by omega, by omega, by omega⟩
theorem chSize_any (n k : Int) (w : World) : Calls Try.prog 28 #[.int .i64 n, .int .i64 k] w fun e w' => e = .returned (.bool (szB n k)) ∧ w = w' := by
  cases h : inB n 0 12 with
  | true =>
    have H := hid h
    have HV := hid (show szB n k = inB k 0 n by rw [szB, h]; rfl)
    clear h
    go_enter Try.func28, Try.ntmps28
    go_wp2_with (first | (go_at_call 68; refine (raItems_any _ _).mono ?_; rintro e w' ⟨rfl, rfl⟩; rw [H.out]) | (go_at_call 48; refine (l1In_any _ _ _ _).mono ?_; rintro e w' ⟨rfl, rfl⟩) | fail)
    go_ret
    exact ⟨ret_bool HV.out.symm, rfl⟩
  | false =>
    have H := hid h
    have HV := hid (show szB n k = false by rw [szB, h]; rfl)
    clear h
    go_enter Try.func28, Try.ntmps28
    go_wp2_with (first | (go_at_call 68; refine (raItems_any _ _).mono ?_; rintro e w' ⟨rfl, rfl⟩; rw [H.out]) | fail)
    go_ret
    exact ⟨ret_bool HV.out.symm, rfl⟩
def chOk (n k : Int) (L : List (List Int)) : Bool := szB n k && chlB n L
/-- all combinations, each once, with exchanges at most so far (n itself: however far) -/
def chV (far : Int → Int) (n k : Int) (L : List (List Int)) : Bool := chOk n k L && (chaB n.toNat k.toNat L && nearL (far n) L)
def farN (n : Int) : Int := n
def far1 (_ : Int) : Int := 1
theorem spec_IsAdjacentList_any (n k : Int) (v : Value) (L : List (List Int)) (base : Nat) (w : World) (h : Lists w base v L) :
    Calls Try.prog 23 #[.int .i64 n, .int .i64 k, v] w fun e w' => e = .returned (.tuple #[.bool (chV far1 n k L), .bool (chOk n k L)]) ∧ Below w.heap.size w w' := by
  have HL := hid h
  cases hs : szB n k with
  | false =>
    have HO := hid (show chOk n k L = false by rw [chOk, hs]; rfl)
    have HV := hid (show chV far1 n k L = false by rw [chV, HO.out]; rfl)
    have HS := hid hs
    clear hs h
    go_enter Try.func23, Try.ntmps23
    go_wp2_with (first | (go_at_call 28; refine (chSize_any n k _).mono ?_; rintro e w1 ⟨rfl, rfl⟩; rw [HS.out]) | fail)
    go_ret2
    exact ⟨ret_bb3 HV.out.symm HO.out.symm, Below.refl _ _⟩
  | true =>
    have HS := hid hs
    cases hc : chlB n L with
    | false =>
      have HO := hid (show chOk n k L = false by rw [chOk, hc, Bool.and_false])
      have HV := hid (show chV far1 n k L = false by rw [chV, HO.out]; rfl)
      have HC := hid hc
      clear hs h hc
      go_enter Try.func23, Try.ntmps23
      go_wp2_with (first | (go_at_call 28; refine (chSize_any n k _).mono ?_; rintro e w1 ⟨rfl, rfl⟩; rw [HS.out]) | (go_at_call 61; refine (chLists_any n _ L _ _ HL.out).mono ?_; rintro e w1 ⟨rfl, rfl⟩; rw [HC.out]) | fail)
      go_ret2
      exact ⟨ret_bb3 HV.out.symm HO.out.symm, Below.refl _ _⟩
    | true =>
      have HC := hid hc
      have HO := hid (show chOk n k L = true by rw [chOk, hs, hc]; rfl)
      obtain ⟨N, K, rfl, rfl, hN, hK⟩ := szB_nat hs
      have HF := hid (few_of_chl hc)
      have hlen : L.length ≤ 100000 := by
        simp only [chlB, Bool.and_eq_true, decide_eq_true_eq] at hc
        omega
      cases ha : chaB N K L with
      | false =>
        have HV := hid (show chV far1 (N : Int) (K : Int) L = false by rw [chV, HO.out, Int.toNat_natCast, Int.toNat_natCast, ha]; rfl)
        have HA := hid ha
        clear hs h hc ha
        go_enter Try.func23, Try.ntmps23
        go_wp2_with (first | (go_at_call 28; refine (chSize_any _ _ _).mono ?_; rintro e w1 ⟨rfl, rfl⟩; rw [HS.out]) | (go_at_call 61; refine (chLists_any _ _ L _ _ HL.out).mono ?_; rintro e w1 ⟨rfl, rfl⟩; rw [HC.out]) | (go_at_call 62; refine (chAll_any N K hN hK _ L _ _ HL.out).mono ?_; rintro e w1 ⟨rfl, hb1⟩; rw [HA.out]; have HB1 := hid hb1; clear hb1) | fail)
        go_ret2
        exact ⟨ret_bb3 HV.out.symm HO.out.symm, HB1.out⟩
      | true =>
        have HV := hid (show chV far1 (N : Int) (K : Int) L = nearL 1 L by rw [chV, HO.out, Int.toNat_natCast, Int.toNat_natCast, ha]; rfl)
        have HA := hid ha
        clear hs h hc ha
        go_enter Try.func23, Try.ntmps23
        go_wp2_with (first | (go_at_call 28; refine (chSize_any _ _ _).mono ?_; rintro e w1 ⟨rfl, rfl⟩; rw [HS.out]) | (go_at_call 61; refine (chLists_any _ _ L _ _ HL.out).mono ?_; rintro e w1 ⟨rfl, rfl⟩; rw [HC.out]) | (go_at_call 62; refine (chAll_any N K hN hK _ L _ _ HL.out).mono ?_; rintro e w1 ⟨rfl, hb1⟩; rw [HA.out]; have HB1 := hid hb1; have HL1 := hid (HL.out.below hb1); clear hb1) | (go_at_call 63; refine (chNear_any _ L _ _ _ HL1.out HF.out hlen).mono ?_; rintro e w2 ⟨rfl, hb2⟩; have HB2 := hid (Below_chain HB1.out hb2); clear hb2) | fail)
        go_ret2
        exact ⟨ret_bb3 HV.out.symm HO.out.symm, HB2.out⟩
def cmpL (n : Int) (L : List (List Int)) : List (List Int) := L.map (fun l => missL (upTo n.toNat) l)
def cmpRes (n : Int) (L : List (List Int)) : List (List Int) := if chlB n L = true then cmpL n L else []
theorem cmpRes_yes {n : Int} {L : List (List Int)} (h : chlB n L = true) : cmpRes n L = cmpL n L := by unfold cmpRes; rw [if_pos h]
theorem cmpRes_no {n : Int} {L : List (List Int)} (h : chlB n L = false) : cmpRes n L = [] := by unfold cmpRes; rw [if_neg (by rw [h]; simp)]
theorem cmp_snoc {n : Int} {L : List (List Int)} {k : Nat} (h : k < L.length) : cmpL n (L.take (k + 1)) = cmpL n (L.take k) ++ [missL (upTo n.toNat) L[k]] := by
  unfold cmpL
  rw [List.take_succ_eq_append_getElem h, List.map_append]
  rfl
theorem ret_sb5 {u : Value} {b b' : Bool} (h : b = b') : Ending.returned (.tuple #[u, .bool b]) = .returned (.tuple #[u, .bool b']) := by rw [h]
set_option maxHeartbeats 2000000 in
theorem spec_ComplementsOf_any (n : Int) (v : Value) (L : List (List Int)) (base : Nat) (w : World) (h : Lists w base v L) :
    Calls Try.prog 26 #[.int .i64 n, v] w fun e w' => ∃ u, e = .returned (.tuple #[u, .bool (chlB n L)]) ∧ Lists w' w.heap.size u (cmpRes n L) ∧ Below w.heap.size w w' := by
  have HL := hid h
  cases hc : chlB n L with
  | false =>
    have HC := hid hc
    have HR := hid (cmpRes_no hc)
    clear hc h
    go_enter Try.func26, Try.ntmps26
    go_wp2_with (first | (go_at_call 61; refine (chLists_any n _ L _ _ HL.out).mono ?_; rintro e w1 ⟨rfl, rfl⟩; rw [HC.out]) | fail)
    go_ret2
    exact ⟨_, rfl, by rw [HR.out]; exact Lists.nil _ _, Below.refl _ _⟩
  | true =>
    have HC := hid hc
    have HR := hid (cmpRes_yes hc)
    have hcc := hc
    simp only [chlB, Bool.and_eq_true, decide_eq_true_eq] at hcc
    have hn := inB_iff.1 hcc.2.1
    obtain ⟨N, rfl⟩ : ∃ N : Nat, n = (N : Int) := ⟨n.toNat, by omega⟩
    have hN : N ≤ 12 := by omega
    have hlen : L.length ≤ 1100 := hcc.2.2
    have HU := hid (upTo_length N)
    obtain ⟨j0, hj, hy0, hy1, hy2⟩ := info_parts Try.infoL
    rcases h.form with ⟨rfl, rfl⟩ | ⟨g, cap, rfl, _, hg, hc1, hm, hcell⟩
    · clear hc hcc h
      go_enter Try.func26, Try.ntmps26
      go_wp2_with (first | (go_at_call 61; refine (chLists_any _ _ [] _ _ HL.out).mono ?_; rintro e w1 ⟨rfl, rfl⟩; rw [HC.out]) | fail)
      refine wp_loop_rounds 1 ?_
      rw [rounds_succ]
      go_wp2_with fail
      go_ret2
      exact ⟨_, rfl, by rw [HR.out]; exact Lists.nil _ _, Below.refl _ _⟩
    · have HCELL := hid hcell
      clear hc hcc h hcell
      go_enter Try.func26, Try.ntmps26
      go_wp2_with (first | (go_at_call 61; refine (chLists_any _ _ L _ _ HL.out).mono ?_; rintro e w1 ⟨rfl, rfl⟩; rw [HC.out]) | fail)
      go_loopw [6, 8, 15] (fun ov _ i wr => ∃ k : Nat, k ≤ L.length ∧ i = .int .i64 k ∧ Lists wr w.heap.size ov (cmpL (N : Int) (L.take k)) ∧ Below w.heap.size w wr) (fun _ _ i _ => L.length - (intOf i).toNat)
      case atStart => exact ⟨0, Nat.zero_le _, rfl, Lists.nil _ _, Below.refl _ _⟩
      case round =>
        obtain ⟨k, hk, rfl, hli, hbel⟩ := hrel
        have HLI := hid hli
        have HB := hid hbel
        have hsz := hbel.size
        by_cases hlt : k < L.length
        · obtain ⟨z, hz, hown⟩ := HCELL.out k hlt
          have hcx : wr.cell? ⟨g, k, none⟩ = some z := (hbel.cell (by exact hg)).trans hz
          have HZ := hid (hown.reads.below hbel)
          obtain ⟨l, hl⟩ : ∃ l, l = L[k] := ⟨_, rfl⟩
          rw [← hl] at HZ
          obtain ⟨m, hm2⟩ : ∃ m, m = missL (upTo N) l := ⟨_, rfl⟩
          have HM := hid hm2
          obtain ⟨M, hM⟩ : ∃ M, M = cmpL (N : Int) (L.take k) := ⟨_, rfl⟩
          have HNX := hid (show cmpL (N : Int) (L.take (k + 1)) = M ++ [m] by rw [cmp_snoc hlt, ← hM, ← hl, Int.toNat_natCast, ← hm2])
          have hMl : M.length ≤ 1100 := by rw [hM, cmpL, List.length_map, List.length_take]; omega
          rw [← hM] at HLI
          clear hz hown hl hm2 hM hli hbel
          go_wp2_with fail
          refine (raUpTo_any N _ (by omega)).mono ?_
          rintro e w1 ⟨u1, rfl, ho1, hb1⟩
          have HU1 := hid ho1.reads
          have HZ1 := hid (HZ.out.below hb1)
          have HB1 := hid hb1
          clear ho1 hb1
          go_wp2_with fail
          refine (chMissing_any _ _ (upTo N) l _ HU1.out HZ1.out (by rw [HU.out]; omega)).mono ?_
          rintro e w2 ⟨r, rfl, ho2, hb2⟩
          rw [← HM.out] at ho2
          obtain ⟨aor, cr, rfl⟩ := ho2.slice2
          have HB2 := hid (Below_chain HB1.out hb2)
          have hs2 := HB2.out.size
          have HO2 := hid (ho2.mono (Nat.le_trans hsz HB1.out.size))
          have HL2 := (HLI.out.below HB2.out)
          obtain ⟨vs, hvl, hvr, hve⟩ := HL2
          have HVL := hid hvl
          have HVR := hid hvr
          have HVE := hid hve
          have HONE := hid (ho2.one)
          clear ho2 hb2 hvl hvr hve
          go_wp2_with (first
            | (at_builtin; refine wpList_append_own _ rfl (.tmp 19) (.tmp 24) 22 rfl w.heap.size 28 j0 (.slice none 0 0) 1 24 Try.underlying22 hj hy0 hy1 hy2 rfl (by decide) _ _ _ rfl (World.ownsRow.alloc HVR.out _) ⟨w2.heap.size, 0, none⟩ 1 1 [.slice aor m.length cr] rfl rfl (fun j u hj => new_cellV j hj) HONE.out (by unfold maxLen; omega) (by omega) (by simp; omega) ?_; intro v3 w3 hown3 hgrow3 hn3; have HPU := hid (Lists_push HVL.out (World.ownsRow.alloc HVR.out _) (fun i a b => (HVE.out i a b).below ((Below.refl _ _).alloc (Nat.le_refl _) _)) (HO2.out.below ((Below.refl _ _).alloc (Nat.le_refl _) _)) hown3 hgrow3); have HB3 := hid (((Below_chain HB.out HB2.out).alloc (Nat.le_trans hsz hs2) (.cells #[.slice aor m.length cr] 28)).grown hgrow3 (by simp; omega) (fun q hq => (World.ownsRow.lt HVR.out q hq).1)); clear hown3 hgrow3 hn3)
            | fail)
          go_roundw
          case rel => exact ⟨k + 1, by omega, by go_num, by rw [HNX.out]; exact HPU.out, HB3.out⟩
          case measure => simp [intOf]; omega
        · obtain rfl : k = L.length := by omega
          rw [List.take_length] at HLI
          clear hli hbel
          go_wp2_with fail
          go_ret2
          exact ⟨_, rfl, by rw [HR.out]; exact HLI.out, HB.out⟩
end Go.Proofs.Ytijjdidljoicfab
