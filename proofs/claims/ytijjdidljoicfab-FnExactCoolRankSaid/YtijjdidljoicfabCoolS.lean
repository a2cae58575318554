/- Contracts: chCoolList, spec.CoolList and spec.CoolRank. Conditions: none; the slice reads as a list. -/
import Derived.Test.YtijjdidljoicfabCoolM
import Derived.Test.YtijjdidljoicfabRevS
namespace Go.Proofs.Ytijjdidljoicfab
open Go.RowKit
set_option linter.unusedVariables false

def slLen2 : Value → Nat
  | .slice _ n _ => n
  | _ => 0
theorem Lists.slLen2 {w : World} {B : Nat} {v : Value} {L : List (List Int)} (h : Lists w B v L) : slLen2 v = L.length := by
  rcases h.form with ⟨rfl, rfl⟩ | ⟨g, cap, rfl, _⟩ <;> rfl
theorem ownsRow_lists {w : World} {B : Nat} {v : Value} {L : List (List Int)} (h : Lists w B v L) : ∃ vs, w.ownsRow B 28 1 v L.length vs := by
  obtain ⟨vs, _, h2, _⟩ := h
  exact ⟨vs, h2⟩
theorem coolF_length (n k : Nat) : (coolF n k).length = n := bitsL_length _ _
theorem coolS_length (n k : Nat) : (coolS n k).length ≤ 1001 := by
  have := coolRun_length (coolF n k) 1000 (coolL (coolF n k))
  simp [coolS]; omega
set_option maxHeartbeats 2000000 in
theorem chCoolList_any (n k : Nat) (hn : n ≤ 12) (hk : k ≤ n) (w : World) :
    Calls Try.prog 29 #[.int .i64 (n : Int), .int .i64 (k : Int)] w fun e w' => ∃ u, e = .returned u ∧ Lists w' w.heap.size u (coolS n k) ∧ Below w.heap.size w w' := by
  obtain ⟨j0, hj, hy0, hy1, hy2⟩ := info_parts Try.infoL
  have HEND := hid (cool_ends n (by omega) k (by omega))
  obtain ⟨f, hf⟩ : ∃ f, f = coolF n k := ⟨_, rfl⟩
  have HFB := hid (show bitsL n (upTo k) = f from hf.symm)
  have HFL := hid (show f.length = n by rw [hf]; exact coolF_length n k)
  have HS := hid (show coolS n k = f :: coolRun f 1000 (coolL f) by rw [coolS, ← hf])
  rw [← hf] at HEND
  have HUT := hid (show ∀ x ∈ upTo k, 0 ≤ x ∧ x < (n : Int) from fun x hx => by
    simp only [upTo, List.mem_map, List.mem_range] at hx
    obtain ⟨i, hi, rfl⟩ := hx
    omega)
  clear hf
  go_enter Try.func29, Try.ntmps29
  go_wp2_with fail
  refine (raUpTo_any k _ (by omega)).mono ?_
  rintro e w1 ⟨u1, rfl, ho1, hb1⟩
  have HR1 := hid ho1.reads
  have HB1 := hid hb1
  have hs1 := hb1.size
  clear ho1 hb1
  go_wp2_with fail
  refine (chBits_any n _ (upTo k) _ HR1.out (by omega) HUT.out).mono ?_
  rintro e w2 ⟨rfl, ho2, hb2⟩
  rw [HFB.out] at ho2
  have HB2 := hid (Below_chain HB1.out hb2)
  have hs2 := hb2.size
  obtain ⟨g, hg⟩ : ∃ g, g = w1.heap.size := ⟨_, rfl⟩
  rw [← hg] at ho2 ⊢
  have HO2 := hid (ho2.mono (show w.heap.size ≤ g by omega))
  have HSIT := hid (show Sits w2 (.slice (some ⟨g, 0, none⟩) n n) f from ho2.sits)
  have HL3 := hid (show Lists (w2.alloc (.cells #[.slice (some ⟨g, 0, none⟩) n n] 28)) w.heap.size (.slice (some ⟨w2.heap.size, 0, none⟩) 1 1) [f] from Lists_lit HO2.out HB2.out.size)
  have HBA := hid ((Below.refl w2.heap.size w2).alloc (Nat.le_refl _) (.cells #[.slice (some ⟨g, 0, none⟩) n n] 28))
  obtain ⟨w3, hw3⟩ : ∃ w3, w3 = w2.alloc (.cells #[.slice (some ⟨g, 0, none⟩) n n] 28) := ⟨_, rfl⟩
  have HO3 := hid (HO2.out.below HBA.out)
  have HS3 := hid (HSIT.out.below HBA.out)
  have HB3 := hid (Below_chain HB2.out HBA.out)
  rw [← hw3] at HL3 HO3 HS3 HB3
  have hfl : f.length ≤ 1048576 := by rw [HFL.out]; omega
  clear ho2 hb2 hg
  go_wp2_with fail
  rw [← hw3]
  clear hw3
  refine (chCool_any _ f _ HS3.out hfl).mono ?_
  rintro e w4 ⟨u4, rfl, ho4, hb4⟩
  have HO4 := hid (show Own w4 w.heap.size u4 (coolL f) from ho4.mono HB3.out.size)
  have HO3 := hid (HO3.out.below hb4)
  have HL4 := hid (HL3.out.below hb4)
  have HB4 := hid (Below_chain HB3.out hb4)
  clear ho4 hb4
  go_wp2_with fail
  go_loopw [6, 7] (fun ov nv wr => ∃ (m : Nat) (x : List Int) (D : List (List Int)), coolStop f m x = true ∧ x.length = n ∧ Own wr w.heap.size nv x ∧ Own wr w.heap.size (.slice (some ⟨g, 0, none⟩) n n) f ∧ Lists wr w.heap.size ov D ∧ coolS n k = D ++ coolRun f m x ∧ D.length + m = 1001 ∧ Below w.heap.size w wr) (fun ov _ _ => 1002 - slLen2 ov)
  case atStart => exact ⟨1000, coolL f, [f], HEND.out, by rw [coolL_length]; exact HFL.out, HO4.out, HO3.out, HL4.out, HS.out, rfl, HB4.out⟩
  case round =>
    obtain ⟨m, x, D, hst, hxl, hnv, hfv, hov, heq, hdm, hbel⟩ := hrel
    have HNV := hid hnv
    have HFV := hid hfv
    have HOV := hid hov
    have HEQ := hid heq
    have HBL := hid hbel
    have hsz := hbel.size
    have HXL := hid hxl
    have HSL := hid hov.slLen2
    by_cases hxf : x = f
    · have hd : decide (x = f) = true := decide_eq_true hxf
      have HFIN := hid (show coolS n k = D by
        rw [heq, hxf]
        cases m with
        | zero => simp [coolRun]
        | succ m => simp [coolRun])
      clear hst hxl hnv hfv hov heq hbel hxf
      go_wp2_with (first | (go_at_call 71; refine (l1Same_any _ _ x f _ HNV.out.reads HFV.out.reads).mono ?_; rintro e w5 ⟨rfl, hb5⟩; rw [hd]; have HB5 := hid hb5; clear hb5) | fail)
      go_ret
      exact ⟨_, rfl, by rw [HFIN.out]; exact HOV.out.below HB5.out, Below_chain HBL.out HB5.out⟩
    · have hd : decide (x = f) = false := decide_eq_false hxf
      cases m with
      | zero => rw [coolStop, decide_eq_false hxf] at hst; cases hst
      | succ m =>
        have HST := hid (show coolStop f m (coolL x) = true by rw [coolStop, decide_eq_false hxf, Bool.false_or] at hst; exact hst)
        have HRUN := hid (show coolS n k = (D ++ [x]) ++ coolRun f m (coolL x) by rw [heq, coolRun, if_neg hxf]; simp)
        have hn0 : 0 < x.length := by
          apply Classical.byContradiction
          intro h0
          have h1 : x = [] := List.eq_nil_of_length_eq_zero (by omega)
          have h2 : f = [] := List.eq_nil_of_length_eq_zero (by have := HFL.out; omega)
          exact hxf (by rw [h1, h2])
        have hxl20 : x.length ≤ 1048576 := by omega
        obtain ⟨gx, nx, cx, hnx⟩ := Own.shape hnv hn0
        subst hnx
        have hDl : D.length ≤ 1001 := by omega
        clear hst hxl hnv hfv hov heq hbel hxf
        go_wp2_with fail
        refine (l1Same_any _ _ x f _ HNV.out.reads HFV.out.reads).mono ?_
        rintro e w5 ⟨rfl, hb5⟩
        rw [hd]
        have HNV5 := hid (HNV.out.below hb5)
        have HFV5 := hid (HFV.out.below hb5)
        have HOV5 := HOV.out.below hb5
        have HB5 := hid (Below_chain HBL.out hb5)
        have hs5 := hb5.size
        obtain ⟨vs, hvl, hvr, hve⟩ := HOV5
        have HVL := hid hvl
        have HVR := hid hvr
        have HVE := hid hve
        have HONE := hid (HNV5.out.one)
        have HNVA := hid (HNV5.out.below ((Below.refl _ _).alloc (Nat.le_refl _) (.cells #[.slice (some ⟨gx, 0, none⟩) nx cx] 28)))
        have HFVA := hid (HFV5.out.below ((Below.refl _ _).alloc (Nat.le_refl _) (.cells #[.slice (some ⟨gx, 0, none⟩) nx cx] 28)))
        clear hb5 hvl hvr hve
        go_wp2_with (first
          | (at_builtin; refine wpList_append_own _ rfl (.tmp 22) (.tmp 24) 22 rfl w.heap.size 28 j0 (.slice none 0 0) 1 24 Try.underlying22 hj hy0 hy1 hy2 rfl (by decide) _ _ _ rfl (World.ownsRow.alloc HVR.out _) ⟨w5.heap.size, 0, none⟩ 1 1 [.slice (some ⟨gx, 0, none⟩) nx cx] rfl rfl (fun j u hj => new_cellV j hj) HONE.out (by unfold maxLen; omega) (by omega) (by simp; omega) ?_; intro v6 w6 hown6 hgrow6 hn6; have HPU := hid (Lists_push HVL.out (World.ownsRow.alloc HVR.out _) (fun i a b => (HVE.out i a b).below ((Below.refl _ _).alloc (Nat.le_refl _) _)) HNVA.out hown6 hgrow6); have HNV6 := hid (Own.kept_type HNVA.out (T := 28) (by decide) (World.ownsRow.alloc HVR.out _) hgrow6); have HFV6 := hid (Own.kept_type HFVA.out (T := 28) (by decide) (World.ownsRow.alloc HVR.out _) hgrow6); have HB6 := hid ((HB5.out.alloc (Nat.le_trans hsz hs5) (.cells #[.slice (some ⟨gx, 0, none⟩) nx cx] 28)).grown hgrow6 (by simp; omega) (fun q hq => (World.ownsRow.lt HVR.out q hq).1)); have hs6 := HB6.out.size; clear hown6 hgrow6 hn6)
          | (go_at_call 70; refine (chCool_any _ x _ HNV6.out.sits hxl20).mono ?_; rintro e w7 ⟨u7, rfl, ho7, hb7⟩; have HO7 := hid (show Own w7 w.heap.size u7 (coolL x) from ho7.mono hs6); have HB7 := hid hb7; clear ho7 hb7)
          | fail)
        go_roundw
        case rel => exact ⟨m, coolL x, D ++ [x], HST.out, by rw [coolL_length]; exact HXL.out, HO7.out, HFV6.out.below HB7.out, HPU.out.below HB7.out, HRUN.out, by simp; omega, Below_chain HB6.out HB7.out⟩
        case measure =>
          have h1 := HPU.out.slLen2
          rw [List.length_append, List.length_singleton] at h1
          have h2 := HSL.out
          show 1002 - slLen2 v6 < 1002 - slLen2 u6
          rw [h1, h2]; omega
/-- CoolList -/
def clRes (n k : Int) : List (List Int) := if szB n k = true then coolS n.toNat k.toNat else []
theorem spec_CoolList_any (n k : Int) (w : World) :
    Calls Try.prog 9 #[.int .i64 n, .int .i64 k] w fun e w' => ∃ u, e = .returned (.tuple #[u, .bool (szB n k)]) ∧ Lists w' w.heap.size u (clRes n k) ∧ Below w.heap.size w w' := by
  cases hs : szB n k with
  | true =>
    have HS := hid hs
    obtain ⟨N, K, rfl, rfl, hN, hK⟩ := szB_nat hs
    have HR := hid (show clRes (N : Int) (K : Int) = coolS N K by rw [clRes, if_pos hs]; rfl)
    clear hs
    go_enter Try.func9, Try.ntmps9
    go_wp2_with (first
      | (go_at_call 28; refine (chSize_any _ _ _).mono ?_; rintro e w1 ⟨rfl, rfl⟩; rw [HS.out])
      | (go_at_call 29; refine (chCoolList_any N K hN hK _).mono ?_; rintro e w1 ⟨u, rfl, hu, hb1⟩; have HU := hid hu; have HB1 := hid hb1; clear hu hb1)
      | fail)
    go_ret2
    exact ⟨_, rfl, by rw [HR.out]; exact HU.out, HB1.out⟩
  | false =>
    have HS := hid hs
    have HR := hid (show clRes n k = [] by rw [clRes, if_neg (by rw [hs]; simp)])
    clear hs
    go_enter Try.func9, Try.ntmps9
    go_wp2_with (first | (go_at_call 28; refine (chSize_any _ _ _).mono ?_; rintro e w1 ⟨rfl, rfl⟩; rw [HS.out]) | fail)
    go_ret2
    exact ⟨_, rfl, by rw [HR.out]; exact Lists.nil _ _, Below.refl _ _⟩
/-- how many ones there are among the first k bits -/
def onesTo (xs : List Int) : Nat → Int
  | 0 => 0
  | k + 1 => onesTo xs k + xs.getD k 0
theorem ones_range {xs : List Int} (h : isBits xs = true) : ∀ k, k ≤ xs.length → 0 ≤ onesTo xs k ∧ onesTo xs k ≤ k
  | 0, _ => by simp [onesTo]
  | k + 1, hk => by
    have h1 := ones_range h k (by omega)
    rw [isBits, Bool.and_eq_true] at h
    have h2 := inB_iff.1 ((allTo_iff _ _).1 h.2 k (by omega))
    rw [onesTo]
    omega
def crV (xs : List Int) : Int := if isBits xs = true then placeIn xs (coolS xs.length (onesTo xs xs.length).toNat) else 0
set_option maxHeartbeats 1000000 in
theorem spec_CoolRank_any (v : Value) (xs : List Int) (w : World) (h : Sits w v xs) (hl : xs.length ≤ 1048576) (_hwf : ∀ x ∈ xs, (Lit.int .i64 x).wf = true) :
    Calls Try.prog 14 #[v] w fun e w' => e = .returned (.tuple #[.int .i64 (crV xs), .bool (isBits xs)]) ∧ Below w.heap.size w w' := by
  have HS := hid h
  obtain ⟨g, off, c, rfl, hc1, hm, hb, hc⟩ := h
  have HC := hid hc
  clear hc _hwf
  cases hi : isBits xs with
  | false =>
    have HI := hid hi
    have HR := hid (show crV xs = 0 by rw [crV, if_neg (by rw [hi]; simp)])
    clear hi
    go_enter Try.func14, Try.ntmps14
    go_wp2_with (first | (go_at_call 40; refine (chAreBits_any _ xs _ HS.out).mono ?_; rintro e w1 ⟨rfl, rfl⟩; rw [HI.out]) | fail)
    go_ret2
    exact ⟨ret_nb2 HR.out.symm rfl, Below.refl _ _⟩
  | true =>
    have HI := hid hi
    have HON := hid (ones_range hi)
    have h12 : xs.length ≤ 12 := by rw [isBits, Bool.and_eq_true, decide_eq_true_eq] at hi; exact hi.1
    have HR := hid (show crV xs = placeIn xs (coolS xs.length (onesTo xs xs.length).toNat) by rw [crV, if_pos hi])
    clear hi
    go_enter Try.func14, Try.ntmps14
    go_wp2_with (first | (go_at_call 40; refine (chAreBits_any _ xs _ HS.out).mono ?_; rintro e w1 ⟨rfl, rfl⟩; rw [HI.out]) | fail)
    go_loop [4, 6, 12] (fun s _ i => ∃ k : Nat, k ≤ xs.length ∧ i = .int .i64 k ∧ s = .int .i64 (onesTo xs k)) (fun _ _ i => xs.length - (intOf i).toNat)
    case atStart => exact ⟨0, Nat.zero_le _, rfl, rfl⟩
    case round =>
      obtain ⟨k, hk, rfl, rfl⟩ := hrel
      have hrk := HON.out k hk
      by_cases hlt : k < xs.length
      · have hcx := HC.out k hlt
        have hrk2 := HON.out (k + 1) (by omega)
        have HSU := hid (show onesTo xs (k + 1) = onesTo xs k + xs[k] by rw [onesTo, getD_at hlt])
        rw [HSU.out] at hrk2
        obtain ⟨s, hs⟩ : ∃ s, s = onesTo xs k := ⟨_, rfl⟩
        rw [← hs] at HSU hrk hrk2 ⊢
        obtain ⟨x, hx⟩ : ∃ x, x = xs[k] := ⟨_, rfl⟩
        rw [← hx] at HSU hcx hrk2
        have hws : IntKind.i64.wrap (s + x) = s + x := IntWalk.i64_in _ (by omega)
        clear hs hx
        go_wp2_with fail
        go_round
        case rel => exact ⟨k + 1, by omega, by go_num, by rw [HSU.out]⟩
        case measure => simp [intOf] <;> omega
      · obtain rfl : k = xs.length := by omega
        obtain ⟨K, hK⟩ : ∃ K : Nat, onesTo xs xs.length = (K : Int) := ⟨(onesTo xs xs.length).toNat, by omega⟩
        rw [hK] at hrk ⊢
        have HK := hid (show (onesTo xs xs.length).toNat = K by omega)
        have hKn : K ≤ xs.length := by omega
        clear hK
        go_wp2_with (first
          | (go_at_call 29; refine (chCoolList_any xs.length K h12 hKn _).mono ?_; rintro e w1 ⟨u, rfl, hu, hb1⟩; have HU := hid hu; have HB1 := hid hb1; have HS1 := hid (HS.out.below hb1); clear hu hb1)
          | (go_at_call 41; refine (raPlace_any _ _ _ xs _ _ HU.out HS1.out.reads).mono ?_; rintro e w2 ⟨rfl, hb2⟩; have HB2 := hid (Below_chain HB1.out hb2); clear hb2)
          | fail)
        go_ret2
        exact ⟨ret_nb2 (by rw [HR.out, HK.out]) rfl, HB2.out⟩
end Go.Proofs.Ytijjdidljoicfab
