/- Contracts: (shape).all at parted numbers, both PartedOf. Conditions: ints in their range. -/
import Derived.Test.YtakelcboamjndabPt4
import Derived.Test.YtakelcboamjndabPsL
namespace Go.Proofs.Ytakelcboamjndab
open Go.RowKit Go.Maps
set_option linter.unusedVariables false
set_option maxRecDepth 4000

theorem grown_set {w w' : World} {r : Option Nat} {g i : Nat} {v : Value} (h : w.grownBy w' r) (hg : w.heap.size ≤ g) : w.grownBy (w'.setCell ⟨g, i, none⟩ v) r :=
  ⟨h.os, h.tape, h.output, by simpa using h.size, fun k hk hn => (Below.heap_setCell _ _ _ k (fun e => by have h2 : k = g := e; omega)).trans (h.block k hk hn)⟩
theorem OwnE.sliceE {w : World} {B : Nat} {v : Value} {xs : List Int} (h : OwnE w B v xs) : ∃ ao n c, v = .slice ao n c := by
  rcases h.form with ⟨rfl, _⟩ | ⟨g, cap, rfl, _⟩
  · exact ⟨none, 0, 0, rfl⟩
  · exact ⟨_, _, cap, rfl⟩
/-- the first r lists of M stand, in rows behind g that rise -/
structure FillE (w : World) (g : Nat) (U : Nat → Value) (M : Nat → List Int) (r : Nat) : Prop where
  own : ∀ i, i < r → OwnE w (g + 1) (U i) (M i)
  up : ∀ i j, i < j → j < r → ∀ a b, (U i).ownBlock = some a → (U j).ownBlock = some b → a < b
theorem FillE.zero (w : World) (g : Nat) (U : Nat → Value) (M : Nat → List Int) : FillE w g U M 0 := ⟨fun i h => absurd h (by omega), fun i j _ h => absurd h (by omega)⟩
theorem FillE.kept {w w' : World} {g r : Nat} {U : Nat → Value} {M : Nat → List Int} (h : FillE w g U M r) (hb : ∀ k, g + 1 ≤ k → k < w.heap.size → w'.heap[k]? = w.heap[k]?) : FillE w' g U M r :=
  ⟨fun i hi => (h.own i hi).of_block fun k hk => hb k ((h.own i hi).low k hk).1 ((h.own i hi).low k hk).2, h.up⟩
theorem FillE.step {w0 w : World} {g r : Nat} {U : Nat → Value} {M : Nat → List Int} {u : Value} (h0 : FillE w0 g U M r) (h : FillE w g U M r) (hu : OwnE w (g + 1) u (M r)) (hb : ∀ b, u.ownBlock = some b → w0.heap.size ≤ b) : FillE w g (fun j => if j = r then u else U j) M (r + 1) := by
  refine ⟨fun i hi => ?_, fun i j hij hj a b ha hbb => ?_⟩
  · by_cases e : i = r
    · subst e; simpa using hu
    · rw [if_neg e]; exact h.own i (by omega)
  · rw [if_neg (by omega)] at ha
    by_cases e : j = r
    · rw [if_pos e] at hbb
      have h1 := hb b hbb
      have h2 := ((h0.own i (by omega)).low a ha).2
      omega
    · rw [if_neg e] at hbb
      exact h.up i j hij (by omega) a b ha hbb
theorem FillE.lists {w : World} {g n : Nat} {U : Nat → Value} {M : Nat → List Int} (h : FillE w g U M n) (hr : w.rowIs g 22 n (fun i => if i < n then U i else .slice none 0 0)) (hm : n ≤ maxLen) : ListsE w g w.heap.size (.slice (some ⟨g, 0, none⟩) n n) ((List.range n).map M) := by
  have hg : ∀ i (hi : i < ((List.range n).map U).length), ((List.range n).map U)[i] = U i := fun i hi => by simp
  refine ⟨(List.range n).map U, by simp, ?_, fun i h1 h2 => ?_, fun i j h1 h2 a hij ha hb => ?_⟩
  · obtain ⟨c, hc, hs, hf⟩ := hr
    refine .inr ⟨g, n, c, by simp, Nat.le_refl _, (Array.getElem?_eq_some_iff.1 hc).1, hc, by simp, hm, by omega, ?_⟩
    refine List.ext_getElem? fun i => ?_
    by_cases hi : i < n
    · have h1 := hf i hi
      simp only [if_pos hi] at h1
      rw [List.getElem?_take_of_lt (by simpa using hi), List.getElem?_map, List.getElem?_range hi]
      simpa using h1
    · rw [List.getElem?_eq_none (by simp; omega), List.getElem?_eq_none (by simp; omega)]
  · have hi : i < n := by simpa using h1
    rw [hg i h1]
    have h3 := h.own i hi
    refine ⟨by simpa using h3.mono (show g ≤ g + 1 by omega), fun k hk => (h3.low k hk).2⟩
  · rw [hg i h1] at ha
    rw [hg j h2] at hb
    have hi : i < n := by simpa using h1
    have hj : j < n := by simpa using h2
    rcases Nat.lt_or_gt_of_ne hij with h3 | h3
    · exact absurd (h.up i j h3 hj a a ha hb) (by omega)
    · exact absurd (h.up j i h3 hi a a hb ha) (by omega)
def alM (l b : Nat) (r : Nat) : List Int := atS ptCh ptNl ptNb ptK l l b r
def alL (l b : Nat) : List (List Int) := (List.range (ptK l b)).map (alM l b)
set_option maxHeartbeats 2000000 in
theorem allP_any (B l0 b0 : Nat) (w : World) (hD : ptD l0 b0) (hn : ptK l0 b0 ≤ 100000)
    (hE : KEnv w B (fnV 89) (fnV 91)) (hM : ∃ M, w.ownsMap Try.prog 45 (plainElem (H := Unit) Try.prog 3) (B + 4) 625 M ∧ KInv ptK M) :
    Calls Try.prog 68 #[shV l0 b0 (fnV 89) (fnV 91) (kF B)] w fun e w' =>
      ∃ u, e = .returned u ∧ ListsE w' w.heap.size w'.heap.size u (alL l0 b0) ∧ w.grownBy w' (some (B + 4)) := by
  obtain ⟨M, hM, hK⟩ := hM
  have hmlt := hM.lt
  have hba := (Below.refl w.heap.size w).alloc (Nat.le_refl _) (shObj l0 b0 (fnV 89) (fnV 91) (kF B))
  obtain ⟨g0, g1, g2, g3, g4⟩ := sh_box w l0 b0 (fnV 89) (fnV 91) (kF B)
  obtain ⟨w1, hw1⟩ : ∃ w1, w1 = w.alloc (shObj l0 b0 (fnV 89) (fnV 91) (kF B)) := ⟨_, rfl⟩
  have hs1 : w1.heap.size = w.heap.size + 1 := by rw [hw1]; simp
  have hba0 := hba
  rw [← hw1] at hba g0 g1 g2 g3 g4
  have HG1 := hid (grown_of_below hba (some (B + 4)))
  have HE := hid (hE.below hba)
  have HM := hid (ownsMap_below6 hM hba)
  have HK := hid hK
  have HD := hid hD
  have HW1 := hid hw1
  have HS1 := hid hs1
  have HLT := hid hmlt
  have HALL := hid (countAllP_any ptShC ptK ptCntC B l0 b0 w1 hD HE.out ⟨M, HM.out, hK⟩)
  obtain ⟨n, hnn⟩ : ∃ n, n = ptK l0 b0 := ⟨_, rfl⟩
  have HN := hid hnn
  have HLA := hid (fun (r : Nat) (hr : r < n) (W : World) (h1 : KEnv W B (fnV 89) (fnV 91)) (h2 : ∃ M, W.ownsMap Try.prog 45 (plainElem (H := Unit) Try.prog 3) (B + 4) 625 M ∧ KInv ptK M) =>
    (listAtP_any ptShC ptK ptCntC B l0 b0 (r : Int) W hD h1 h2).mono (R' := fun e w' => ∃ u bb, e = .returned (.tuple #[u, .bool bb]) ∧ OwnE w' W.heap.size u (alM l0 b0 r) ∧ (∃ M, w'.ownsMap Try.prog 45 (plainElem (H := Unit) Try.prog 3) (B + 4) 625 M ∧ KInv ptK M) ∧ W.grownBy w' (some (B + 4))) (by
      rintro e w' ⟨u, rfl, ho, hm, hg⟩
      refine ⟨u, _, rfl, ?_, hm, hg⟩
      have : atRes ptCh ptNl ptNb ptK l0 b0 (r : Int) = alM l0 b0 r := by
        unfold atRes alM
        rw [if_pos (inB_iff.2 ⟨by omega, by omega⟩)]; rfl
      rw [← this]; exact ho))
  have hn5 : n ≤ 100000 := by omega
  have HMB := hid hn5
  obtain ⟨j0, hj, hy0, hy1, hy2⟩ := info_parts Try.infoL
  have HMB2 := hid (show j0.bytes * n ≤ 281474976710656 by rw [hy2]; omega)
  rw [show alL l0 b0 = (List.range n).map (alM l0 b0) by unfold alL; rw [hnn]]
  clear hM hK hE hba hba0 hD hs1 hnn hmlt hn
  go_enter Try.func68, Try.ntmps68
  rw [hw1] at HALL g0 g1 g2 g3 g4
  go_wp2_with (first
    | (go_at_call 66; (refine HALL.out.mono ?_); (rintro e w2 ⟨rfl, hm, hg⟩); (rw [← HN.out]); (rw [← hw1] at hg); (have HM2 := hid hm); (have HG2 := hid hg); (clear hm hg))
    | (at_make; (refine wpList_make_row _ rfl _ _ 34 rfl 22 j0 (.slice none 0 0) Try.underlying34 hj hy0 hy1 rfl .i64 .i64 n rfl rfl HMB2.out (by have := HMB.out; omega) ?_); (have HR3 := hid (World.rowIs_made w2 (.slice none 0 0) n 22)); (have HG3 := hid (grownBy_trans HG2.out (World.grownBy_alloc w2 (.cells (madeCells #[.slice none 0 0] n) 22) (some (B + 4))))); (obtain ⟨M2, hm2, hk2⟩ := HM2.out); (have HM3 := hid (show ∃ M, (w2.alloc (.cells (madeCells #[.slice none 0 0] n) 22)).ownsMap Try.prog 45 (plainElem (H := Unit) Try.prog 3) (B + 4) 625 M ∧ KInv ptK M from ⟨M2, hm2.alloc _, hk2⟩)); (clear hm2 hk2))
    | fail)
  rw [← hw1] at HALL g0 g1 g2 g3 g4
  have hsz2 : w1.heap.size ≤ w2.heap.size := HG2.out.size
  obtain ⟨g, hg⟩ : ∃ g, g = w2.heap.size := ⟨_, rfl⟩
  rw [← hg] at HR3 hsz2 ⊢
  have HSZ := hid hsz2
  have HGS := hid (show g < (w2.alloc (.cells (madeCells #[.slice none 0 0] n) 22)).heap.size by rw [hg]; simp)
  have C0 := hid g0
  have C1 := hid g1
  have C2 := hid g2
  have C3 := hid g3
  have C4 := hid g4
  clear hw1 HALL hg hsz2 g0 g1 g2 g3 g4
  go_loopw [10] (fun i wr => ∃ (r : Nat) (U : Nat → Value), r ≤ n ∧ i = .int .i64 (r : Int) ∧ wr.rowIs g 22 n (fun i => if i < r then U i else .slice none 0 0) ∧ FillE wr g U (alM l0 b0) r ∧ (∃ M, wr.ownsMap Try.prog 45 (plainElem (H := Unit) Try.prog 3) (B + 4) 625 M ∧ KInv ptK M) ∧ w1.grownBy wr (some (B + 4)) ∧ g < wr.heap.size) (fun i _ => n - (intOf i).toNat)
  case atStart => exact ⟨0, fun _ => .slice none 0 0, Nat.zero_le _, rfl, HR3.out.congr (fun i hi => by simp), FillE.zero _ _ _ _, HM3.out, HG3.out, HGS.out⟩
  case round =>
    obtain ⟨r, U, hr, rfl, hrow, hfill, hm, hgr, hgs⟩ := hrel
    have HROW := hid hrow
    have HFILL := hid hfill
    have HMR := hid hm
    have HGR := hid hgr
    have HGW := hid hgs
    have hl1 := HLT.out
    have hl2 := HS1.out
    have hl3 := HSZ.out
    by_cases hlt : r < n
    · have c0 := hgr.cell C0.out (by simp; omega)
      have c1 := hgr.cell C1.out (by simp; omega)
      have c2 := hgr.cell C2.out (by simp; omega)
      have c3 := hgr.cell C3.out (by simp; omega)
      have c4 := hgr.cell C4.out (by simp; omega)
      have HCALL := hid (HLA.out r hlt wr (HE.out.kept hgr) hm)
      have q1 : (0 : Int) ≤ (r : Int) := by omega
      have q2 : (r : Int) < (n : Int) := by omega
      have hrn : r ≤ 100000 := by have := HMB.out; omega
      have HFR := hid (show ∀ (W : World), wr.grownBy W (some (B + 4)) → W.rowIs g 22 n (fun i => if i < r then U i else .slice none 0 0) ∧ FillE W g U (alM l0 b0) r from fun W hW =>
        ⟨HROW.out.of_block (hW.block g HGW.out (by intro e; have := Option.some.inj e; omega)), HFILL.out.kept fun k hk hk2 => hW.block k hk2 (by intro e; have := Option.some.inj e; omega)⟩)
      clear hrow hfill hm hgr hgs hl1 hl2 hl3
      go_wp2_with (first
        | (go_at_call 73; (refine HCALL.out.mono ?_); (rintro e w4 ⟨u, bb, rfl, ho, hm4, hg4⟩); (obtain ⟨ao, nu, cu, rfl⟩ := ho.sliceE); (obtain ⟨hrow4, hfill4⟩ := HFR.out w4 hg4); (have hcr := hrow4.cell (i := r) hlt); (simp only [Nat.lt_irrefl, if_false] at hcr); (have hfr := hrow4.frozen r); (have HO4 := hid ho); (have HM4 := hid hm4); (have HG4 := hid hg4); (have HROW4 := hid hrow4); (have HFILL4 := hid hfill4); (clear ho hm4 hg4 hrow4 hfill4))
        | fail)
      obtain ⟨u, hu⟩ : ∃ u, u = Value.slice ao nu cu := ⟨_, rfl⟩
      rw [← hu]
      rw [← hu] at HO4
      have hsz4 := HG4.out.size
      have hgw := HGW.out
      have HO5 := hid (HO4.out.mono (show g + 1 ≤ wr.heap.size by omega))
      have HST := hid (grownBy_set9 w4 g r u)
      have HFN := hid (FillE.step (w0 := wr) (w := w4.setCell ⟨g, r, none⟩ u) HFILL.out (HFILL4.out.kept fun k hk hk2 => HST.out.block k hk2 (by intro e; have := Option.some.inj e; omega)) (HO5.out.of_block fun k hk => HST.out.block k (HO5.out.low k hk).2 (by intro e; have h1 := Option.some.inj e; have h2 := (HO5.out.low k hk).1; omega)) (fun b hb => (HO4.out.low b hb).1))
      have HRN := hid (show (w4.setCell ⟨g, r, none⟩ u).rowIs g 22 n (fun i => if i < r + 1 then (if i = r then u else U i) else .slice none 0 0) from (HROW4.out.set r u).congr fun i hi => by
        by_cases e : i = r
        · subst e; simp
        · by_cases e2 : i < r
          · simp [e, e2, show i < r + 1 by omega]
          · simp [e, e2, show ¬ i < r + 1 by omega])
      have HMN := hid (show ∃ M, (w4.setCell ⟨g, r, none⟩ u).ownsMap Try.prog 45 (plainElem (H := Unit) Try.prog 3) (B + 4) 625 M ∧ KInv ptK M from by
        obtain ⟨M4, hm4, hk4⟩ := HM4.out
        exact ⟨M4, hm4.setCell (by show B + 4 ≠ g; have := HLT.out; have := HS1.out; have := HSZ.out; omega) _, hk4⟩)
      have HGN := hid (grown_set (i := r) (v := u) (grownBy_trans HGR.out HG4.out) HSZ.out)
      go_roundw
      case rel => exact ⟨r + 1, _, by omega, by go_num, HRN.out, HFN.out, HMN.out, HGN.out, by simp; omega⟩
      case measure => simp [intOf]; omega
    · obtain rfl : r = n := by omega
      have HLS := hid (hfill.lists hrow (by have := HMB.out; unfold maxLen; omega))
      have hgg := HGS.out
      clear hrow hfill hm hgr hgs
      go_wp2_with fail
      go_ret
      exact ⟨_, rfl, HLS.out.mono (by omega) (Nat.le_refl _), grownBy_trans HG1.out HGR.out⟩
def pqF : Nat → Nat → Nat → Nat
  | 0, _, _ => 0
  | _ + 1, 0, i => if i = 0 then 1 else 0
  | f + 1, x + 1, i => pqF f x i + if x + 1 ≤ i then pqF f (x + 1) (i - (x + 1)) else 0
theorem pqF_eq : ∀ f x i, x + i < f → pqF f x i = pq x i
  | 0, _, _, h => by omega
  | f + 1, 0, i, h => by rw [pqF, pq_zero]
  | f + 1, x + 1, i, h => by
    rw [pqF, pq_next, pqF_eq f x i (by omega)]
    split
    · rw [pqF_eq f (x + 1) (i - (x + 1)) (by omega)]
    · rfl
theorem pqF_tab : ∀ k, k < 21 → pqF 50 k k ≤ 1000 := by decide +kernel
theorem pq_tab (k : Nat) (h : k < 21) : pq k k ≤ 1000 := by
  rw [← pqF_eq 50 k k (by omega)]
  exact pqF_tab k h
theorem ptK_tab {k : Nat} (h : k ≤ 20) : ptK k k ≤ 1000 := pq_tab k (by omega)
def paRes (n : Int) : List (List Int) := if inB n 0 20 = true then alL n.toNat n.toNat else []
theorem bound_PartedOf (n : Int) : preLen (paRes n) (paRes n).length ≤ 100000 := by
  unfold paRes
  split
  · rename_i h
    have h1 := inB_iff.1 h
    have h2 := ptK_tab (k := n.toNat) (by omega)
    have h3 := preLen_le (L := alL n.toNat n.toNat) (c := 20) (fun l hl => by
      obtain ⟨r, _, rfl⟩ := List.mem_map.1 hl
      have := atS_len ptCh ptNl ptNb ptK n.toNat n.toNat n.toNat r
      unfold alM; omega) (alL n.toNat n.toNat).length
    have h4 : (alL n.toNat n.toNat).length = ptK n.toNat n.toNat := by simp [alL]
    rw [h4] at h3 ⊢
    omega
  · exact Nat.zero_le _
theorem impl_PartedOf_any (n : Int) (w : World) (_wn : (Lit.int .i64 n).wf = true) :
    Calls Try.prog 34 #[.int .i64 n] w fun e w' => ∃ u, e = .returned (.tuple #[u, .bool (inB n 0 20)]) ∧ ListsE w' w.heap.size w'.heap.size u (paRes n) ∧ Below w.heap.size w w' := by
  cases hn : inB n 0 20
  · have HR := hid (show paRes n = [] by unfold paRes; rw [hn]; simp)
    go_enter Try.func34, Try.ntmps34
    go_wp2_with (first | (go_at_call 61; refine (isUpToParted_any _ _).mono ?_; rintro e w' ⟨rfl, rfl⟩; rw [hn]) | fail)
    go_ret2
    exact ⟨_, rfl, by rw [HR.out]; exact ⟨[], rfl, .inl ⟨rfl, rfl⟩, fun i h => by simp at h, fun i j h => by simp at h⟩, Below.refl _ _⟩
  · obtain ⟨h1, h2⟩ := inB_iff.1 hn
    obtain ⟨k, rfl⟩ : ∃ k : Nat, n = (k : Int) := ⟨n.toNat, by omega⟩
    have HR := hid (show paRes (k : Int) = alL k k by unfold paRes; rw [if_pos hn]; rfl)
    have HDD := hid (show ptD k k by unfold ptD; omega)
    have HTB := hid (show ptK k k ≤ 100000 by have := ptK_tab (k := k) (by omega); omega)
    go_enter Try.func34, Try.ntmps34
    go_wp2_with (first
      | (go_at_call 61; refine (isUpToParted_any _ _).mono ?_; rintro e w' ⟨rfl, rfl⟩; rw [hn])
      | (go_at_call 62; refine (partedNumbersOf_any k k _).mono ?_; rintro e w1 ⟨rfl, he, hm, hb⟩; have HE1 := hid he; have HM1 := hid hm; have HB1 := hid hb; clear he hm hb)
      | (go_at_call 68; refine (allP_any _ k k _ HDD.out HTB.out HE1.out ⟨_, HM1.out.mono (by omega), KInv.empty _⟩).mono ?_; rintro e w2 ⟨u, rfl, ho, hg⟩; have HO2 := hid ho; have HG2 := hid hg; clear ho hg)
      | fail)
    go_ret2
    exact ⟨_, rfl, by rw [HR.out]; exact HO2.out.mono HB1.out.size (Nat.le_refl _), HB1.out.grown HG2.out HB1.out.size (fun q hq => by have := Option.some.inj hq; omega)⟩
set_option maxHeartbeats 1000000 in
theorem spec_PartedOf_any (n : Int) (w : World) (_wn : (Lit.int .i64 n).wf = true) :
    Calls Try.prog 33 #[.int .i64 n] w fun e w' => ∃ u, e = .returned (.tuple #[u, .bool (inB n 0 20)]) ∧ ReadsL w' u (paRes n) ∧ Below w.heap.size w w' := by
  cases hn : inB n 0 20
  · have HR := hid (show paRes n = [] by unfold paRes; rw [hn]; simp)
    go_enter Try.func33, Try.ntmps33
    go_wp2_with (first | (go_at_call 64; refine (spTotalW_any _ _).mono ?_; rintro e w' ⟨rfl, rfl⟩; rw [hn]) | fail)
    go_ret2
    exact ⟨_, rfl, by rw [HR.out]; exact (Lists.nil _ w.heap.size).readsL, Below.refl _ _⟩
  · obtain ⟨h1, h2⟩ := inB_iff.1 hn
    obtain ⟨k, rfl⟩ : ∃ k : Nat, n = (k : Int) := ⟨n.toNat, by omega⟩
    obtain ⟨K, hK⟩ : ∃ K, K = ptK k k := ⟨_, rfl⟩
    have HK := hid hK
    have hk20 : k ≤ 20 := by omega
    have hK1 : K ≤ 1000 := by rw [hK]; exact ptK_tab hk20
    have HR := hid (show paRes (k : Int) = (List.range K).map (alM k k) by unfold paRes; rw [if_pos hn, hK]; rfl)
    have HC := hid (show ∀ W, Calls Try.prog 65 #[.int .i64 (k : Int), .int .i64 (k : Int)] W fun e w' => e = .returned (.int .i64 (K : Int)) ∧ Below W.heap.size W w' from fun W => by rw [hK]; exact spCount_any k k W hk20 hk20)
    have HP := hid (show ∀ r W, r < K → Calls Try.prog 67 #[.int .i64 (k : Int), .int .i64 (k : Int), .int .i64 (r : Int)] W fun e w' => ∃ u, e = .returned u ∧ Own w' W.heap.size u (alM k k r) ∧ Below W.heap.size W w' from fun r W hr => spPartedWith_any k k k r W (Nat.le_refl _) hk20 hk20 (by rw [← hK]; exact hr))
    obtain ⟨j0, hj, hy0, hy1, hy2⟩ := info_parts Try.infoL
    clear hK
    go_enter Try.func33, Try.ntmps33
    go_wp2_with (first | (go_at_call 64; refine (spTotalW_any _ _).mono ?_; rintro e w' ⟨rfl, rfl⟩; rw [hn]) | fail)
    clear hn h1 h2
    go_loopw [4, 5] (fun v q wr => ∃ (r c : Nat) (aA : Option Addr), r ≤ K ∧ q = .int .i64 (r : Int) ∧ v = .slice aA r c ∧ Lists wr w.heap.size (.slice aA r c) ((List.range r).map (alM k k)) ∧ Below w.heap.size w wr) (fun _ q _ => K - (intOf q).toNat)
    case atStart => exact ⟨0, 0, none, Nat.zero_le _, rfl, rfl, Lists.nil _ _, Below.refl _ _⟩
    case round =>
      obtain ⟨r, c, aA, hr, rfl, rfl, hli, hbel⟩ := hrel
      have HL := hid hli
      have HB := hid hbel
      by_cases hlt : r < K
      · have HPR := hid (fun W => HP.out r W hlt)
        have HS := hid (show (List.range r).map (alM k k) ++ [alM k k r] = (List.range (r + 1)).map (alM k k) by rw [List.range_succ, List.map_append]; rfl)
        have q1 : (r : Int) < (K : Int) := by omega
        have hr1 : r ≤ 1000 := by omega
        clear hli hbel
        go_wp2_with (first
          | (at_builtin; (refine wpList_pushL _ rfl _ _ 34 rfl w.heap.size j0 Try.underlying34 hj hy0 hy1 hy2 aA r c _ rfl HL3.out (.slice ao3 n3 c3) (alM k k r) HO3.out w3.heap.size rfl rfl (by omega) HB3.out.size ?_); (intro g4 c4 w4 hl4 hb4); (have HL4 := hid (show Lists w4 w.heap.size (.slice (some ⟨g4, 0, none⟩) (r + 1) c4) ((List.range (r + 1)).map (alM k k)) from by rw [← HS.out]; exact hl4)); (have HB4 := hid (hb4 w rfl HB3.out)); (clear hl4 hb4))
          | (go_at_call 67; (refine (HPR.out _).mono ?_); (rintro e w3 ⟨u3, rfl, ho3, hb3⟩); (obtain ⟨ao3, n3, c3, rfl⟩ := ho3.e.sliceE); (have HO3 := hid (ho3.mono HB2.out.size)); (have HL3 := hid (HL2.out.below hb3)); (have HB3 := hid (Below_chain HB2.out hb3)); (clear ho3 hb3))
          | (go_at_call 65; (refine (HC.out _).mono ?_); (rintro e w2 ⟨rfl, hb2⟩); (have HL2 := hid (HL.out.below hb2)); (have HB2 := hid (Below_chain HB.out hb2)); (clear hb2))
          | fail)
        go_roundw
        case rel => exact ⟨r + 1, c4, some ⟨g4, 0, none⟩, by omega, by go_num, rfl, HL4.out, HB4.out⟩
        case measure => simp [intOf]; omega
      · obtain rfl : r = K := by omega
        have q1 : ¬ ((r : Int) < (r : Int)) := by omega
        clear hli hbel
        go_wp2_with (first
          | (go_at_call 65; (refine (HC.out _).mono ?_); (rintro e w2 ⟨rfl, hb2⟩); (have HL2 := hid (HL.out.below hb2)); (have HB2 := hid (Below_chain HB.out hb2)); (clear hb2))
          | fail)
        go_ret2
        exact ⟨_, rfl, by rw [HR.out]; exact HL2.out.readsL, HB2.out⟩
end Go.Proofs.Ytakelcboamjndab
