/- Contract: the closure of shapeOf that counts, for one shape (impl.balancedWordsOf$1). Conditions: the shape's functions keep their contracts; the counts are below 10^9; rests of at most 24 and 24. -/
import Derived.Test.YtakelcboamjndaaShK
namespace Go.Proofs.Ytakelcboamjndaa
open Go.RowKit Go.Maps
set_option linter.unusedVariables false
set_option maxRecDepth 4000

/-- what a call of the closure that counts leaves behind -/
def CntBPost (K : Nat → Nat → Nat) (B : Nat) (w : World) (l b : Nat) (e : Ending) (w' : World) : Prop :=
  e = .returned (.int .i64 (K l b : Int)) ∧ (∃ M, w'.ownsMap Try.prog 44 (plainElem (H := Unit) Try.prog 3) (B + 4) 625 M ∧ KInv K M) ∧ w.grownBy w' (some (B + 4))
set_option maxHeartbeats 2000000 in
theorem cntB_any {D : Nat → Nat → Prop} {ch : Nat → Nat → List Int} {nl nb : Nat → Nat → Int → Nat} (S : ShC 93 94 D ch nl nb) (K : Nat → Nat → Nat) (C : CntC D ch nl nb K) (B : Nat) :
    ∀ (l b : Nat) (w : World), D l b → KEnv w B (fnV 93) (fnV 94) → (∃ M, w.ownsMap Try.prog 44 (plainElem (H := Unit) Try.prog 3) (B + 4) 625 M ∧ KInv K M) →
    Calls Try.prog 95 #[rv l b, .pointer (some ⟨B + 5, 0, none⟩), .pointer (some ⟨B + 1, 0, none⟩), .pointer (some ⟨B + 6, 0, none⟩), .pointer (some ⟨B + 2, 0, none⟩)] w (CntBPost K B w l b) := by
  intro l
  induction l using Nat.strongRecOn with
  | ind l ih =>
  intro b w hD hE hM
  obtain ⟨M, hM, hK⟩ := hM
  have hmlt := hM.lt
  have HD := hid hD
  have HIH := hid ih
  have HK := hid hK
  have hlb := C.small l b hD
  have HM0 := hid hM
  have HE0 := hid hE
  have hbox := rs_box w l b
  have HBA := hid (show w.grownBy (w.alloc (rsObj l b)) (some (B + 4)) from World.grownBy_alloc w _ _)
  have HR0 := hid (rs_row w l b)
  have hsz0 : (w.alloc (rsObj l b)).heap.size = w.heap.size + 1 := by simp
  have HM1 := hid (hM.alloc (rsObj l b))
  have k1 := at_alloc hE.known (rsObj l b)
  have k2 := at_alloc hE.choices (rsObj l b)
  have k3 := at_alloc hE.count (rsObj l b)
  have k4 := at_alloc hE.behind (rsObj l b)
  obtain ⟨b0, b1⟩ := hbox
  clear hM hK ih hE hD
  by_cases hl0 : l = 0
  · subst hl0
    have HF := hid (C.zero b HD.out)
    go_enter Try.func95, Try.ntmps95
    go_wp2_with fail
    go_ret
    exact ⟨by rw [HF.out]; rfl, ⟨M, HM1.out, HK.out⟩, HBA.out⟩
  · have h0 : ((l : Int) == 0) = false := by simp; omega
    have HKEY := hid (rest_key (wf24 hlb.1) (wf24 hlb.2))
    obtain ⟨c, hlk, hat⟩ := look_int HM1.out rest_keyed Try.underlying69 HKEY.out
    cases hh : Maps.has M (kL l b)
    · clear hat
      rw [hh] at hlk
      have HSTEP := hid (C.step l b HD.out hl0)
      have HLESS := hid (fun x hx => C.less l b x HD.out hl0 hx)
      have HDOM := hid (fun x hx => S.dom l b x HD.out hl0 hx)
      have HBH := hid (fun x (hx : x ∈ ch l b) W => S.behind l b x W HD.out hl0 hx)
      have HCH := hid (S.choices l b (w.alloc (rsObj l b)) HD.out hl0)
      have HBND := hid (C.bound l b HD.out)
      have hlen := S.len l b HD.out
      obtain ⟨f, hf⟩ : ∃ f : Int → Nat, f = fun x => K (nl l b x) (nb l b x) := ⟨_, rfl⟩
      rw [← hf] at HSTEP
      have HFX := hid (fun x => congrFun hf x)
      obtain ⟨xs, hxs⟩ : ∃ xs, xs = ch l b := ⟨_, rfl⟩
      rw [← hxs] at HCH HSTEP HLESS HDOM HBH hlen
      have HBA2 := hid ((Below.refl w.heap.size w).alloc (Nat.le_refl _) (rsObj l b))
      have HE1 := hid (KEnv.mk k1 k2 k3 k4)
      have HR1 := hid HR0.out
      clear hf hxs hh
      go_enter Try.func95, Try.ntmps95
      go_wp2_with (first
        | (with_reducible refine HCH.out.mono ?_; rintro e w1 ⟨u, rfl, ho, hb⟩; have HB1 := hid hb; have HM2 := hid (ownsMap_below6 HM1.out hb); have HE2 := hid (HE1.out.below hb); have HR2 := hid (HR1.out.of_block (hb.block w.heap.size (by rw [hsz0]; omega))); obtain ⟨ao, cu, hu, hcm, hcell⟩ := ho.view2; subst hu; clear ho hb hlk k1 k2 k3 k4 b0 b1)
        | fail)
      have HG1 := hid (show w.grownBy w1 (some (B + 4)) from grownBy_trans HBA.out (grown_of_below HB1.out _))
      clear hsz0
      go_loopw [9, 27] (fun s i wr => ∃ (k : Nat) (M : DataW Unit), k ≤ xs.length ∧ i = .int .i64 k ∧ s = .int .i64 (sumL f (xs.take k) : Int) ∧ wr.ownsMap Try.prog 44 (plainElem (H := Unit) Try.prog 3) (B + 4) 625 M ∧ KInv K M ∧ w1.grownBy wr (some (B + 4))) (fun _ i _ => xs.length - (intOf i).toNat)
      case atStart => exact ⟨0, M, Nat.zero_le _, rfl, rfl, HM2.out, HK.out, World.grownBy.refl _ _⟩
      case round =>
        obtain ⟨k, M2, hk, rfl, rfl, hm, hki, hg⟩ := hrel
        have HMR := hid hm
        have HKR := hid hki
        have HGR := hid hg
        have HER := hid (HE2.out.kept hg)
        have hrr := rowIs_kept6 HR2.out hg (by simp; omega)
        have r0 := hrr.cell (i := 0) (by omega)
        have r1 := hrr.cell (i := 1) (by omega)
        simp only [if_pos, Nat.one_ne_zero, if_false] at r0 r1
        have k1 := HER.out.known
        have k3 := HER.out.count
        have k4 := HER.out.behind
        clear hm hki hg
        by_cases hlt : k < xs.length
        · rcases hcell with hx | ⟨bx, hao, hbx0, hbx, hcx0⟩
          · exact absurd hlt (by rw [hx]; simp)
          subst hao
          have hcx := HGR.out.cell (hcx0 k hlt) (by have := World.grownBy.size HBA.out; simp; omega)
          have HMEM := hid (List.getElem_mem hlt)
          have hst := sumL_take f hlt
          have hsm := sumL_mono f xs (k + 1)
          obtain ⟨x, hx⟩ : ∃ x, x = xs[k] := ⟨_, rfl⟩
          rw [← hx] at hcx HMEM hst
          obtain ⟨q, hq⟩ : ∃ q, q = f x := ⟨_, rfl⟩
          obtain ⟨s, hs⟩ : ∃ s, s = sumL f (xs.take k) := ⟨_, rfl⟩
          rw [← hq, ← hs] at hst
          have HQ := hid (hq.trans (HFX.out x))
          have hbn := HBND.out
          have hstep := HSTEP.out
          have u1 : IntKind.i64.wrap ((s : Int) + (q : Int)) = (s : Int) + (q : Int) := IntWalk.i64_in _ (by omega)
          have HST := hid hst
          have HCON := hid (HIH.out (nl l b x) (HLESS.out x HMEM.out) (nb l b x))
          rw [← hs]
          clear hst hsm hbn hstep hx hq hs hcx0
          go_wp2_with fail
          go_region_held3 (fun w' => w'.cell? ⟨B + 6, 0, none⟩ = some (kF B) ∧ w'.cell? ⟨B + 2, 0, none⟩ = some (fnV 94) ∧ w'.cell? ⟨w.heap.size, 0, none⟩ = some (.int .i64 (l : Int)) ∧ w'.cell? ⟨w.heap.size, 1, none⟩ = some (.int .i64 (b : Int)))
            (first | exact ⟨k3, k4, r0, r1⟩ | exact ⟨at_below k3 HB2.out, at_below k4 HB2.out, at_below r0 HB2.out, at_below r1 HB2.out⟩ | exact ⟨HG3.out.cell (at_below k3 HB2.out) (by simp), HG3.out.cell (at_below k4 HB2.out) (by simp), HG3.out.cell (at_below r0 HB2.out) (by simp; omega), HG3.out.cell (at_below r1 HB2.out) (by simp; omega)⟩ | go_keep | fail)
            (first
              | (go_at_call 94; refine (HBH.out x HMEM.out _).mono ?_; rintro e w2 ⟨rfl, hb2⟩; have HB2 := hid ((Below.refl _ _).drew.trans hb2 : Below wr.heap.size wr w2); clear hb2)
              | (go_at_call 95; refine (HCON.out _ (HDOM.out x HMEM.out) (HER.out.below HB2.out) ⟨_, ownsMap_below6 HMR.out HB2.out, HKR.out⟩).mono ?_; rintro e w3 ⟨rfl, hm3, hg3⟩; have HM3 := hid hm3; have HG3 := hid hg3; rw [← HQ.out]; clear hm3 hg3)
              | fail)
          all_goals
            obtain ⟨M3, hm4, hk4⟩ := HM3.out
            have HM4 := hid hm4
            have HK4 := hid hk4
            have HGG := hid (grownBy_trans HGR.out (grownBy_trans (grown_of_below HB2.out _) HG3.out))
            clear hm4 hk4
            go_wp2_with fail
            go_roundw
            case rel => exact ⟨k + 1, M3, by omega, by go_num, by rw [HST.out]; push_cast; rfl, HM4.out, HK4.out, HGG.out⟩
            case measure => simp [intOf]; omega
        · obtain rfl : k = xs.length := by omega
          have HS := hid (show (sumL f (xs.take xs.length) : Int) = (K l b : Int) by rw [List.take_length, HSTEP.out])
          rw [HS.out]
          clear hcell
          have HWF := hid (show (Lit.int .i64 (K l b : Int)).wf = true from wf_small (by have := HBND.out; omega))
          go_wp2_with (first
            | (at_mapUpdate; refine wpList_mapUpdate_own _ rfl _ _ _ 69 rfl 44 3 rest_keyed Try.underlying69 (plainElem (H := Unit) Try.prog 3) (B + 4) 625 _ rfl HMR.out (by unfold maxLen; omega) _ _ _ rfl rfl HKEY.out _ [] (plainElem_int Try.underlying3 HWF.out) ?_; intro w2 hown2 hgrow2; have HO2 := hid hown2; have HG2 := hid hgrow2; have hlk3 := look_put hown2 rest_keyed Try.underlying69 HKEY.out HMR.out.isMap; have k1' := hgrow2.cell k1 (by simp); have r0' := hgrow2.cell r0 (by simp; omega); have r1' := hgrow2.cell r1 (by simp; omega); clear hown2 hgrow2)
            | fail)
          go_ret
          have HKI := KInv.put HKR.out HMR.out.isMap hlb.1 hlb.2
          exact ⟨rfl, ⟨_, ownsMap_small HO2.out (HKI.size HO2.out rest_keyed), HKI⟩, grownBy_trans HG1.out (grownBy_trans HGR.out HG2.out)⟩
    · have e1 := HK.out.2 l b hlb.1 hlb.2 hh
      rw [hat] at e1
      have e2 : c = (K l b : Int) := by simpa using e1
      subst e2
      rw [hh] at hlk
      obtain ⟨c2, hlk2, hat2, _⟩ := HM1.out.lookup_int rest_keyed Try.underlying69 Try.underlying3 (zero_int _) HKEY.out
      rw [hat] at hat2
      have e3 : c2 = (K l b : Int) := by simpa using hat2.symm
      subst e3
      clear hat hat2 e1 hh
      go_enter Try.func95, Try.ntmps95
      go_wp2_with fail
      go_ret
      exact ⟨rfl, ⟨M, HM1.out, HK.out⟩, HBA.out⟩
theorem countAllB_any {D : Nat → Nat → Prop} {ch : Nat → Nat → List Int} {nl nb : Nat → Nat → Int → Nat} (S : ShC 93 94 D ch nl nb) (K : Nat → Nat → Nat) (C : CntC D ch nl nb K) (B l b : Nat) (w : World) (hD : D l b)
    (hE : KEnv w B (fnV 93) (fnV 94)) (hM : ∃ M, w.ownsMap Try.prog 44 (plainElem (H := Unit) Try.prog 3) (B + 4) 625 M ∧ KInv K M) :
    Calls Try.prog 61 #[shV l b (fnV 93) (fnV 94) (kF B)] w (CntBPost K B w l b) := by
  obtain ⟨g0, g1, g2, g3, g4⟩ := sh_box w l b (fnV 93) (fnV 94) (kF B)
  have hba := (Below.refl w.heap.size w).alloc (Nat.le_refl _) (shObj l b (fnV 93) (fnV 94) (kF B))
  obtain ⟨M, hm, hk⟩ := hM
  have HCON := hid (cntB_any S K C B l b (w.alloc (shObj l b (fnV 93) (fnV 94) (kF B))) hD (hE.below hba) ⟨M, hm.alloc _, hk⟩)
  have HBA := hid (grown_of_below hba (some (B + 4)))
  clear hm hk hE hba
  go_enter Try.func61, Try.ntmps61
  go_wp2_with (first
    | (go_at_call 95; refine HCON.out.mono ?_; rintro e w1 ⟨rfl, hm, hg⟩; have HM := hid hm; have HG := hid hg; clear hm hg)
    | fail)
  go_ret
  exact ⟨rfl, HM.out, grownBy_trans HBA.out HG.out⟩
end Go.Proofs.Ytakelcboamjndaa
