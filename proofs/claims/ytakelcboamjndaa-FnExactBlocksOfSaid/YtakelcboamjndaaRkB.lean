/- Contract: rankOf, the rank of a list by a shape (impl.balancedWordsOf$1). Conditions: the shape's functions keep their contracts; the shape has the list. -/
import Derived.Test.YtakelcboamjndaaShR
import Derived.Test.YtakelcboamjndaaCntB
namespace Go.Proofs.Ytakelcboamjndaa
open Go.RowKit Go.Maps
set_option linter.unusedVariables false
set_option maxRecDepth 4000

set_option maxHeartbeats 2000000 in
theorem rankOfB_any {D : Nat → Nat → Prop} {ch : Nat → Nat → List Int} {nl nb : Nat → Nat → Int → Nat} (S : ShC 93 94 D ch nl nb) (K : Nat → Nat → Nat) (C : CntC D ch nl nb K) (B l0 b0 : Nat) (v : Value) (xs : List Int) (w : World) (hD : D l0 b0)
    (hE : KEnv w B (fnV 93) (fnV 94)) (hM : w.ownsMap Try.prog 44 (plainElem (H := Unit) Try.prog 3) (B + 4) 0 (.map [])) (h : Reads w v xs) (hl : xs.length ≤ 1048576) (hs : hasS ch nl nb xs l0 b0 = true) :
    Calls Try.prog 63 #[shV l0 b0 (fnV 93) (fnV 94) (kF B), v] w fun e w' => e = .returned (.int .i64 (rkS ch nl nb K xs l0 b0 : Int)) ∧ w.grownBy w' (some (B + 4)) := by
  have hba := (Below.refl w.heap.size w).alloc (Nat.le_refl _) (shObj l0 b0 (fnV 93) (fnV 94) (kF B))
  obtain ⟨g0, g1, g2, g3, g4⟩ := sh_box w l0 b0 (fnV 93) (fnV 94) (kF B)
  have hmlt := hM.lt
  have HTOT := hid (Nat.le_trans (rkS_lt C S.dom xs l0 b0 hD hs) (C.bound l0 b0 hD))
  have HD := hid hD
  have HS := hid hs
  obtain ⟨w1, hw1⟩ : ∃ w1, w1 = w.alloc (shObj l0 b0 (fnV 93) (fnV 94) (kF B)) := ⟨_, rfl⟩
  have hM1 := ownsMap_below6 hM hba
  have HV := hid (h.below hba)
  have HE := hid (hE.below hba)
  have HBA := hid (grown_of_below hba (some (B + 4)))
  have hs1 : w1.heap.size = w.heap.size + 1 := by rw [hw1]; simp
  have hr0 := rs_row w1 l0 b0
  have hg0 : w1.grownBy (w1.alloc (rsObj l0 b0)) (some (B + 4)) := World.grownBy_alloc _ _ _
  rw [← hw1] at g0 g1 g2 g3 g4 HV HE hM1 HBA
  have HM0 := hid (hM1.alloc (rsObj l0 b0))
  have HG0 := hid hg0
  have HMX := hid hM1
  rw [hs1] at hr0
  have HR0 := hid hr0
  have HS1 := hid hs1
  have G2 := hid g2
  have G3 := hid g3
  have G4 := hid g4
  obtain ⟨ao, c, hvv, hc1, hm, hx⟩ := HV.out.view
  subst hvv
  clear hr0 hs1 hba h hD hs hE hM hM1 hg0 g0 g1 g2 g3 g4
  go_enter Try.func63, Try.ntmps63
  go_wp2_with fail
  rw [← hw1]
  clear hw1
  go_loopw [5, 16] (fun r i wr => ∃ (k l b rk : Nat) (M : DataW Unit), k ≤ xs.length ∧ i = .int .i64 k ∧ r = .int .i64 (rk : Int) ∧ D l b ∧ hasS ch nl nb (xs.drop k) l b = true ∧ rk + rkS ch nl nb K (xs.drop k) l b = rkS ch nl nb K xs l0 b0 ∧ wr.rowIs (w.heap.size + 1) 44 2 (rvF l b) ∧
      wr.ownsMap Try.prog 44 (plainElem (H := Unit) Try.prog 3) (B + 4) 625 M ∧ KInv K M ∧ w1.grownBy wr (some (B + 4))) (fun _ i _ => xs.length - (intOf i).toNat)
  case atStart => exact ⟨0, l0, b0, 0, _, Nat.zero_le _, rfl, rfl, HD.out, by simpa using HS.out, by simp, HR0.out, HM0.out.mono (by omega), KInv.empty _, HG0.out⟩
  case round =>
    obtain ⟨k, l, b, rk, M, hk, rfl, rfl, hd, hha, hrk, hrow, hmm, hki, hg⟩ := hrel
    have HDD := hid hd
    have HHA := hid hha
    have HRK := hid hrk
    have HROW := hid hrow
    have HMM := hid hmm
    have HKI := hid hki
    have HG := hid hg
    have r0 := hrow.cell (i := 0) (by omega)
    have r1 := hrow.cell (i := 1) (by omega)
    simp only [rvF, if_pos, Nat.one_ne_zero, if_false] at r0 r1
    have hs1 := HS1.out
    have c2 := hg.cell G2.out (by simp; omega)
    have c3 := hg.cell G3.out (by simp; omega)
    have c4 := hg.cell G4.out (by simp; omega)
    have HER := hid (HE.out.kept hg)
    clear hd hha hrk hrow hmm hki hg hs1
    by_cases hlt : k < xs.length
    · rcases hx with hx | ⟨bx, off, rfl, hbx, hcx0⟩
      · exact absurd hlt (by rw [hx]; simp)
      have hcx := HG.out.cell (hcx0 k hlt) (by have := map_no_cell HMX.out (hcx0 k hlt); simpa using this)
      have hha := HHA.out
      have hrk := HRK.out
      rw [List.drop_eq_getElem_cons hlt] at hha hrk
      obtain ⟨x, hxk⟩ : ∃ x, x = xs[k] := ⟨_, rfl⟩
      rw [← hxk] at hcx hha hrk
      rw [hasS, Bool.and_eq_true, Bool.and_eq_true] at hha
      obtain ⟨⟨hl1, hmb⟩, hha2⟩ := hha
      rw [rkS] at hrk
      have hl0 : l ≠ 0 := by simpa using hl1
      have hmem := hasB_iff.1 hmb
      have HHA2 := hid hha2
      have HRK2 := hid hrk
      have HMEM := hid hmem
      have HCH := hid (S.choices l b wr HDD.out hl0)
      have HBH := hid (fun y (hy : y ∈ ch l b) W => S.behind l b y W HDD.out hl0 hy)
      have HDOM := hid (fun y (hy : y ∈ ch l b) => S.dom l b y HDD.out hl0 hy)
      have HIXL := hid (ixL_lt hmem)
      obtain ⟨f, hf⟩ : ∃ f : Int → Nat, f = fun y => K (nl l b y) (nb l b y) := ⟨_, rfl⟩
      have HFX := hid (fun y => congrFun hf y)
      rw [← hf] at HRK2
      obtain ⟨ys, hys⟩ : ∃ ys, ys = ch l b := ⟨_, rfl⟩
      have hlen := S.len l b HDD.out
      rw [← hys] at HCH HBH HDOM HRK2 HMEM HIXL hlen
      obtain ⟨ix, hix⟩ : ∃ ix, ix = ixL x ys := ⟨_, rfl⟩
      have HIX := hid hix
      rw [← hix] at HRK2 HIXL
      have HNE := hid (show ys ≠ [] from List.ne_nil_of_length_pos (by have := HIXL.out; omega))
      have hixl := HIXL.out
      clear hha2 hrk hmem hl1 hmb hf hys hix hxk hcx0
      go_wp2_with (first
        | (with_reducible refine HCH.out.mono ?_; rintro e w2 ⟨u, rfl, ho, hb⟩; have HB2 := hid hb; have d2 := at_below c2 hb; have d3 := at_below c3 hb; have d4 := at_below c4 hb; have q0 := at_below r0 hb; have q1 := at_below r1 hb; obtain ⟨gu, cu, hu, _, hcm, hgb, hgl, hcell⟩ := own_some ho HNE.out; subst hu; have HO := hid ho; clear ho hb c2 c3 c4 r0 r1)
        | (go_at_call 88; refine (Index_ix _ ys x _ HO.out.sits HMEM.out).mono ?_; rintro e w3 ⟨rfl, rfl⟩; rw [← HIX.out])
        | fail)
      have HG2 := hid (show w1.grownBy w2 (some (B + 4)) from grownBy_trans HG.out (grown_of_below HB2.out _))
      have HM2 := hid (ownsMap_below6 HMM.out HB2.out)
      have HE2 := hid (HER.out.below HB2.out)
      have HR2 := hid (HROW.out.of_block (HB2.out.block _ (World.rowIs.lt HROW.out)))
      have HC2 := hid hcell
      have HD2 := hid d2
      have HD3 := hid d3
      have HD4 := hid d4
      have HQ0 := hid q0
      have HQ1 := hid q1
      have hsr := HG.out.size
      have hsz1 := HS1.out
      have hlen2 : ys.length ≤ 1000 := hlen
      clear hcell d2 d3 d4 q0 q1 hcx hsr
      obtain ⟨wo, rfl⟩ : ∃ wo : World, wo = wr := ⟨_, rfl⟩
      go_loopw [5, 30] (fun r i wj => ∃ (j : Nat) (M : DataW Unit), j ≤ ix ∧ i = .int .i64 j ∧ r = .int .i64 ((rk + sumL f (ys.take j) : Nat) : Int) ∧
        wj.ownsMap Try.prog 44 (plainElem (H := Unit) Try.prog 3) (B + 4) 625 M ∧ KInv K M ∧ w2.grownBy wj (some (B + 4))) (fun _ i _ => ix - (intOf i).toNat)
      case atStart => exact ⟨0, M, Nat.zero_le _, rfl, by simp [sumL], HM2.out, HKI.out, World.grownBy.refl _ _⟩
      case round =>
        obtain ⟨j, M2, hj, rfl, rfl, hm2, hki2, hg2⟩ := hrel
        have HMJ := hid hm2
        have HKJ := hid hki2
        have HGJ := hid hg2
        have HEJ := hid (HE2.out.kept hg2)
        have k2 := hg2.cell HD2.out (by simp; omega)
        have k3 := hg2.cell HD3.out (by simp; omega)
        have k4 := hg2.cell HD4.out (by simp; omega)
        have r0 := hg2.cell HQ0.out (by simp; omega)
        have r1 := hg2.cell HQ1.out (by simp; omega)
        clear hm2 hki2
        by_cases hjl : j < ix
        · have hjy : j < ys.length := by omega
          have hcy := hg2.cell (HC2.out j hjy) (by have := map_no_cell HM2.out (HC2.out j hjy); simpa using this)
          have HYM := hid (List.getElem_mem hjy)
          have hst := sumL_take f hjy
          obtain ⟨y, hy⟩ : ∃ y, y = ys[j] := ⟨_, rfl⟩
          rw [← hy] at hcy HYM hst
          have hsm := sumL_mono f (ys.take ix) (j + 1)
          rw [List.take_take, Nat.min_eq_left (by omega)] at hsm
          obtain ⟨q, hq⟩ : ∃ q, q = f y := ⟨_, rfl⟩
          obtain ⟨s, hs⟩ : ∃ s, s = sumL f (ys.take j) := ⟨_, rfl⟩
          rw [← hq, ← hs] at hst
          have HQ := hid (hq.trans (HFX.out y))
          have htt := HTOT.out
          have hrk2 := HRK2.out
          have u1 : IntKind.i64.wrap (((rk + s : Nat) : Int) + (q : Int)) = ((rk + s + q : Nat) : Int) := by rw [IntWalk.i64_in _ (by omega)]; push_cast; rfl
          have HST := hid (show rk + sumL f (ys.take (j + 1)) = rk + s + q by omega)
          rw [← hs]
          have HCON := hid (fun W hE hM => cntB_any S K C B (nl l b y) (nb l b y) W (HDOM.out y HYM.out) hE hM)
          obtain ⟨z, hz⟩ : ∃ z : Int, z = ((rk + s : Nat) : Int) := ⟨_, rfl⟩
          rw [← hz] at u1 ⊢
          clear hst hsm htt hrk2 hy hq hs hg2 hz
          go_wp2_with fail
          go_region_held3 (fun w' => w'.cell? ⟨w.heap.size, 4, none⟩ = some (kF B) ∧ w'.cell? ⟨w.heap.size, 3, none⟩ = some (fnV 94) ∧ w'.cell? ⟨w.heap.size + 1, 0, none⟩ = some (.int .i64 (l : Int)) ∧ w'.cell? ⟨w.heap.size + 1, 1, none⟩ = some (.int .i64 (b : Int)))
            (first | exact ⟨k4, k3, r0, r1⟩ | exact ⟨at_below k4 HB3.out, at_below k3 HB3.out, at_below r0 HB3.out, at_below r1 HB3.out⟩ | exact ⟨HG4.out.cell (at_below k4 HB3.out) (by simp; omega), HG4.out.cell (at_below k3 HB3.out) (by simp; omega), HG4.out.cell (at_below r0 HB3.out) (by simp; omega), HG4.out.cell (at_below r1 HB3.out) (by simp; omega)⟩ | go_keep | fail)
            (first
              | (go_at_call 94; refine (HBH.out y HYM.out _).mono ?_; rintro e w3 ⟨rfl, hb3⟩; have HB3 := hid ((Below.refl _ _).drew.trans hb3 : Below wr.heap.size wr w3); clear hb3)
              | (go_at_call 95; refine (HCON.out _ (HEJ.out.below HB3.out) ⟨_, ownsMap_below6 HMJ.out HB3.out, HKJ.out⟩).mono ?_; rintro e w4 ⟨rfl, hm4, hg4⟩; have HM4 := hid hm4; have HG4 := hid hg4; rw [← HQ.out]; clear hm4 hg4)
              | fail)
          all_goals
            obtain ⟨M3, hm4, hk4⟩ := HM4.out
            have HM5 := hid hm4
            have HK5 := hid hk4
            have HGG := hid (grownBy_trans HGJ.out (grownBy_trans (grown_of_below HB3.out _) HG4.out))
            clear hm4 hk4
            go_wp2_with fail
            go_roundw
            case rel => exact ⟨j + 1, M3, by omega, by go_num, by rw [HST.out]; push_cast; rfl, HM5.out, HK5.out, HGG.out⟩
            case measure => simp [intOf]; omega
        · obtain rfl : j = ix := by omega
          have hbh := HBH.out x HMEM.out
          have HBX := hid hbh
          have HRJ := hid (rowIs_kept6 HR2.out hg2 (by simp; omega))
          have HDX := hid (HDOM.out x HMEM.out)
          have HRN := hid (show rk + sumL f (ys.take j) + rkS ch nl nb K (xs.drop (k + 1)) (nl l b x) (nb l b x) = rkS ch nl nb K xs l0 b0 by have := HRK2.out; omega)
          clear hbh hg2
          go_wp2_with (first
            | (with_reducible refine (HBX.out _).mono ?_; rintro e w3 ⟨rfl, hb3⟩; have HB3 := hid hb3; have HR3 := hid (HRJ.out.of_block (hb3.block _ (World.rowIs.lt HRJ.out))); have e0 := HR3.out.cell (i := 0) (by omega); have e1 := HR3.out.cell (i := 1) (by omega); have f0 := HR3.out.frozen 0; have f1 := HR3.out.frozen 1; clear hb3)
            | fail)
          go_roundw
          case rel => exact ⟨k + 1, nl l b x, nb l b x, rk + sumL f (ys.take j), M2, by omega, by go_num, rfl, HDX.out, HHA2.out, HRN.out, rv_set HR3.out _ _, ((ownsMap_below6 HMJ.out HB3.out).setCell (by show B + 4 ≠ w.heap.size + 1; omega) _).setCell (by show B + 4 ≠ w.heap.size + 1; omega) _, HKJ.out,
            grown_setCell6 (grown_setCell6 (grownBy_trans HG2.out (grownBy_trans HGJ.out (grown_of_below HB3.out _))) (by omega)) (by omega)⟩
          case measure => simp [intOf]; omega
    · obtain rfl : k = xs.length := by omega
      have HF := hid (show rk = rkS ch nl nb K xs l0 b0 by have := HRK.out; rw [List.drop_length, rkS] at this; omega)
      clear hx
      go_wp2_with fail
      go_ret
      exact ⟨ret_int (by rw [← HF.out]), grownBy_trans HBA.out HG.out⟩
end Go.Proofs.Ytakelcboamjndaa
