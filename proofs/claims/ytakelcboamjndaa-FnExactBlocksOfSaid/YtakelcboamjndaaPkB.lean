/- Contracts: choiceAt, listAt of a shape (impl.balancedWordsOf$1). Conditions: the shape's functions keep their contracts; there is a list with the rank. -/
import Derived.Test.YtakelcboamjndaaShL
import Derived.Test.YtakelcboamjndaaCntB
namespace Go.Proofs.Ytakelcboamjndaa
open Go.RowKit Go.Maps
set_option linter.unusedVariables false
set_option maxRecDepth 4000

set_option maxHeartbeats 2000000 in
theorem choiceAtB_any {D : Nat → Nat → Prop} {ch : Nat → Nat → List Int} {nl nb : Nat → Nat → Int → Nat} (S : ShC 93 94 D ch nl nb) (K : Nat → Nat → Nat) (C : CntC D ch nl nb K) (B l b r : Nat) (l0 b0 : Int) (w : World) (hD : D l b) (hl0 : l ≠ 0)
    (hE : KEnv w B (fnV 93) (fnV 94)) (hM : ∃ M, w.ownsMap Try.prog 44 (plainElem (H := Unit) Try.prog 3) (B + 4) 625 M ∧ KInv K M) (hr : r < K l b) :
    Calls Try.prog 89 #[shV l0 b0 (fnV 93) (fnV 94) (kF B), rv l b, .int .i64 (r : Int)] w fun e w' =>
      e = .returned (.tuple #[.int .i64 (pkS (fun y => K (nl l b y) (nb l b y)) (ch l b) r).1, .int .i64 ((pkS (fun y => K (nl l b y) (nb l b y)) (ch l b) r).2 : Int)]) ∧
      (∃ M, w'.ownsMap Try.prog 44 (plainElem (H := Unit) Try.prog 3) (B + 4) 625 M ∧ KInv K M) ∧ w.grownBy w' (some (B + 4)) := by
  obtain ⟨M, hM, hK⟩ := hM
  have hmlt := hM.lt
  have hba := (Below.refl w.heap.size w).alloc (Nat.le_refl _) (shObj l0 b0 (fnV 93) (fnV 94) (kF B))
  obtain ⟨_, _, g2, g3, g4⟩ := sh_box w l0 b0 (fnV 93) (fnV 94) (kF B)
  obtain ⟨w1, hw1⟩ : ∃ w1, w1 = w.alloc (shObj l0 b0 (fnV 93) (fnV 94) (kF B)) := ⟨_, rfl⟩
  have hs1 : w1.heap.size = w.heap.size + 1 := by rw [hw1]; simp
  have hr1 := rs_box w1 l b
  rw [hs1] at hr1
  obtain ⟨r0, r1⟩ := hr1
  have hba1 := (Below.refl w1.heap.size w1).alloc (Nat.le_refl _) (rsObj l b)
  rw [← hw1] at hba g2 g3 g4
  have HG1 := hid (show w.grownBy (w1.alloc (rsObj l b)) (some (B + 4)) from grownBy_trans (grown_of_below hba _) (grown_of_below hba1 _))
  have HE := hid ((hE.below hba).below hba1)
  have HM := hid (ownsMap_below6 (ownsMap_below6 hM hba) hba1)
  have HK := hid hK
  have HD := hid hD
  have G2 := hid (at_below g2 hba1)
  have G3 := hid (at_below g3 hba1)
  have G4 := hid (at_below g4 hba1)
  have R0 := hid r0
  have R1 := hid r1
  have HW1 := hid hw1
  have HSTEP := hid (C.step l b hD hl0)
  have HBND := hid (C.bound l b hD)
  have HR := hid hr
  have hlen := S.len l b hD
  have HCH := hid (S.choices l b (w1.alloc (rsObj l b)) hD hl0)
  have HBH := hid (fun y (hy : y ∈ ch l b) W => S.behind l b y W HD.out hl0 hy)
  have HDOM := hid (fun y (hy : y ∈ ch l b) => S.dom l b y HD.out hl0 hy)
  obtain ⟨f, hf⟩ : ∃ f : Int → Nat, f = fun y => K (nl l b y) (nb l b y) := ⟨_, rfl⟩
  have HFX := hid (fun y => congrFun hf y)
  rw [← hf] at HSTEP ⊢
  obtain ⟨ys, hys⟩ : ∃ ys, ys = ch l b := ⟨_, rfl⟩
  rw [← hys] at HCH HBH HDOM HSTEP hlen ⊢
  have HNE := hid (show ys ≠ [] by rintro rfl; have h1 := HSTEP.out; have h2 := HR.out; rw [sumL] at h1; omega)
  obtain ⟨w2, hw2⟩ : ∃ w2, w2 = w1.alloc (rsObj l b) := ⟨_, rfl⟩
  rw [← hw2] at HG1 HE HM G2 G3 G4 R0 R1 HCH
  have HW2 := hid hw2
  have c2 := G2.out
  have c3 := G3.out
  have c4 := G4.out
  have d0 := R0.out
  have d1 := R1.out
  clear hf hys hM hK hE hba hba1 g2 g3 g4 hD hr r0 r1 hs1 hw1 hw2
  go_enter Try.func89, Try.ntmps89
  go_wp2_with fail
  rw [← HW1.out, ← HW2.out]
  go_wp2_with (first
    | (with_reducible refine HCH.out.mono ?_; rintro e w3 ⟨u, rfl, ho, hb⟩; have HB3 := hid hb; have HM3 := hid (ownsMap_below6 HM.out hb); have HE3 := hid (HE.out.below hb); have E3 := hid (at_below c3 hb); have E4 := hid (at_below c4 hb); have F0 := hid (at_below d0 hb); have F1 := hid (at_below d1 hb); obtain ⟨gu, cu, hu, _, hcm, hgb, hgl, hcell⟩ := own_some ho HNE.out; subst hu; have HC3 := hid hcell; clear ho hb hcell c2 c3 c4 d0 d1)
    | fail)
  have HG3 := hid (show w.grownBy w3 (some (B + 4)) from grownBy_trans HG1.out (grown_of_below HB3.out _))
  have hsw : w.heap.size + 1 + 1 ≤ w3.heap.size := by have h1 := HB3.out.size; have h2 : w2.heap.size = w.heap.size + 1 + 1 := by { rw [HW2.out, HW1.out]; simp }; omega
  go_loopw [2, 9] (fun r' i wr => ∃ (j q : Nat) (M : DataW Unit), j < ys.length ∧ i = .int .i64 j ∧ r' = .int .i64 (q : Int) ∧ pkS f (ys.drop j) q = pkS f ys r ∧ q < sumL f (ys.drop j) ∧ q ≤ r ∧
    wr.ownsMap Try.prog 44 (plainElem (H := Unit) Try.prog 3) (B + 4) 625 M ∧ KInv K M ∧ w3.grownBy wr (some (B + 4))) (fun _ i _ => ys.length - (intOf i).toNat)
  case atStart => exact ⟨0, r, M, List.length_pos_iff.2 HNE.out, rfl, rfl, rfl, by have h1 := HSTEP.out; have h2 := HR.out; show r < sumL f ys; omega, Nat.le_refl _, HM3.out, HK.out, World.grownBy.refl _ _⟩
  case round =>
    obtain ⟨j, q, M2, hj, rfl, rfl, hpk, hqs, hqr, hm, hki, hg⟩ := hrel
    have HMR := hid hm
    have HKR := hid hki
    have HGR := hid hg
    have HER := hid (HE3.out.kept hg)
    have k3 := hg.cell E3.out (by simp; omega)
    have k4 := hg.cell E4.out (by simp; omega)
    have r0 := hg.cell F0.out (by simp; omega)
    have r1 := hg.cell F1.out (by simp; omega)
    have hcx := hg.cell (HC3.out j hj) (by have := map_no_cell HM3.out (HC3.out j hj); simpa using this)
    have HXM := hid (List.getElem_mem hj)
    rw [pkS_drop f hj] at hpk
    rw [sumL_drop f hj] at hqs
    obtain ⟨x, hx⟩ : ∃ x, x = ys[j] := ⟨_, rfl⟩
    rw [← hx] at hcx hpk hqs HXM
    obtain ⟨c, hc⟩ : ∃ c, c = f x := ⟨_, rfl⟩
    rw [← hc] at hpk hqs
    have HCX := hid (hc.trans (HFX.out x))
    have HPK := hid hpk
    have HQS := hid hqs
    have hcon := fun W hE hM => cntB_any S K C B (nl l b x) (nb l b x) W (HDOM.out x HXM.out) hE hM
    have HCON := hid hcon
    have q1 : (0 : Int) ≤ (j : Int) := by omega
    have q2 : (j : Int) < (ys.length : Int) := by omega
    have hjy : j < ys.length := hj
    clear hm hki hg hx hc hpk hqs hcon
    go_wp2_with fail
    go_region_held3 (fun w' => w'.cell? ⟨w.heap.size, 4, none⟩ = some (kF B) ∧ w'.cell? ⟨w.heap.size, 3, none⟩ = some (fnV 94) ∧ w'.cell? ⟨w.heap.size + 1, 0, none⟩ = some (.int .i64 (l : Int)) ∧ w'.cell? ⟨w.heap.size + 1, 1, none⟩ = some (.int .i64 (b : Int)) ∧ w'.cell? ⟨gu, j, none⟩ = some (.int .i64 x))
      (first | exact ⟨k4, k3, r0, r1, hcx⟩ | exact ⟨at_below k4 HB4.out, at_below k3 HB4.out, at_below r0 HB4.out, at_below r1 HB4.out, at_below hcx HB4.out⟩ | exact ⟨HG5.out.cell (at_below k4 HB4.out) (by simp; omega), HG5.out.cell (at_below k3 HB4.out) (by simp; omega), HG5.out.cell (at_below r0 HB4.out) (by simp; omega), HG5.out.cell (at_below r1 HB4.out) (by simp; omega), HG5.out.cell (at_below hcx HB4.out) (by have := map_no_cell (ownsMap_below6 HMR.out HB4.out) (at_below hcx HB4.out); simpa using this)⟩ | go_keep | fail)
      (first
        | (go_at_call 94; refine (HBH.out x HXM.out _).mono ?_; rintro e w4 ⟨rfl, hb4⟩; have HB4 := hid ((Below.refl _ _).drew.trans hb4 : Below wr.heap.size wr w4); clear hb4)
        | (go_at_call 95; refine (HCON.out _ (HER.out.below HB4.out) ⟨_, ownsMap_below6 HMR.out HB4.out, HKR.out⟩).mono ?_; rintro e w5 ⟨rfl, hm5, hg5⟩; have HM5 := hid hm5; have HG5 := hid hg5; rw [← HCX.out]; clear hm5 hg5)
        | fail)
    all_goals
      obtain ⟨M3, hm5, hk5⟩ := HM5.out
      have HMT := hid hm5
      have HKT := hid hk5
      have HGT := hid (grownBy_trans HGR.out (grownBy_trans (grown_of_below HB4.out _) HG5.out))
      have hgt := HGT.out
      have HET := hid (HE3.out.kept hgt)
      have k3' := hgt.cell E3.out (by simp; omega)
      have k4' := hgt.cell E4.out (by simp; omega)
      have r0' := hgt.cell F0.out (by simp; omega)
      have r1' := hgt.cell F1.out (by simp; omega)
      have hcx' := HG5.out.cell (at_below hcx HB4.out) (by have := map_no_cell (ownsMap_below6 HMR.out HB4.out) (at_below hcx HB4.out); simpa using this)
      clear hm5 hk5 k3 k4 r0 r1 hcx hgt
      by_cases hcq : c ≤ q
      · have hdec : decide (c ≤ q) = true := decide_eq_true hcq
        rw [hdec]
        have u1 : IntKind.i64.wrap ((q : Int) - (c : Int)) = ((q - c : Nat) : Int) := by rw [IntWalk.i64_in _ (by have h1 := HBND.out; have h2 := HR.out; omega)]; omega
        have HPN := hid (show pkS f (ys.drop (j + 1)) (q - c) = pkS f ys r by have := HPK.out; rwa [if_neg (by omega)] at this)
        have HQN := hid (show q - c < sumL f (ys.drop (j + 1)) by have := HQS.out; omega)
        have HQR := hid (show q - c ≤ r by omega)
        have HJN := hid (show j + 1 < ys.length by
          have := HQN.out
          rcases Nat.lt_or_ge (j + 1) ys.length with h | h
          · exact h
          · rw [List.drop_of_length_le h, sumL] at this; omega)
        clear hcq hdec
        go_wp2_with fail
        go_region_held3 (fun w' => w'.cell? ⟨w.heap.size, 4, none⟩ = some (kF B) ∧ w'.cell? ⟨w.heap.size, 3, none⟩ = some (fnV 94) ∧ w'.cell? ⟨w.heap.size + 1, 0, none⟩ = some (.int .i64 (l : Int)) ∧ w'.cell? ⟨w.heap.size + 1, 1, none⟩ = some (.int .i64 (b : Int)) ∧ w'.cell? ⟨gu, j, none⟩ = some (.int .i64 x))
          (first | exact ⟨k4', k3', r0', r1', hcx'⟩ | exact ⟨at_below k4' HB6.out, at_below k3' HB6.out, at_below r0' HB6.out, at_below r1' HB6.out, at_below hcx' HB6.out⟩ | exact ⟨HG7.out.cell (at_below k4' HB6.out) (by simp; omega), HG7.out.cell (at_below k3' HB6.out) (by simp; omega), HG7.out.cell (at_below r0' HB6.out) (by simp; omega), HG7.out.cell (at_below r1' HB6.out) (by simp; omega), HG7.out.cell (at_below hcx' HB6.out) (by have := map_no_cell (ownsMap_below6 HMT.out HB6.out) (at_below hcx' HB6.out); simpa using this)⟩ | go_keep | fail)
          (first
            | (go_at_call 94; refine (HBH.out x HXM.out _).mono ?_; rintro e w6 ⟨rfl, hb6⟩; have HB6 := hid ((Below.refl _ _).drew.trans hb6 : Below w5.heap.size w5 w6); clear hb6)
            | (go_at_call 95; refine (HCON.out _ (HET.out.below HB6.out) ⟨_, ownsMap_below6 HMT.out HB6.out, HKT.out⟩).mono ?_; rintro e w7 ⟨rfl, hm7, hg7⟩; have HM7 := hid hm7; have HG7 := hid hg7; rw [← HCX.out]; clear hm7 hg7)
            | fail)
        all_goals
          obtain ⟨M4, hm7, hk7⟩ := HM7.out
          have HM8 := hid hm7
          have HK8 := hid hk7
          have HG8 := hid (grownBy_trans HGT.out (grownBy_trans (grown_of_below HB6.out _) HG7.out))
          clear hm7 hk7
          go_wp2_with fail
          go_roundw
          case rel => exact ⟨j + 1, q - c, M4, HJN.out, by go_num, rfl, HPN.out, HQN.out, HQR.out, HM8.out, HK8.out, HG8.out⟩
          case measure => simp [intOf]; omega
      · have hdec : decide (c ≤ q) = false := decide_eq_false hcq
        rw [hdec]
        have HPN := hid (show pkS f ys r = (x, q) by have := HPK.out; rw [if_pos (by omega)] at this; exact this.symm)
        clear hcq hdec
        go_wp2_with fail
        go_ret2
        exact ⟨by rw [HPN.out]; rfl, ⟨_, HMT.out, HKT.out⟩, grownBy_trans HG3.out HGT.out⟩
set_option maxHeartbeats 2000000 in
theorem listAtB_any {D : Nat → Nat → Prop} {ch : Nat → Nat → List Int} {nl nb : Nat → Nat → Int → Nat} (S : ShC 93 94 D ch nl nb) (K : Nat → Nat → Nat) (C : CntC D ch nl nb K) (B l0 b0 : Nat) (r : Int) (w : World) (hD : D l0 b0)
    (hE : KEnv w B (fnV 93) (fnV 94)) (hM : ∃ M, w.ownsMap Try.prog 44 (plainElem (H := Unit) Try.prog 3) (B + 4) 625 M ∧ KInv K M) :
    Calls Try.prog 65 #[shV l0 b0 (fnV 93) (fnV 94) (kF B), .int .i64 r] w fun e w' =>
      ∃ u, e = .returned (.tuple #[u, .bool (inB r 0 ((K l0 b0 : Int) - 1))]) ∧ OwnE w' w.heap.size u (atRes ch nl nb K l0 b0 r) ∧
      (∃ M, w'.ownsMap Try.prog 44 (plainElem (H := Unit) Try.prog 3) (B + 4) 625 M ∧ KInv K M) ∧ w.grownBy w' (some (B + 4)) := by
  obtain ⟨M, hM, hK⟩ := hM
  have hmlt := hM.lt
  have hba := (Below.refl w.heap.size w).alloc (Nat.le_refl _) (shObj l0 b0 (fnV 93) (fnV 94) (kF B))
  obtain ⟨g0, g1, g2, g3, g4⟩ := sh_box w l0 b0 (fnV 93) (fnV 94) (kF B)
  obtain ⟨w1, hw1⟩ : ∃ w1, w1 = w.alloc (shObj l0 b0 (fnV 93) (fnV 94) (kF B)) := ⟨_, rfl⟩
  have hs1 : w1.heap.size = w.heap.size + 1 := by rw [hw1]; simp
  rw [← hw1] at hba g0 g1 g2 g3 g4
  have HG1 := hid (grown_of_below hba (some (B + 4)))
  have HE := hid (hE.below hba)
  have HM := hid (ownsMap_below6 hM hba)
  have HK := hid hK
  have HD := hid hD
  have HW1 := hid hw1
  have HS1 := hid hs1
  have HALL := hid (countAllB_any S K C B l0 b0 w1 hD HE.out ⟨M, HM.out, hK⟩)
  have hl24 := C.small l0 b0 hD
  obtain ⟨kk, hkk⟩ : ∃ kk, kk = K l0 b0 := ⟨_, rfl⟩
  have HKK := hid hkk
  rw [← hkk] at ⊢
  clear hM hK hE hba hD hs1 hkk
  by_cases hneg : r < 0
  · have HF := hid (show inB r 0 ((kk : Int) - 1) = false by simp [inB]; omega)
    have HR := hid (show atRes ch nl nb K l0 b0 r = [] by unfold atRes; rw [← HKK.out, HF.out]; simp)
    go_enter Try.func65, Try.ntmps65
    go_wp2_with fail
    rw [← HW1.out]
    go_ret2
    exact ⟨_, ret_sb6 HF.out.symm, by rw [HR.out]; exact .inl ⟨rfl, rfl⟩, ⟨_, HM.out, HK.out⟩, HG1.out⟩
  · by_cases hge : (kk : Int) ≤ r
    · have HF := hid (show inB r 0 ((kk : Int) - 1) = false by simp [inB]; omega)
      have HR := hid (show atRes ch nl nb K l0 b0 r = [] by unfold atRes; rw [← HKK.out, HF.out]; simp)
      go_enter Try.func65, Try.ntmps65
      rw [hw1] at HALL g0 g1 g2 g3 g4
      go_wp2_with (first
        | (go_at_call 61; refine HALL.out.mono ?_; rintro e w2 ⟨rfl, hm, hg⟩; rw [← HKK.out]; have HM2 := hid hm; have HG2 := hid hg; clear hm hg)
        | fail)
      go_ret2
      rw [← hw1] at HG2
      exact ⟨_, ret_sb6 HF.out.symm, by rw [HR.out]; exact .inl ⟨rfl, rfl⟩, HM2.out, grownBy_trans HG1.out HG2.out⟩
    · obtain ⟨q, rfl⟩ : ∃ q : Nat, r = (q : Int) := ⟨r.toNat, by omega⟩
      have HF := hid (show inB (q : Int) 0 ((kk : Int) - 1) = true from inB_iff.2 ⟨by omega, by omega⟩)
      have HR := hid (show atRes ch nl nb K l0 b0 (q : Int) = atS ch nl nb K l0 l0 b0 q by unfold atRes; rw [← HKK.out, if_pos HF.out]; rfl)
      have HQ := hid (show q < K l0 b0 by rw [← HKK.out]; omega)
      go_enter Try.func65, Try.ntmps65
      rw [hw1] at HALL g0 g1 g2 g3 g4
      go_wp2_with (first
        | (go_at_call 61; refine HALL.out.mono ?_; rintro e w2 ⟨rfl, hm, hg⟩; rw [← HKK.out]; rw [← hw1] at hg; have HM2 := hid hm; have HG2 := hid hg; have c0 := hg.cell (by rw [hw1]; exact g0) (by simp; omega); have c1 := hg.cell (by rw [hw1]; exact g1) (by simp; omega); have c2 := hg.cell (by rw [hw1]; exact g2) (by simp; omega); have c3 := hg.cell (by rw [hw1]; exact g3) (by simp; omega); have c4 := hg.cell (by rw [hw1]; exact g4) (by simp; omega); clear hm hg)
        | fail)
      rw [← hw1] at HALL g0 g1 g2 g3 g4
      have hdec : decide (kk ≤ q) = false := decide_eq_false (by omega)
      rw [hdec]
      clear hdec
      obtain ⟨M2, hm2, hk2⟩ := HM2.out
      have hr0 := rs_row w2 l0 b0
      have HR0 := hid hr0
      have HM3 := hid (hm2.alloc (rsObj l0 b0))
      have HK2 := hid hk2
      have HG3 := hid (show w2.grownBy (w2.alloc (rsObj l0 b0)) (some (B + 4)) from World.grownBy_alloc _ _ _)
      have HE2 := hid (HE.out.kept HG2.out)
      have C0 := hid c0
      have C1 := hid c1
      have C2 := hid c2
      have C3 := hid c3
      have C4 := hid c4
      have hs2 : w.heap.size + 1 ≤ w2.heap.size := by have h1 := HG2.out.size; have h2 := HS1.out; omega
      obtain ⟨i0, hi, hz0, hz1, hz2⟩ := info_parts Try.info3
      have HTL := hid (atS_len ch nl nb K l0 l0 b0 q)
      have hl1 := hl24.1
      clear hr0 hm2 hk2 c0 c1 c2 c3 c4 hneg hge hw1 HALL g0 g1 g2 g3 g4
      go_loopw [1, 6] (fun rk v wr => ∃ (fu l b q' : Nat) (M : DataW Unit) (ls : List Int), l ≤ fu ∧ rk = .int .i64 (q' : Int) ∧ D l b ∧ q' < K l b ∧ Own wr (w2.heap.size + 1) v ls ∧ ls ++ atS ch nl nb K fu l b q' = atS ch nl nb K l0 l0 b0 q ∧
        wr.rowIs w2.heap.size 44 2 (rvF l b) ∧ wr.ownsMap Try.prog 44 (plainElem (H := Unit) Try.prog 3) (B + 4) 625 M ∧ KInv K M ∧ w2.grownBy wr (some (B + 4)) ∧ w2.heap.size + 1 ≤ wr.heap.size) (fun _ _ wr => cellN wr ⟨w2.heap.size, 0, none⟩)
      case atStart => exact ⟨l0, l0, b0, q, M2, [], Nat.le_refl _, rfl, HD.out, HQ.out, Own.nil _ _, rfl, HR0.out, HM3.out, HK2.out, HG3.out, by simp⟩
      case round =>
        obtain ⟨fu, l, b, q', M3, ls, hfu, rfl, hd, hq, hown, hls, hrow, hm, hki, hg, hsz⟩ := hrel
        have r0 := hrow.cell (i := 0) (by omega)
        have r1 := hrow.cell (i := 1) (by omega)
        simp only [rvF, if_pos, Nat.one_ne_zero, if_false] at r0 r1
        have HROW := hid hrow
        have HMR := hid hm
        have HKR := hid hki
        have HGR := hid hg
        have HDD := hid hd
        have HLS := hid hls
        have hcn := cellN_of r0
        by_cases hl0 : l = 0
        · subst hl0
          have HLE := hid (show ls = atS ch nl nb K l0 l0 b0 q by
            have h := HLS.out
            cases fu with
            | zero => simpa [atS] using h
            | succ f => simpa [atS] using h)
          have HOW := hid hown
          clear hown hd hq hls hrow hm hki hg hcn
          go_wp2_with (first
            | (go_at_call 87; refine (ended_any _ _ _ _ HOW.out).mono ?_; rintro e w4 ⟨u, rfl, ho, _, rfl⟩; have HO := hid ho; clear ho)
            | fail)
          go_ret2
          exact ⟨_, ret_sb6 HF.out.symm, by rw [HR.out, ← HLE.out]; exact HO.out.mono (by omega), ⟨_, HMR.out, HKR.out⟩, grownBy_trans HG1.out (grownBy_trans HG2.out HGR.out)⟩
        · have h0 : (0 : Int) < (l : Int) := by omega
          obtain ⟨f, rfl⟩ : ∃ f, fu = f + 1 := ⟨fu - 1, by omega⟩
          have HCA := hid (choiceAtB_any S K C B l b q' l0 b0 wr hd hl0 (HE2.out.kept hg) ⟨M3, hm, hki⟩ hq)
          have hpk := pkS_ok (fun y => K (nl l b y) (nb l b y)) (ch l b) q' (by rw [← C.step l b hd hl0]; exact hq)
          rw [atS, if_neg hl0] at hls
          have c0 := hg.cell C0.out (by simp; omega)
          have c1 := hg.cell C1.out (by simp; omega)
          have c2 := hg.cell C2.out (by simp; omega)
          have c3 := hg.cell C3.out (by simp; omega)
          have c4 := hg.cell C4.out (by simp; omega)
          obtain ⟨p, hp⟩ : ∃ p, p = pkS (fun y => K (nl l b y) (nb l b y)) (ch l b) q' := ⟨_, rfl⟩
          rw [← hp] at HCA hpk
          simp only [← hp] at hls
          obtain ⟨x, q2⟩ := p
          have HBH := hid (fun W => S.behind l b x W HDD.out hl0 hpk.1)
          have HDN := hid (S.dom l b x HDD.out hl0 hpk.1)
          have HLN := hid (C.less l b x HDD.out hl0 hpk.1)
          have HQN := hid hpk.2
          have HLSN := hid (show (ls ++ [x]) ++ atS ch nl nb K f (nl l b x) (nb l b x) q2 = atS ch nl nb K l0 l0 b0 q by rw [List.append_assoc]; exact hls)
          have hlen : ls.length ≤ 24 := by
            have h1 := congrArg List.length HLSN.out
            have h2 := HTL.out
            simp at h1; omega
          have HIR := hid hown.row
          clear hown hd hq hls hrow hm hki hg hp hpk
          go_wp2_with (first
            | (go_at_call 89; refine HCA.out.mono ?_; rintro e w4 ⟨rfl, hm4, hg4⟩; have HM4 := hid hm4; have HG4 := hid hg4; have d0 := hg4.cell r0 (by simp; omega); have d1 := hg4.cell r1 (by simp; omega); have d3 := hg4.cell c3 (by simp; omega); have hs4 := hg4.size; have HIR4 := hid (HIR.out.kept hg4 (.inr (fun e => by have := World.ownsRow.lt HIR.out (B + 4) e; omega))); clear hm4 hg4 c0 c1 c2 c3 c4 r0 r1)
            | (at_builtin; refine wpList_append_own _ rfl _ _ 22 rfl (w2.heap.size + 1) 3 i0 (.int .i64 0) 1 8 Try.underlying22 hi hz0 hz1 hz2 rfl (by decide) _ _ _ rfl (World.ownsRow.alloc HIR4.out _) ⟨w4.heap.size, 0, none⟩ 1 1 [.int .i64 x] rfl rfl (fun j u hj => new_cell1 j hj) (one_cell _ _) (by unfold maxLen; omega) (by omega) (by (try simp); omega) ?_; intro v' w5 hown5 hgrow5 _; have HO5 := hid hown5; have HG5 := hid hgrow5; have E := hid (own_ne3 HIR4.out (at_alloc d0 _) (at_alloc d1 _) (at_alloc d3 _) hgrow5 (Nat.le_refl _) (by omega)); obtain ⟨e0, e1, e3⟩ := E.out; clear hown5 hgrow5 d0 d1 d3)
            | (with_reducible refine (HBH.out _).mono ?_; rintro e w6 ⟨rfl, hb6⟩; have HB6 := hid hb6; have HR6 := hid ((rowIs_kept6 ((rowIs_kept6 HROW.out HG4.out (by simp; omega)).alloc_old _) HG5.out (own_ne HIR4.out (Nat.le_refl _))).of_block (hb6.block _ (World.block_lt_of_cell? _ _ e0))); have f0 := HR6.out.cell (i := 0) (by omega); have f1 := HR6.out.cell (i := 1) (by omega); have z0 := HR6.out.frozen 0; have z1 := HR6.out.frozen 1; clear hb6)
            | fail)
          obtain ⟨M4, hm4, hk4⟩ := HM4.out
          have HM6 := hid (((ownsMap_below6 ((hm4.alloc (.cells #[.int .i64 x] 3)).kept HG5.out (own_ne HIR4.out (by omega))) HB6.out).setCell (a := ⟨w2.heap.size, 0, none⟩) (by show B + 4 ≠ w2.heap.size; omega) (.int .i64 (nl l b x : Int))).setCell (a := ⟨w2.heap.size, 1, none⟩) (by show B + 4 ≠ w2.heap.size; omega) (.int .i64 (nb l b x : Int)))
          have HK4 := hid hk4
          have ho6 := (Own.snoc HO5.out).below HB6.out
          have hne : ∀ W : World, Own W (w2.heap.size + 1) v' (ls ++ [x]) → v'.ownBlock ≠ some w2.heap.size := fun W h e => by
            have := (World.ownsRow.lt h _ e).1
            omega
          have HO6 := hid ((ho6.kept (grownBy_set6 w6 w2.heap.size 0 (.int .i64 (nl l b x : Int))) (.inr (hne _ ho6))).kept (grownBy_set6 (w6.setCell ⟨w2.heap.size, 0, none⟩ (.int .i64 (nl l b x : Int))) w2.heap.size 1 (.int .i64 (nb l b x : Int))) (.inr (hne _ ho6)))
          have hg6 := grownBy_trans (grown_own (grownBy_trans HGR.out HG4.out) (grownBy_trans (World.grownBy_alloc w4 (.cells #[.int .i64 x] 3) _) HG5.out) (fun k hk => by have := (World.ownsRow.lt HIR4.out k hk).1; omega)) (grown_of_below HB6.out _)
          have HG6 := hid (grown_setCell6 (g := w2.heap.size) (i := 1) (v := .int .i64 (nb l b x : Int)) (grown_setCell6 (g := w2.heap.size) (i := 0) (v := .int .i64 (nl l b x : Int)) hg6 (Nat.le_refl _)) (Nat.le_refl _))
          have HR7 := hid (rv_set HR6.out (nl l b x : Int) (nb l b x : Int))
          have hc7 := HR7.out.cell (i := 0) (by omega)
          have HC7 := hid (cellN_of hc7)
          have HL := hid HLN.out
          have hs6 := HB6.out.size
          have hs5 := HG5.out.size
          have hs5' : w4.heap.size ≤ (w4.alloc (.cells #[.int .i64 x] 3)).heap.size := by simp
          have HSZ := hid (show w2.heap.size + 1 ≤ w6.heap.size by omega)
          clear hm4 hk4 ho6 hne hg6 hc7 e0 e1 e3 f0 f1 z0 z1 hs6 hs5 hs5'
          go_roundw
          case rel => exact ⟨f, nl l b x, nb l b x, q2, M4, ls ++ [x], by have := HL.out; omega, rfl, HDN.out, HQN.out, HO6.out, HLSN.out, HR7.out, HM6.out, HK4.out, HG6.out, by simpa using HSZ.out⟩
          case measure => rw [hcn]; rw [HC7.out]; exact HL.out
end Go.Proofs.Ytakelcboamjndaa
