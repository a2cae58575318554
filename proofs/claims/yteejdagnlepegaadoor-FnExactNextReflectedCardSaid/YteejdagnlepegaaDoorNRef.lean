/- Contracts: both NextReflected functions. Conditions: the table of math/bits holds what the program's text lays. -/
import Derived.Test.YteejdagnlepegaaDoorRefl
import Derived.Test.YteejdagnlepegaaDoorCBit
namespace Go.Proofs.YteejdagnlepegaaDoor
open Go.RowKit
set_option linter.unusedVariables false

def nrB (n x : Int) : Bool := bitWordB n x && decide (rkTo x.toNat n.toNat + 1 < 2 ^ n.toNat)
def nrV (n x : Int) : Int := if nrB n x = true then (gray (rkTo x.toNat n.toNat + 1) : Int) else 0
def nrW (n x : Int) : Int := if nrB n x = true then bitD (x.toNat ^^^ gray (rkTo x.toNat n.toNat + 1)) else 0
theorem nr_yes {n x : Int} (h : nrB n x = true) : nrV n x = (gray (rkTo x.toNat n.toNat + 1) : Int) ∧ nrW n x = bitD (x.toNat ^^^ gray (rkTo x.toNat n.toNat + 1)) := by
  unfold nrV nrW; rw [if_pos h, if_pos h]; exact ⟨rfl, rfl⟩
theorem nr_no {n x : Int} (h : nrB n x = false) : nrV n x = 0 ∧ nrW n x = 0 := by
  unfold nrV nrW; rw [if_neg (by rw [h]; simp), if_neg (by rw [h]; simp)]; exact ⟨rfl, rfl⟩
set_option maxRecDepth 100000 in
theorem gray_next : ∀ r, r < 1023 → 0 ≤ bitD (gray r ^^^ gray (r + 1)) := by decide +kernel
theorem ret_nnb9 {a b a' b' : Int} {c d : Bool} (h : a = b) (h0 : a' = b') (h' : c = d) : Ending.returned (.tuple #[.int .i64 a, .int .i64 a', .bool c]) = .returned (.tuple #[.int .i64 b, .int .i64 b', .bool d]) := by rw [h, h', h0]
theorem spec_NextReflected_any (n x : Int) (w : World) (_wn : (Lit.int .i64 n).wf = true) (_wr : (Lit.int .i64 x).wf = true) (_ht : TZ w) :
    Calls Tryd.prog 26 #[.int .i64 n, .int .i64 x] w fun e w' => e = .returned (.tuple #[.int .i64 (nrV n x), .int .i64 (nrW n x), .bool (nrB n x)]) ∧ Below w.heap.size w w' := by
  by_cases h0 : inB n 1 10 = true
  · have HIN := hid h0
    by_cases h1 : wordB n x = true
    · have hbw : bitWordB n x = true := by rw [bitWordB, h0, h1]; rfl
      have HBW := hid hbw
      obtain ⟨_, m, y, rfl, rfl, hm1, hm2, hy, hy2⟩ := bitWordB_nat hbw
      have HY := hid (gray_place hm2 hy)
      have HRK := hid (gray_rk m (by omega) y hy)
      obtain ⟨r, hr⟩ : ∃ r, r = rkTo y m := ⟨_, rfl⟩
      have hr2 : r < 2 ^ m := by rw [hr]; exact HRK.out.2
      obtain ⟨p, hp⟩ : ∃ p, p = 2 ^ m := ⟨_, rfl⟩
      have hp1 : p ≤ 1024 := by rw [hp]; exact pow_le_1024 m (by omega)
      rw [← hp] at hr2
      have HR := hid hr
      have HP := hid hp
      have HLG := hid (show (grayL m).length = p by rw [grayL_length, hp])
      have w1 : IntKind.i64.wrap ((r : Int) + 1) = (r : Int) + 1 := IntWalk.i64_in _ (by omega)
      by_cases hlast : r + 1 < p
      · have HF : Hid (nrB (m : Int) (y : Int) = true) := by
          show nrB _ _ = true
          unfold nrB
          rw [hbw, Bool.true_and]
          have : rkTo y m + 1 < 2 ^ m := by rw [← hr, ← hp]; exact hlast
          simpa using this
        have HV : Hid (nrV (m : Int) (y : Int) = (gray (r + 1) : Int) ∧ nrW (m : Int) (y : Int) = bitD (y ^^^ gray (r + 1))) := by
          show _ ∧ _
          rw [(nr_yes HF.out).1, (nr_yes HF.out).2, hr]; exact ⟨rfl, rfl⟩
        have hg : gray (r + 1) < 1024 := by
          have := gray_lt m (by omega) (r + 1) (by rw [← hp]; exact hlast)
          rw [← hp] at this; omega
        have hbb : ((r : Int) + 1 == (p : Int)) = false := by simp; omega
        have q1 : (0 : Int) ≤ (r : Int) + 1 := by omega
        have q2 : (r : Int) + 1 < (p : Int) := by omega
        have q3 : ((r : Int) + 1).toNat = r + 1 := by omega
        clear hy hr hp
        go_enter Tryd.func26, Tryd.ntmps26
        go_wp2_with (first | (go_at_call 42; refine (gcBits_any _ _).mono ?_; rintro e w' ⟨rfl, rfl⟩) | (go_at_call 43; refine (gcWord_any _ _ _ HIN.out).mono ?_; rintro e w' ⟨rfl, rfl⟩) | fail)
        refine (gcList_any m _ hm2).mono ?_
        rintro e w1 ⟨u, rfl, hou, hb1⟩
        obtain ⟨s1, s2, s3⟩ := HY.out
        rcases hou.form with ⟨_, h2⟩ | ⟨g, cap, rfl, hgg, hlt, hc1, hmx, hcell, _⟩
        · exact absurd h2 (grayL_ne m)
        · have HS := hid hou.sits
          have hcx : w1.cell? ⟨g, r + 1, none⟩ = some (.int .i64 (gray (r + 1) : Int)) := by
            have := hcell (r + 1) (by rw [HLG.out]; exact hlast)
            rw [Nat.zero_add, grayL_getD (by rw [← HP.out]; exact hlast)] at this
            exact this
          have HPL : Hid (∀ v, Sits w1 v (grayL m) → Calls Tryd.prog 45 #[v, .int .i64 (y : Int)] w1 fun e w' => e = .returned (.int .i64 (r : Int)) ∧ w1 = w') := by
            show ∀ _ _, _
            intro v hv
            rw [HR.out]
            exact gcPlace_at v (grayL m) (y : Int) (rkTo y m) w1 hv s1 s2 s3
          rw [HLG.out] at HS hc1 ⊢
          clear hcell hou
          obtain ⟨w1o, rfl⟩ : ∃ w1o : World, w1o = w1 := ⟨_, rfl⟩
          go_wp2_with (first | (go_at_call 45; refine (HPL.out _ HS.out).mono ?_; rintro e w' ⟨rfl, rfl⟩) | fail)
          go_quiet ((first | (go_at_call 46; exact Calls.quiet_of_same ((gcBit_any y (gray (r + 1)) _ hy2 hg).mono fun _ _ h => ⟨h.1, h.2.symm⟩))))
          go_wp2_with fail
          go_ret3
          exact ⟨ret_nnb9 HV.out.1.symm HV.out.2.symm HF.out.symm, below_drewN hb1 _⟩
      · have HF : Hid (nrB (m : Int) (y : Int) = false) := by
          show nrB _ _ = false
          unfold nrB
          rw [hbw, Bool.true_and]
          have : ¬ rkTo y m + 1 < 2 ^ m := by rw [← hr, ← hp]; exact hlast
          simpa using this
        have HV := hid (nr_no HF.out)
        have hbb : ((r : Int) + 1 == (p : Int)) = true := by simp; omega
        clear hy hr hp
        go_enter Tryd.func26, Tryd.ntmps26
        go_wp2_with (first | (go_at_call 42; refine (gcBits_any _ _).mono ?_; rintro e w' ⟨rfl, rfl⟩) | (go_at_call 43; refine (gcWord_any _ _ _ HIN.out).mono ?_; rintro e w' ⟨rfl, rfl⟩) | fail)
        refine (gcList_any m _ hm2).mono ?_
        rintro e w1 ⟨u, rfl, hou, hb1⟩
        obtain ⟨s1, s2, s3⟩ := HY.out
        rcases hou.form with ⟨_, h2⟩ | ⟨g, cap, rfl, hgg, hlt, hc1, hmx, hcell, _⟩
        · exact absurd h2 (grayL_ne m)
        · have HS := hid hou.sits
          have HPL : Hid (∀ v, Sits w1 v (grayL m) → Calls Tryd.prog 45 #[v, .int .i64 (y : Int)] w1 fun e w' => e = .returned (.int .i64 (r : Int)) ∧ w1 = w') := by
            show ∀ _ _, _
            intro v hv
            rw [HR.out]
            exact gcPlace_at v (grayL m) (y : Int) (rkTo y m) w1 hv s1 s2 s3
          rw [HLG.out] at HS hc1 ⊢
          clear hcell hou
          go_wp2_with (first | (go_at_call 45; refine (HPL.out _ HS.out).mono ?_; rintro e w' ⟨rfl, rfl⟩) | fail)
          go_ret3
          exact ⟨ret_nnb9 HV.out.1.symm HV.out.2.symm HF.out.symm, hb1⟩
    · have h1 : wordB n x = false := by simpa using h1
      have HF : Hid (nrB n x = false) := by show _ = _; simp [nrB, bitWordB, h1]
      have HV := hid (nr_no HF.out)
      go_enter Tryd.func26, Tryd.ntmps26
      go_wp2_with (first | (go_at_call 42; refine (gcBits_any _ _).mono ?_; rintro e w' ⟨rfl, rfl⟩) | (go_at_call 43; refine (gcWord_any _ _ _ HIN.out).mono ?_; rintro e w' ⟨rfl, rfl⟩) | fail)
      go_ret3
      exact ⟨ret_nnb9 HV.out.1.symm HV.out.2.symm HF.out.symm, Below.refl _ _⟩
  · have h0 : inB n 1 10 = false := by simpa using h0
    have HF : Hid (nrB n x = false) := by show _ = _; simp [nrB, bitWordB, h0]
    have HV := hid (nr_no HF.out)
    go_enter Tryd.func26, Tryd.ntmps26
    go_wp2_with (first | (go_at_call 42; refine (gcBits_any _ _).mono ?_; rintro e w' ⟨rfl, rfl⟩) | fail)
    go_ret3
    exact ⟨ret_nnb9 HV.out.1.symm HV.out.2.symm HF.out.symm, Below.refl _ _⟩
theorem impl_NextReflected_any (n x : Int) (w : World) (_wn : (Lit.int .i64 n).wf = true) (_wr : (Lit.int .i64 x).wf = true) (ht : TZ w) :
    Calls Tryd.prog 27 #[.int .i64 n, .int .i64 x] w fun e w' => e = .returned (.tuple #[.int .i64 (nrV n x), .int .i64 (nrW n x), .bool (nrB n x)]) ∧ Below w.heap.size w w' := by
  have HT := hid ht
  clear ht
  by_cases hbw : bitWordB n x = true
  · have HV0 := hid (rrV_yes hbw)
    have HBW := hid hbw
    have _wn' := _wn
    have _wr' := _wr
    obtain ⟨_, m, y, rfl, rfl, hm1, hm2, hy, hy2⟩ := bitWordB_nat hbw
    have HRK := hid (gray_rk m (by omega) y hy)
    obtain ⟨r, hr⟩ : ∃ r, r = rkTo y m := ⟨_, rfl⟩
    have hr2 : r < 2 ^ m := by rw [hr]; exact HRK.out.2
    obtain ⟨p, hp⟩ : ∃ p, p = 2 ^ m := ⟨_, rfl⟩
    have hp1 : p ≤ 1024 := by rw [hp]; exact pow_le_1024 m (by omega)
    have hp0 : 1 ≤ p := by rw [hp]; exact Nat.two_pow_pos m
    rw [← hp] at hr2
    have HR := hid hr
    have HV1 : Hid (rrV (m : Int) (y : Int) = (r : Int)) := by show _ = _; rw [HV0.out, hr]; rfl
    have w1 : IntKind.i64.wrap ((r : Int) + 1) = (r : Int) + 1 := IntWalk.i64_in _ (by omega)
    have w2 : IntKind.i64.wrap (2 ^ m) = (p : Int) := by rw [← pow_int, ← hp]; exact IntWalk.i64_in _ (by omega)
    have w3 : IntKind.i64.wrap ((p : Int) - 1) = (p : Int) - 1 := IntWalk.i64_in _ (by omega)
    have hm64 : min m 64 = m := by omega
    by_cases hlast : r + 1 < p
    · have HF : Hid (nrB (m : Int) (y : Int) = true) := by
        show nrB _ _ = true
        unfold nrB
        rw [hbw, Bool.true_and]
        have : rkTo y m + 1 < 2 ^ m := by rw [← hr, ← hp]; exact hlast
        simpa using this
      have HV : Hid (nrV (m : Int) (y : Int) = (gray (r + 1) : Int) ∧ nrW (m : Int) (y : Int) = bitD (y ^^^ gray (r + 1))) := by
        show _ ∧ _
        rw [(nr_yes HF.out).1, (nr_yes HF.out).2, hr]; exact ⟨rfl, rfl⟩
      have hg : gray (r + 1) < 1024 := by
        have := gray_lt m (by omega) (r + 1) (by rw [← hp]; exact hlast)
        rw [← hp] at this; omega
      have hge : 0 ≤ bitD (y ^^^ gray (r + 1)) := by
        have := gray_next r (by omega)
        rw [hr, HRK.out.1, ← hr] at this
        exact this
      have HCV : Hid (cbV (y ^^^ gray (r + 1)) = bitD (y ^^^ gray (r + 1)) ∧ cbB (y ^^^ gray (r + 1)) = true) := by
        show _ ∧ _
        unfold cbV cbB
        rw [if_pos hge, decide_eq_true hge]; exact ⟨rfl, rfl⟩
      have hbb : ((r : Int) == (p : Int) - 1) = false := by simp; omega
      have HRF : Hid (∀ w, Calls Tryd.prog 48 #[.int .i64 ((r : Int) + 1)] w fun e w' => e = .returned (.int .i64 (gray (r + 1) : Int)) ∧ w = w') := by
        show ∀ _, _
        intro w
        exact reflected_any (r + 1) w (by omega)
      clear hy hr hp hbw hge
      go_enter Tryd.func27, Tryd.ntmps27
      go_wp2_with (first
        | (go_at_call 47; refine (impl_ReflectedRank_any _ _ _ _wn' _wr').mono ?_; rintro e w1 ⟨rfl, hb1⟩; rw [HV1.out, HBW.out]; have HB1 := hid hb1; clear hb1)
        | (go_at_call 48; refine (HRF.out _).mono ?_; rintro e w' ⟨rfl, rfl⟩)
        | (go_at_call 49; refine (changedBit_any y (gray (r + 1)) _ hy2 hg (HT.out.below HB1.out)).mono ?_; rintro e w' ⟨rfl, rfl⟩; rw [HCV.out.1, HCV.out.2])
        | fail)
      go_ret3
      exact ⟨ret_nnb9 HV.out.1.symm HV.out.2.symm HF.out.symm, HB1.out⟩
    · have HF : Hid (nrB (m : Int) (y : Int) = false) := by
        show nrB _ _ = false
        unfold nrB
        rw [hbw, Bool.true_and]
        have : ¬ rkTo y m + 1 < 2 ^ m := by rw [← hr, ← hp]; exact hlast
        simpa using this
      have HV := hid (nr_no HF.out)
      have hbb : ((r : Int) == (p : Int) - 1) = true := by simp; omega
      clear hy hr hp hbw
      go_enter Tryd.func27, Tryd.ntmps27
      go_wp2_with (first
        | (go_at_call 47; refine (impl_ReflectedRank_any _ _ _ _wn' _wr').mono ?_; rintro e w1 ⟨rfl, hb1⟩; rw [HV1.out, HBW.out]; have HB1 := hid hb1; clear hb1)
        | fail)
      go_ret3
      exact ⟨ret_nnb9 HV.out.1.symm HV.out.2.symm HF.out.symm, HB1.out⟩
  · have hbw : bitWordB n x = false := by simpa using hbw
    have HV0 := hid (rrV_no hbw)
    have HBW := hid hbw
    have HF : Hid (nrB n x = false) := by show _ = _; simp [nrB, hbw]
    have HV := hid (nr_no HF.out)
    have _wn' := _wn
    have _wr' := _wr
    clear hbw
    go_enter Tryd.func27, Tryd.ntmps27
    go_wp2_with (first
      | (go_at_call 47; refine (impl_ReflectedRank_any _ _ _ _wn' _wr').mono ?_; rintro e w1 ⟨rfl, hb1⟩; rw [HV0.out, HBW.out]; have HB1 := hid hb1; clear hb1)
      | fail)
    go_ret3
    exact ⟨ret_nnb9 HV.out.1.symm HV.out.2.symm HF.out.symm, HB1.out⟩
end Go.Proofs.YteejdagnlepegaaDoor
