/- Contracts: spPartedWith, both PartedWith. Conditions: ints in their range. -/
import Derived.Test.YtakelcboamjndabPt3
import Derived.Test.YtakelcboamjndabBs2
namespace Go.Proofs.Ytakelcboamjndab
open Go.RowKit Go.Maps
set_option linter.unusedVariables false
set_option maxRecDepth 4000

theorem size_alloc6 (w : World) (o : Obj) : w.heap.size ≤ (w.alloc o).heap.size := by simp
theorem own_none {u : Value} {w : World} {xs : List Int} (h : u = .slice none 0 0 ∧ xs = []) : OwnE w w.heap.size u xs := .inl h
set_option maxHeartbeats 1000000 in
theorem spPartedWith_any (n : Nat) : ∀ (f b r : Nat) (w : World), n ≤ f → f ≤ 20 → b ≤ 20 → r < ptK n b →
    Calls Try.prog 67 #[.int .i64 (n : Int), .int .i64 (b : Int), .int .i64 (r : Int)] w fun e w' => ∃ u, e = .returned u ∧ Own w' w.heap.size u (atS ptCh ptNl ptNb ptK f n b r) ∧ Below w.heap.size w w' := by
  induction n using Nat.strongRecOn with
  | _ n ih =>
    intro f b r w hf hf20 hb hr
    have hn : n ≤ 20 := by omega
    by_cases h0 : n = 0
    · subst h0
      have HE := hid (show atS ptCh ptNl ptNb ptK f 0 b r = [] by
        cases f with
        | zero => rfl
        | succ f => rw [atS, if_pos rfl])
      clear ih
      go_enter Try.func67, Try.ntmps67
      go_wp2_with fail
      go_ret
      exact ⟨_, rfl, by rw [HE.out]; exact Own.nil _ _, Below.refl _ _⟩
    · obtain ⟨f, rfl⟩ : ∃ g, f = g + 1 := ⟨f - 1, by omega⟩
      have hd : ptD n b := ⟨hn, hb⟩
      have hsum : r < sumL (fun y => ptK (ptNl n b y) (ptNb n b y)) (ptCh n b) := by rw [← ptCntC.step n b hd h0]; exact hr
      have HPK := hid (pkS_ok (fun y => ptK (ptNl n b y) (ptNb n b y)) (ptCh n b) r hsum)
      obtain ⟨p, hp⟩ : ∃ p, p = pkS (fun y => ptK (ptNl n b y) (ptNb n b y)) (ptCh n b) r := ⟨_, rfl⟩
      have HE := hid (show atS ptCh ptNl ptNb ptK (f + 1) n b r = p.1 :: atS ptCh ptNl ptNb ptK f (ptNl n b p.1) (ptNb n b p.1) p.2 by rw [atS, if_neg h0, hp])
      rw [← hp] at HPK
      have HP := hid hp
      have HSUM := hid hsum
      have HMN := hid (show min (n : Int) (b : Int) = ((min n b : Nat) : Int) by omega)
      obtain ⟨mn, hmn⟩ : ∃ mn, mn = min n b := ⟨_, rfl⟩
      have hch : ptCh n b = fall mn := by unfold ptCh; rw [hmn]
      rw [← hmn] at HMN
      rw [hch] at HPK HP HSUM
      have hm1 : 1 ≤ mn ∨ mn = 0 := by omega
      have hmn1 : mn ≤ n := by omega
      have hmn2 : mn ≤ b := by omega
      have e0 : ((n : Int) == 0) = false := by simp; omega
      have HIH := hid (fun (x r' : Nat) (W : World) (h1 : 1 ≤ x) (h2 : x ≤ mn) (h3 : r' < ptK (n - x) x) => ih (n - x) (by omega) f x r' W (by omega) (by omega) (by omega) h3)
      have HF2 := hid hf20
      obtain ⟨i0, hi, hz0, hz1, hz2⟩ := info_parts Try.info3
      have HR4 := hid (show r ≤ 4000000 by have h1 : ptK n b ≤ 4000000 := pq_small (by omega); omega)
      clear ih hr hsum hp hmn hch hd hf hf20
      go_enter Try.func67, Try.ntmps67
      go_wp2_with (first | (go_at_call 70; refine (l1Least_any _ _ _).mono ?_; rintro e w' ⟨rfl, rfl⟩; rw [HMN.out]) | fail)
      go_loopw [2, 7] (fun q x wr => ∃ j r' : Nat, q = .int .i64 (r' : Int) ∧ x = .int .i64 ((mn - j : Nat) : Int) ∧ j ≤ mn ∧ pkS (fun y => ptK (ptNl n b y) (ptNb n b y)) ((fall mn).drop j) r' = p ∧ r' < sumL (fun y => ptK (ptNl n b y) (ptNb n b y)) ((fall mn).drop j) ∧ r' ≤ 4000000 ∧ Below w.heap.size w wr) (fun _ x _ => (intOf x).toNat)
      case atStart => exact ⟨0, r, rfl, rfl, Nat.zero_le _, HP.out.symm, HSUM.out, HR4.out, Below.refl _ _⟩
      case round =>
        obtain ⟨j, r', rfl, rfl, hj, hpk, hrs, hr4, hbel⟩ := hrel
        have hj2 : j < mn := by
          rcases Nat.lt_or_ge j mn with h | h
          · exact h
          · rw [List.drop_eq_nil_of_le (by rw [fall_length]; omega), sumL] at hrs
            omega
        have hjl : j < (fall mn).length := by rw [fall_length]; exact hj2
        rw [pkS_drop _ hjl, fall_get hjl] at hpk
        rw [sumL_drop _ hjl, fall_get hjl] at hrs
        obtain ⟨z, hz⟩ : ∃ z, z = mn - j := ⟨_, rfl⟩
        rw [← hz] at hpk hrs ⊢
        have hf1 : ptK (ptNl n b (z : Int)) (ptNb n b (z : Int)) = pq z (n - z) := rfl
        rw [hf1] at hpk hrs
        have HCN := hid (fun W => spCount_any (n - z) z W (by omega) (by omega))
        have HK := hid (show ptK (n - z) z = pq z (n - z) from rfl)
        obtain ⟨c1, hc1'⟩ : ∃ c1, c1 = pq z (n - z) := ⟨_, rfl⟩
        have hcs : pq z (n - z) ≤ 4000000 := pq_small (by omega)
        rw [← hc1'] at HCN hpk hrs HK hcs
        obtain ⟨lz, hlz⟩ : ∃ lz, lz = n - z := ⟨_, rfl⟩
        rw [← hlz] at HCN HK
        have u1 : IntKind.i64.wrap ((n : Int) - (z : Int)) = (lz : Int) := by rw [IntWalk.i64_in _ (by omega)]; omega
        have u2 : (n : Int) - (z : Int) = (lz : Int) := by omega
        have HBW := hid hbel
        have hzA : 1 ≤ z := by omega
        have hzB : z ≤ mn := by omega
        by_cases hlt : r' < c1
        · have hltI : ¬ ((c1 : Int) ≤ (r' : Int)) := by omega
          rw [if_pos hlt] at hpk
          have HRES := hid (show (z : Int) :: atS ptCh ptNl ptNb ptK f lz z r' = atS ptCh ptNl ptNb ptK (f + 1) n b r by rw [HE.out, ← hpk, hlz]; rfl)
          have HREC := hid (fun W => HIH.out z r' W hzA hzB (by rw [← hlz, HK.out]; exact hlt))
          rw [← hlz] at HREC
          have HTL6 := hid (show (atS ptCh ptNl ptNb ptK f lz z r').length ≤ 1000 by have := atS_len ptCh ptNl ptNb ptK f lz z r'; have := HF2.out; omega)
          obtain ⟨T, hT⟩ : ∃ T, T = atS ptCh ptNl ptNb ptK f lz z r' := ⟨_, rfl⟩
          rw [← hT] at HRES HREC HTL6
          clear hpk hrs hbel hc1' hlz hz hf1 hT hlt
          have HL6 := hid (show [(z : Int)].length + T.length ≤ 1048576 by
            have := HTL6.out
            rw [List.length_singleton]; omega)
          go_wp2_with (first
            | (go_at_call 65; refine (HCN.out _).mono ?_; rintro e w2 ⟨rfl, hb2⟩; have hx2 := Below_chain HBW.out hb2; clear HBW hb2; have HBW := hid hx2; clear hx2)
            | (go_at_call 67; refine (HREC.out _).mono ?_; rintro e w3 ⟨u3, rfl, ho3, hb3⟩; have HO3 := hid ho3; have HLIT := hid ((Own.lit1 w2 (z : Int)).below hb3); have HB3 := hid (Below_chain (HBW.out.alloc HBW.out.size _) hb3); have HS3 := hid (Nat.le_trans (size_alloc6 w2 _) hb3.size); clear ho3 hb3)
            | (at_builtin; refine wpList_append_src _ rfl _ _ 22 rfl w2.heap.size i0 Try.underlying22 hi hz0 hz1 hz2 (.slice (some ⟨w2.heap.size, 0, none⟩) 1 1) [(z : Int)] rfl HLIT.out u3 _ T rfl HO3.out HL6.out HS3.out ?_; intro v' w5 hown5 hgrow5; have HO5 := hid (hown5.mono HBW.out.size); have HB5 := hid (HB3.out.grown hgrow5 HB3.out.size (fun k hk => by cases hk; exact HBW.out.size)); clear hown5 hgrow5)
            | fail)
          go_ret
          exact ⟨_, rfl, by rw [← HRES.out]; exact HO5.out, HB5.out⟩
        · have hltI : (c1 : Int) ≤ (r' : Int) := by omega
          rw [if_neg hlt] at hpk
          have HPN := hid hpk
          have HRN := hid (show r' - c1 < sumL (fun y => ptK (ptNl n b y) (ptNb n b y)) ((fall mn).drop (j + 1)) by omega)
          have u3 : IntKind.i64.wrap ((r' : Int) - (c1 : Int)) = ((r' - c1 : Nat) : Int) := by rw [IntWalk.i64_in _ (by omega)]; omega
          have u4 : (r' : Int) - (c1 : Int) = ((r' - c1 : Nat) : Int) := by omega
          have HZ := hid (show ((z : Nat) : Int) - 1 = ((mn - (j + 1) : Nat) : Int) by omega)
          have HZT := hid (show ((mn - (j + 1) : Nat) : Int).toNat < z by omega)
          clear hpk hrs hbel hc1' hlz hz hf1
          go_wp2_with (first | (go_at_call 65; refine (HCN.out _).mono ?_; rintro e w2 ⟨rfl, hb2⟩; have hx2 := Below_chain HBW.out hb2; clear HBW hb2; have HBW := hid hx2; clear hx2) | fail)
          go_roundw
          case rel => exact ⟨j + 1, r' - c1, by first | rfl | (refine congrArg (Value.int IntKind.i64) ?_; omega), by rw [← HZ.out], by omega, HPN.out, HRN.out, by omega, HBW.out⟩
          case measure => simp only [intOf]; have h1 := HZ.out; have h2 := HZT.out; simp; omega
def pwB (n r : Int) : Bool := inB n 0 20 && inB r 0 ((pq n.toNat n.toNat : Int) - 1)
def pwRes (n r : Int) : List Int := if inB n 0 20 = true then atRes ptCh ptNl ptNb ptK n.toNat n.toNat r else []
theorem bound_PartedWith (n r : Int) : (pwRes n r).length ≤ 1048576 := by
  unfold pwRes
  split
  · rename_i h
    have h1 := inB_iff.1 h
    unfold atRes
    split
    · have := atS_len ptCh ptNl ptNb ptK n.toNat n.toNat n.toNat r.toNat; omega
    · simp
  · simp
theorem impl_PartedWith_any (n r : Int) (w : World) (_wn : (Lit.int .i64 n).wf = true) (_wr : (Lit.int .i64 r).wf = true) :
    Calls Try.prog 41 #[.int .i64 n, .int .i64 r] w fun e w' => ∃ u, e = .returned (.tuple #[u, .bool (pwB n r)]) ∧ OwnE w' w.heap.size u (pwRes n r) ∧ Below w.heap.size w w' := by
  cases hn : inB n 0 20
  · have HF := hid (show pwB n r = false by unfold pwB; rw [hn]; simp)
    have HR := hid (show pwRes n r = [] by unfold pwRes; rw [hn]; simp)
    go_enter Try.func41, Try.ntmps41
    go_wp2_with (first | (go_at_call 61; refine (isUpToParted_any _ _).mono ?_; rintro e w' ⟨rfl, rfl⟩; rw [hn]) | fail)
    go_ret2
    exact ⟨_, ret_sb6 HF.out.symm, .inl ⟨rfl, HR.out⟩, Below.refl _ _⟩
  · obtain ⟨h1, h2⟩ := inB_iff.1 hn
    obtain ⟨k, rfl⟩ : ∃ k : Nat, n = (k : Int) := ⟨n.toNat, by omega⟩
    have HF := hid (show inB r 0 ((ptK k k : Int) - 1) = pwB (k : Int) r by unfold pwB; rw [hn]; simp [ptK])
    have HR := hid (show atRes ptCh ptNl ptNb ptK k k r = pwRes (k : Int) r by unfold pwRes; rw [if_pos hn]; rfl)
    have HDD := hid (show ptD k k by unfold ptD; omega)
    go_enter Try.func41, Try.ntmps41
    go_wp2_with (first
      | (go_at_call 61; refine (isUpToParted_any _ _).mono ?_; rintro e w' ⟨rfl, rfl⟩; rw [hn])
      | (go_at_call 62; refine (partedNumbersOf_any k k _).mono ?_; rintro e w1 ⟨rfl, he, hm, hb⟩; have HE1 := hid he; have HM1 := hid hm; have HB1 := hid hb; clear he hm hb)
      | (go_at_call 73; refine (listAtP_any ptShC ptK ptCntC _ k k r _ HDD.out HE1.out ⟨_, HM1.out.mono (by omega), KInv.empty _⟩).mono ?_; rintro e w2 ⟨u, rfl, ho, _, hg⟩; have HO2 := hid ho; have HG2 := hid hg; clear ho hg)
      | fail)
    go_ret2
    exact ⟨_, ret_sb6 HF.out, by rw [← HR.out]; exact HO2.out.mono HB1.out.size, HB1.out.grown HG2.out HB1.out.size (fun q hq => by have := Option.some.inj hq; omega)⟩
theorem spTotalW_any (n : Int) (w : World) : Calls Try.prog 64 #[.int .i64 n] w fun e w' => e = .returned (.bool (inB n 0 20)) ∧ w = w' := by
  go_enter Try.func64, Try.ntmps64
  go_wp2_with (first | (go_at_call 72; refine (l1In_any _ _ _ _).mono ?_; rintro e w' ⟨rfl, rfl⟩) | fail)
  go_ret
  exact ⟨rfl, rfl⟩
theorem spec_PartedWith_any (n r : Int) (w : World) (_wn : (Lit.int .i64 n).wf = true) (_wr : (Lit.int .i64 r).wf = true) :
    Calls Try.prog 40 #[.int .i64 n, .int .i64 r] w fun e w' => ∃ u, e = .returned (.tuple #[u, .bool (pwB n r)]) ∧ OwnE w' w.heap.size u (pwRes n r) ∧ Below w.heap.size w w' := by
  cases hn : inB n 0 20
  · have HF := hid (show pwB n r = false by unfold pwB; rw [hn]; simp)
    have HR := hid (show pwRes n r = [] by unfold pwRes; rw [hn]; simp)
    go_enter Try.func40, Try.ntmps40
    go_wp2_with (first | (go_at_call 64; refine (spTotalW_any _ _).mono ?_; rintro e w' ⟨rfl, rfl⟩; rw [hn]) | fail)
    go_ret2
    exact ⟨_, ret_sb6 HF.out.symm, .inl ⟨rfl, HR.out⟩, Below.refl _ _⟩
  · obtain ⟨h1, h2⟩ := inB_iff.1 hn
    obtain ⟨k, rfl⟩ : ∃ k : Nat, n = (k : Int) := ⟨n.toNat, by omega⟩
    have HE := hid (fun W => spCount_any k k W (by omega) (by omega))
    have hle : pq k k ≤ 4000000 := pq_small (by omega)
    cases hr : inB r 0 ((pq k k : Int) - 1)
    · have HF := hid (show pwB (k : Int) r = false by unfold pwB; rw [Int.toNat_natCast, hr]; simp)
      have HR := hid (show pwRes (k : Int) r = [] by unfold pwRes atRes ptK; rw [if_pos hn, Int.toNat_natCast, hr]; simp)
      obtain ⟨e1, he1⟩ : ∃ e1, e1 = pq k k := ⟨_, rfl⟩
      rw [← he1] at HE hle hr
      clear he1
      go_enter Try.func40, Try.ntmps40
      go_wp2_with (first
        | (go_at_call 64; refine (spTotalW_any _ _).mono ?_; rintro e w' ⟨rfl, rfl⟩; rw [hn])
        | (go_at_call 72; refine (l1In_any _ _ _ _).mono ?_; rintro e w' ⟨rfl, rfl⟩; rw [hr])
        | (go_at_call 65; refine (HE.out _).mono ?_; rintro e w1 ⟨rfl, hb⟩; have HB1 := hid hb; clear hb)
        | fail)
      go_ret2
      exact ⟨_, ret_sb6 HF.out.symm, .inl ⟨rfl, HR.out⟩, HB1.out⟩
    · obtain ⟨hr1, hr2⟩ := inB_iff.1 hr
      obtain ⟨q, rfl⟩ : ∃ q : Nat, r = (q : Int) := ⟨r.toNat, by omega⟩
      have HF := hid (show pwB (k : Int) (q : Int) = true by unfold pwB; rw [hn, Int.toNat_natCast, hr]; rfl)
      have HR := hid (show atS ptCh ptNl ptNb ptK k k k q = pwRes (k : Int) (q : Int) by unfold pwRes atRes ptK; rw [if_pos hn, Int.toNat_natCast, if_pos hr]; rfl)
      have HPW := hid (fun W => spPartedWith_any k k k q W (Nat.le_refl _) (by omega) (by omega) (by unfold ptK; omega))
      obtain ⟨e1, he1⟩ : ∃ e1, e1 = pq k k := ⟨_, rfl⟩
      rw [← he1] at HE hle hr
      clear he1 hr2 h1 h2
      go_enter Try.func40, Try.ntmps40
      go_wp2_with (first
        | (go_at_call 64; refine (spTotalW_any _ _).mono ?_; rintro e w' ⟨rfl, rfl⟩; rw [hn])
        | (go_at_call 72; refine (l1In_any _ _ _ _).mono ?_; rintro e w' ⟨rfl, rfl⟩; rw [hr])
        | (go_at_call 65; refine (HE.out _).mono ?_; rintro e w1 ⟨rfl, hb⟩; have HB1 := hid hb; clear hb)
        | (go_at_call 67; refine (HPW.out _).mono ?_; rintro e w2 ⟨u, rfl, ho, hb⟩; have HO := hid (ho.mono HB1.out.size); have HB2 := hid (Below_chain HB1.out hb); clear ho hb)
        | fail)
      go_ret2
      exact ⟨_, ret_sb6 HF.out.symm, by rw [← HR.out]; exact HO.out.e, HB2.out⟩
end Go.Proofs.Ytakelcboamjndab
