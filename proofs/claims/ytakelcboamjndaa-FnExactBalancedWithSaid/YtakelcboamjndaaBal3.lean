/- Contracts: both BalancedWith. Conditions: ints in their range. -/
import Derived.Test.YtakelcboamjndaaBal2
namespace Go.Proofs.Ytakelcboamjndaa
open Go.RowKit Go.Maps
set_option linter.unusedVariables false
set_option maxRecDepth 4000

theorem at_next {ch : Nat → Nat → List Int} {nl nb : Nat → Nat → Int → Nat} {K : Nat → Nat → Nat} {f l b r r' : Nat} {x : Int} {ls T : List Int} (h : ls ++ atS ch nl nb K (f + 1) l b r = T) (h0 : l ≠ 0)
    (hp : pkS (fun y => K (nl l b y) (nb l b y)) (ch l b) r = (x, r')) : (ls ++ [x]) ++ atS ch nl nb K f (nl l b x) (nb l b x) r' = T := by
  rw [atS, if_neg h0, hp] at h
  rw [List.append_assoc]; exact h
theorem pk_next {D : Nat → Nat → Prop} {ch : Nat → Nat → List Int} {nl nb : Nat → Nat → Int → Nat} {K : Nat → Nat → Nat} (C : CntC D ch nl nb K) {l b r r' : Nat} {x : Int} (hd : D l b) (h0 : l ≠ 0) (hr : r < K l b)
    (hp : pkS (fun y => K (nl l b y) (nb l b y)) (ch l b) r = (x, r')) : r' < K (nl l b x) (nb l b x) := by
  have := pkS_ok (fun y => K (nl l b y) (nb l b y)) (ch l b) r (by rw [← C.step l b hd h0]; exact hr)
  rw [hp] at this; exact this.2
def bwB (n r : Int) : Bool := inB n 0 12 && inB r 0 ((cl n.toNat 0 : Int) - 1)
def bwRes (n r : Int) : List Int := if inB n 0 12 = true then atRes blCh blNl blNb blK (2 * n.toNat) 0 r else []
theorem bound_BalancedWith (n r : Int) : (bwRes n r).length ≤ 1048576 := by
  unfold bwRes
  split
  · rename_i h
    have h1 := inB_iff.1 h
    unfold atRes
    split
    · have := atS_len blCh blNl blNb blK (2 * n.toNat) (2 * n.toNat) 0 r.toNat; omega
    · simp
  · simp
theorem impl_BalancedWith_any (n r : Int) (w : World) (_wn : (Lit.int .i64 n).wf = true) (_wr : (Lit.int .i64 r).wf = true) :
    Calls Try.prog 45 #[.int .i64 n, .int .i64 r] w fun e w' => ∃ u, e = .returned (.tuple #[u, .bool (bwB n r)]) ∧ OwnE w' w.heap.size u (bwRes n r) ∧ Below w.heap.size w w' := by
  cases hn : inB n 0 12
  · have HF := hid (show bwB n r = false by unfold bwB; rw [hn]; simp)
    have HR := hid (show bwRes n r = [] by unfold bwRes; rw [hn]; simp)
    go_enter Try.func45, Try.ntmps45
    go_wp2_with (first | (go_at_call 73; refine (isPairCount_any _ _).mono ?_; rintro e w' ⟨rfl, rfl⟩; rw [hn]) | fail)
    go_ret2
    exact ⟨_, ret_sb6 HF.out.symm, .inl ⟨rfl, HR.out⟩, Below.refl _ _⟩
  · obtain ⟨h1, h2⟩ := inB_iff.1 hn
    obtain ⟨k, rfl⟩ : ∃ k : Nat, n = (k : Int) := ⟨n.toNat, by omega⟩
    have HF := hid (show inB r 0 ((blK (2 * k) 0 : Int) - 1) = bwB (k : Int) r by unfold bwB; rw [hn, blK_all]; simp)
    have HR := hid (show atRes blCh blNl blNb blK (2 * k) 0 r = bwRes (k : Int) r by unfold bwRes; rw [if_pos hn]; rfl)
    have HG := hid (fun W => balancedWordsOf_any k (2 * k) W rfl (by omega))
    have HDD := hid (show blD (2 * k) 0 by unfold blD; omega)
    obtain ⟨l, hl2⟩ : ∃ l, l = 2 * k := ⟨_, rfl⟩
    rw [← hl2] at HF HG HDD HR
    clear hl2
    go_enter Try.func45, Try.ntmps45
    go_wp2_with (first
      | (go_at_call 73; refine (isPairCount_any _ _).mono ?_; rintro e w' ⟨rfl, rfl⟩; rw [hn])
      | (go_at_call 74; refine (HG.out _).mono ?_; rintro e w1 ⟨rfl, he, hm, hb⟩; have HE1 := hid he; have HM1 := hid hm; have HB1 := hid hb; clear he hm hb)
      | (go_at_call 65; refine (listAtB_any blShC blK blCntC _ l 0 r _ HDD.out HE1.out ⟨_, HM1.out.mono (by omega), KInv.empty _⟩).mono ?_; rintro e w2 ⟨u, rfl, ho, _, hg⟩; have HO2 := hid ho; have HG2 := hid hg; clear ho hg)
      | fail)
    go_ret2
    exact ⟨_, ret_sb6 HF.out, by rw [← HR.out]; exact HO2.out.mono HB1.out.size, HB1.out.grown HG2.out HB1.out.size (fun q hq => by have := Option.some.inj hq; omega)⟩
set_option maxHeartbeats 1000000 in
theorem spec_BalancedWith_any (n r : Int) (w : World) (_wn : (Lit.int .i64 n).wf = true) (_wr : (Lit.int .i64 r).wf = true) :
    Calls Try.prog 44 #[.int .i64 n, .int .i64 r] w fun e w' => ∃ u, e = .returned (.tuple #[u, .bool (bwB n r)]) ∧ OwnE w' w.heap.size u (bwRes n r) ∧ Below w.heap.size w w' := by
  cases hn : inB n 0 12
  · have HF := hid (show bwB n r = false by unfold bwB; rw [hn]; simp)
    have HR := hid (show bwRes n r = [] by unfold bwRes; rw [hn]; simp)
    go_enter Try.func44, Try.ntmps44
    go_wp2_with (first | (go_at_call 55; refine (l1In_any _ _ _ _).mono ?_; rintro e w' ⟨rfl, rfl⟩; rw [hn]) | fail)
    go_ret2
    exact ⟨_, ret_sb6 HF.out.symm, .inl ⟨rfl, HR.out⟩, Below.refl _ _⟩
  · obtain ⟨h1, h2⟩ := inB_iff.1 hn
    obtain ⟨k, rfl⟩ : ∃ k : Nat, n = (k : Int) := ⟨n.toNat, by omega⟩
    have HE := hid (fun W => spCloses_any 0 k W (by omega) (by omega))
    have hle : cl k 0 ≤ 100000000 := cl_small (by omega)
    have HKA := hid (blK_all k)
    cases hr : inB r 0 ((cl k 0 : Int) - 1)
    · have HF := hid (show bwB (k : Int) r = false by unfold bwB; rw [Int.toNat_natCast, hr]; simp)
      have HR := hid (show bwRes (k : Int) r = [] by unfold bwRes atRes; rw [if_pos hn, Int.toNat_natCast, blK_all, hr]; simp)
      obtain ⟨e1, he1⟩ : ∃ e1, e1 = cl k 0 := ⟨_, rfl⟩
      rw [← he1] at HE hle hr
      clear he1 HKA
      go_enter Try.func44, Try.ntmps44
      go_wp2_with (first
        | (go_at_call 55; refine (l1In_any _ _ _ _).mono ?_; rintro e w' ⟨rfl, rfl⟩; (first | rw [hn] | rw [hr]))
        | (go_at_call 75; refine (HE.out _).mono ?_; rintro e w1 ⟨rfl, hb⟩; have HB1 := hid hb; clear hb)
        | fail)
      go_ret2
      exact ⟨_, ret_sb6 HF.out.symm, .inl ⟨rfl, HR.out⟩, HB1.out⟩
    · obtain ⟨hr1, hr2⟩ := inB_iff.1 hr
      obtain ⟨q, rfl⟩ : ∃ q : Nat, r = (q : Int) := ⟨r.toNat, by omega⟩
      have HF := hid (show bwB (k : Int) (q : Int) = true by unfold bwB; rw [hn, Int.toNat_natCast, hr]; rfl)
      have HR := hid (show bwRes (k : Int) (q : Int) = atS blCh blNl blNb blK (2 * k) (2 * k) 0 q by unfold bwRes atRes; rw [if_pos hn, Int.toNat_natCast, blK_all, if_pos hr]; rfl)
      have HQ := hid (show q < blK (2 * k) 0 by rw [HKA.out]; omega)
      obtain ⟨T, hT⟩ : ∃ T, T = atS blCh blNl blNb blK (2 * k) (2 * k) 0 q := ⟨_, rfl⟩
      have HT := hid hT.symm
      rw [← hT] at HR
      obtain ⟨e1, he1⟩ : ∃ e1, e1 = cl k 0 := ⟨_, rfl⟩
      rw [← he1] at HE hle hr
      obtain ⟨i0, hi, hz0, hz1, hz2⟩ := info_parts Try.info3
      have hk12 : k ≤ 12 := by omega
      have u0 : IntKind.i64.wrap (2 * (k : Int)) = 2 * (k : Int) := IntWalk.i64_in _ (by omega)
      clear he1 hr2 hT HKA h1 h2
      go_enter Try.func44, Try.ntmps44
      go_wp2_with (first
        | (go_at_call 55; refine (l1In_any _ _ _ _).mono ?_; rintro e w' ⟨rfl, rfl⟩; (first | rw [hn] | rw [hr]))
        | (go_at_call 75; refine (HE.out _).mono ?_; rintro e w1 ⟨rfl, hb⟩; have HB1 := hid hb; clear hb)
        | fail)
      clear hle hr hn
      go_loopw [1, 6, 7, 8] (fun rk v o s wr => ∃ (r' t z : Nat) (ls : List Int), rk = .int .i64 (r' : Int) ∧ o = .int .i64 (t : Int) ∧ s = .int .i64 (z : Int) ∧ Own wr w.heap.size v ls ∧ t + 2 * z + ls.length = 2 * k ∧ r' < blK (2 * k - ls.length) t ∧
        ls ++ atS blCh blNl blNb blK (2 * k - ls.length) (2 * k - ls.length) t r' = T ∧ Below w.heap.size w wr) (fun _ _ o s _ => (intOf o).toNat + 2 * (intOf s).toNat)
      case atStart => exact ⟨q, 0, k, [], rfl, rfl, rfl, Own.nil _ _, by simp, HQ.out, HT.out, HB1.out⟩
      case round =>
        obtain ⟨r', t, z, ls, rfl, rfl, rfl, hown, htz, hq, hls, hbel⟩ := hrel
        have HOWN := hid hown
        have HB := hid hbel
        obtain ⟨ao, c, rfl, hc1, _⟩ := hown.view2
        clear hown hbel
        by_cases hlt : ls.length < 2 * k
        · obtain ⟨f, hf⟩ : ∃ f, 2 * k - ls.length = f + 1 := ⟨2 * k - ls.length - 1, by omega⟩
          rw [hf] at hq hls
          have hd : blD (f + 1) t := by unfold blD; omega
          have hpk := pk_bl hd (by omega) hq
          have hzz : (f + 1 - t) / 2 = z := by omega
          rw [hzz] at hpk
          have hrs : blK (f + 1) t ≤ 100000000 := cl_small (by omega)
          have hlen : ls.length ≤ 24 := by omega
          have hlt' : (ls.length : Int) < 2 * (k : Int) := by omega
          have hbt : t ≤ 24 := by omega
          have hbz : z ≤ 12 := by omega
          have hrb : r' ≤ 100000000 := by omega
          have hlF : ∀ x : Int, (ls ++ [x]).length = ls.length + 1 := fun x => by simp
          have hf2 : ∀ x : Int, 2 * k - (ls ++ [x]).length = f := fun x => by rw [hlF]; omega
          by_cases h0 : t = 0
          · subst h0
            rw [if_pos rfl, if_neg (by omega)] at hpk
            have HN := hid (at_next hls (by omega) hpk)
            have HQN := hid (pk_next blCntC hd (by omega) hq hpk)
            obtain ⟨z', rfl⟩ : ∃ z', z = z' + 1 := ⟨z - 1, by omega⟩
            have HNF := hid (hf2 1)
            have HLF := hid (hlF 1)
            have HTZ := hid (show 1 + 2 * z' + (ls.length + 1) = 2 * k by omega)
            clear hpk hd hq hls hf hzz hrs htz hlF hf2
            have HBX := hid HB.out
            have hd0 : decide ((r' : Int) < 0) = false := decide_eq_false (by omega)
            have hd1 : (((z' + 1 : Nat) : Int) == 0) = false := by simp; omega
            go_wp2_with (first
              | (at_builtin; refine wpList_append_own _ rfl _ _ 22 rfl w.heap.size 3 i0 (.int .i64 0) 1 8 Try.underlying22 hi hz0 hz1 hz2 rfl (by decide) _ _ _ rfl (World.ownsRow.alloc HOWN.out.row _) ⟨wr.heap.size, 0, none⟩ 1 1 [.int .i64 1] rfl rfl (fun j u hj => new_cell1 j hj) (one_cell _ _) (by unfold maxLen; omega) (by omega) (by have := HBX.out.size; (try simp); omega) ?_; intro v' w5 hown5 hgrow5 _; have HO5 := hid hown5; have HG5 := hid hgrow5; clear hown5 hgrow5)
              | fail)
            have HBN := hid ((HBX.out.alloc HBX.out.size (.cells #[.int .i64 (1 : Int)] 3)).grown HG5.out (by have := HBX.out.size; simp; omega) (fun k hk => (World.ownsRow.lt HOWN.out.row k hk).1))
            go_roundw
            case rel => exact ⟨r', 1, z', ls ++ [1], by first | (go_num; done) | (refine congrArg (Value.int IntKind.i64) ?_; first | omega | (rw [← IntWalk.i64_left, IntWalk.i64_in _ (by omega)]; omega)), by first | (go_num; done) | (refine congrArg (Value.int IntKind.i64) ?_; first | omega | (rw [← IntWalk.i64_left, IntWalk.i64_in _ (by omega)]; omega)), by first | (go_num; done) | (refine congrArg (Value.int IntKind.i64) ?_; first | omega | (rw [← IntWalk.i64_left, IntWalk.i64_in _ (by omega)]; omega)), Own.snoc HO5.out, by rw [HLF.out]; exact HTZ.out, by rw [HNF.out]; exact HQN.out, by rw [HNF.out]; exact HN.out, HBN.out⟩
            case measure => simp [intOf] <;> omega
          · obtain ⟨t', rfl⟩ : ∃ t', t = t' + 1 := ⟨t - 1, by omega⟩
            rw [if_neg (show ¬ (t' + 1 = 0) by omega), Nat.add_sub_cancel] at hpk
            have HCL := hid (fun W => spCloses_any t' z W (by omega) (by omega))
            have hcs : cl z t' ≤ 100000000 := cl_small (by omega)
            have hz1' : z = 0 → r' < cl z t' := fun e => by
              subst e
              have : blK (f + 1) (t' + 1) = 1 := by unfold blK; rw [hzz]; rfl
              rw [cl_zero]; omega
            obtain ⟨c1, hc1'⟩ : ∃ c1, c1 = cl z t' := ⟨_, rfl⟩
            rw [← hc1'] at HCL hpk hz1' hcs
            have u3 : IntKind.i64.wrap (((t' + 1 : Nat) : Int) - 1) = (t' : Int) := by rw [IntWalk.i64_in _ (by omega)]; omega
            by_cases hlt3 : r' < c1
            · rw [if_pos (.inl hlt3)] at hpk
              have HN := hid (at_next hls (by omega) hpk)
              have HQN := hid (pk_next blCntC hd (by omega) hq hpk)
              have HNF := hid (hf2 0)
              have HLF := hid (hlF 0)
              have HTZ := hid (show t' + 2 * z + (ls.length + 1) = 2 * k by omega)
              have hdec : decide ((r' : Int) < (c1 : Int)) = true := decide_eq_true (by omega)
              clear hpk hd hq hls hf hzz hrs htz hlF hf2 hz1' hc1'
              go_wp2_with (first
                | (go_at_call 75; refine (HCL.out _).mono ?_; rintro e w2 ⟨rfl, hb2⟩; have HO2 := hid (HOWN.out.below hb2); have HBX := hid (Below_chain HB.out hb2); clear hb2)
                | (at_builtin; refine wpList_append_own _ rfl _ _ 22 rfl w.heap.size 3 i0 (.int .i64 0) 1 8 Try.underlying22 hi hz0 hz1 hz2 rfl (by decide) _ _ _ rfl (World.ownsRow.alloc HO2.out.row _) ⟨w2.heap.size, 0, none⟩ 1 1 [.int .i64 0] rfl rfl (fun j u hj => new_cell1 j hj) (one_cell _ _) (by unfold maxLen; omega) (by omega) (by have := HBX.out.size; (try simp); omega) ?_; intro v' w5 hown5 hgrow5 _; have HO5 := hid hown5; have HG5 := hid hgrow5; clear hown5 hgrow5)
                | fail)
              have HBN := hid ((HBX.out.alloc HBX.out.size (.cells #[.int .i64 (0 : Int)] 3)).grown HG5.out (by have := HBX.out.size; simp; omega) (fun k hk => (World.ownsRow.lt HO2.out.row k hk).1))
              go_roundw
              case rel => exact ⟨r', t', z, ls ++ [0], by first | (go_num; done) | (refine congrArg (Value.int IntKind.i64) ?_; first | omega | (rw [← IntWalk.i64_left, IntWalk.i64_in _ (by omega)]; omega)), by first | (go_num; done) | (refine congrArg (Value.int IntKind.i64) ?_; first | omega | (rw [← IntWalk.i64_left, IntWalk.i64_in _ (by omega)]; omega)), by first | (go_num; done) | (refine congrArg (Value.int IntKind.i64) ?_; first | omega | (rw [← IntWalk.i64_left, IntWalk.i64_in _ (by omega)]; omega)), Own.snoc HO5.out, by rw [HLF.out]; exact HTZ.out, by rw [HNF.out]; exact HQN.out, by rw [HNF.out]; exact HN.out, HBN.out⟩
              case measure => simp [intOf] <;> omega
            · have hz0' : z ≠ 0 := fun e => hlt3 (hz1' e)
              rw [if_neg (by omega)] at hpk
              obtain ⟨z', rfl⟩ : ∃ z', z = z' + 1 := ⟨z - 1, by omega⟩
              have HN := hid (at_next hls (by omega) hpk)
              have HQN := hid (pk_next blCntC hd (by omega) hq hpk)
              have HNF := hid (hf2 1)
              have HLF := hid (hlF 1)
              have HTZ := hid (show t' + 1 + 1 + 2 * z' + (ls.length + 1) = 2 * k by omega)
              have hdec : decide ((r' : Int) < (c1 : Int)) = false := decide_eq_false (by omega)
              have hd1 : (((z' + 1 : Nat) : Int) == 0) = false := by simp; omega
              have u5 : IntKind.i64.wrap ((r' : Int) - (c1 : Int)) = ((r' - c1 : Nat) : Int) := by rw [IntWalk.i64_in _ (by omega)]; omega
              have u6 : (r' : Int) - (c1 : Int) = ((r' - c1 : Nat) : Int) := by omega
              clear hpk hd hq hls hf hzz hrs htz hlF hf2 hz1' hc1'
              go_wp2_with (first
                | (go_at_call 75; refine (HCL.out _).mono ?_; rintro e w2 ⟨rfl, hb2⟩; have HO2 := hid (HOWN.out.below hb2); have HBX := hid (Below_chain HB.out hb2); clear hb2)
                | (at_builtin; refine wpList_append_own _ rfl _ _ 22 rfl w.heap.size 3 i0 (.int .i64 0) 1 8 Try.underlying22 hi hz0 hz1 hz2 rfl (by decide) _ _ _ rfl (World.ownsRow.alloc HO2.out.row _) ⟨w2.heap.size, 0, none⟩ 1 1 [.int .i64 1] rfl rfl (fun j u hj => new_cell1 j hj) (one_cell _ _) (by unfold maxLen; omega) (by omega) (by have := HBX.out.size; (try simp); omega) ?_; intro v' w5 hown5 hgrow5 _; have HO5 := hid hown5; have HG5 := hid hgrow5; clear hown5 hgrow5)
                | fail)
              have HBN := hid ((HBX.out.alloc HBX.out.size (.cells #[.int .i64 (1 : Int)] 3)).grown HG5.out (by have := HBX.out.size; simp; omega) (fun k hk => (World.ownsRow.lt HO2.out.row k hk).1))
              go_roundw
              case rel => exact ⟨r' - c1, t' + 1 + 1, z', ls ++ [1], by first | (go_num; done) | (refine congrArg (Value.int IntKind.i64) ?_; first | omega | (rw [← IntWalk.i64_left, IntWalk.i64_in _ (by omega)]; omega)), by first | (go_num; done) | (refine congrArg (Value.int IntKind.i64) ?_; first | omega | (rw [← IntWalk.i64_left, IntWalk.i64_in _ (by omega)]; omega)), by first | (go_num; done) | (refine congrArg (Value.int IntKind.i64) ?_; first | omega | (rw [← IntWalk.i64_left, IntWalk.i64_in _ (by omega)]; omega)), Own.snoc HO5.out, by rw [HLF.out]; exact HTZ.out, by rw [HNF.out]; exact HQN.out, by rw [HNF.out]; exact HN.out, HBN.out⟩
              case measure => simp [intOf] <;> omega
        · have hl0 : 2 * k - ls.length = 0 := by omega
          have HE := hid (show ls = T by rw [← hls, hl0, atS, List.append_nil])
          have hlt' : ¬ ((ls.length : Int) < 2 * (k : Int)) := by omega
          have hlen : ls.length ≤ 24 := by omega
          clear hq hls htz hl0 hlt
          go_wp2_with fail
          go_ret2
          exact ⟨_, ret_sb6 HF.out.symm, by rw [HR.out, ← HE.out]; exact HOWN.out.e, HB.out⟩
end Go.Proofs.Ytakelcboamjndaa
