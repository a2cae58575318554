/- Contracts: both GrowthWith. Conditions: none but ints in their range. -/
import Derived.Test.YtakelcboamjndaaGr3
import Derived.Test.YtakelcboamjndaaPkG
import Derived.Test.YtakelcboamjndaaBs2
namespace Go.Proofs.Ytakelcboamjndaa
open Go.RowKit Go.Maps
set_option linter.unusedVariables false
set_option maxRecDepth 4000

theorem ends_pos : ∀ k m, 0 < ends k m
  | 0, _ => by simp [ends]
  | k + 1, m => by have := ends_pos k (m + 1); rw [ends]; omega
theorem pk_upTo (f : Int → Nat) (old b : Nat) (h : ∀ i : Nat, i < b → f i = old) (h0 : 0 < old) : ∀ d j r : Nat, j + d = b → r < d * old + f b →
    pkS f ((upTo (b + 1)).drop j) r = (((j + min (r / old) d : Nat) : Int), r - min (r / old) d * old) := by
  intro d
  induction d with
  | zero =>
    intro j r hj hr
    have hlt : j < (upTo (b + 1)).length := by rw [upTo_length]; omega
    have e : (upTo (b + 1))[j] = (j : Int) := by
      have := upTo_getD (b + 1) j (by omega)
      rw [getD_at hlt] at this; exact this
    rw [pkS_drop f hlt, e]
    obtain rfl : j = b := by omega
    rw [if_pos (by omega)]; simp
  | succ d ih =>
    intro j r hj hr
    have hlt : j < (upTo (b + 1)).length := by rw [upTo_length]; omega
    have e : (upTo (b + 1))[j] = (j : Int) := by
      have := upTo_getD (b + 1) j (by omega)
      rw [getD_at hlt] at this; exact this
    rw [pkS_drop f hlt, e, h j (by omega)]
    by_cases hlt2 : r < old
    · rw [if_pos hlt2, Nat.div_eq_of_lt hlt2]; simp
    · rw [if_neg hlt2]
      rw [Nat.succ_mul] at hr
      rw [ih (j + 1) (r - old) (by omega) (by omega), Nat.div_eq_sub_div h0 (show old ≤ r by omega)]
      rw [show min ((r - old) / old + 1) (d + 1) = min ((r - old) / old) d + 1 by omega, Nat.succ_mul]
      refine Prod.ext ?_ ?_
      · show (((j + 1 + min ((r - old) / old) d : Nat) : Int)) = ((j + (min ((r - old) / old) d + 1) : Nat) : Int)
        congr 1; omega
      · show r - old - min ((r - old) / old) d * old = r - (min ((r - old) / old) d * old + old)
        omega
theorem gw_step {l b r : Nat} (hr : r < ends (l + 1) b) : pkS (fun y => ends (grNl (l + 1) b y) (grNb (l + 1) b y)) (grCh (l + 1) b) r = (((min (r / ends l b) b : Nat) : Int), r - min (r / ends l b) b * ends l b) := by
  have h := pk_upTo (fun y => ends (grNl (l + 1) b y) (grNb (l + 1) b y)) (ends l b) b (fun i hi => by
    show ends (l + 1 - 1) (max b ((i : Int).toNat + 1)) = _
    rw [Nat.add_sub_cancel, show max b ((i : Int).toNat + 1) = b by simp; omega]) (ends_pos l b) b 0 r (by omega) (by
    show r < b * ends l b + ends (l + 1 - 1) (max b ((b : Int).toNat + 1))
    rw [Nat.add_sub_cancel, show max b ((b : Int).toNat + 1) = b + 1 by simp]
    rw [ends] at hr; exact hr)
  simpa [grCh] using h
theorem topL_snoc (ls : List Int) (x : Int) : topL (ls ++ [x]) = max (topL ls) x := by
  have h1 := topTo_take (xs := ls ++ [x]) (k := ls.length) (by simp)
  rw [List.take_left'  rfl] at h1
  rw [h1]
  unfold topL
  rw [List.length_append]
  show max (topTo (ls ++ [x]) ls.length) ((ls ++ [x]).getD ls.length 0) = _
  rw [show (ls ++ [x]).getD ls.length 0 = x by simp [List.getD_eq_getElem?_getD]]
theorem gw_first {k q : Nat} (hq : q < ends k 1) : [0] ++ atS grCh grNl grNb ends k k 1 q = atS grCh grNl grNb ends (k + 1) (k + 1) 0 q := by
  have e : pkS (fun y => ends (grNl (k + 1) 0 y) (grNb (k + 1) 0 y)) (grCh (k + 1) 0) q = (0, q) := by
    show pkS _ [0] q = _
    rw [pkS]
    exact if_pos (show q < ends (k + 1 - 1) (max 0 ((0 : Int).toNat + 1)) by simpa using hq)
  rw [atS, if_neg (by omega)]
  simp only [e]
  rfl
theorem gw_next {j b q : Nat} (hr : q < ends (j + 1) b) {ls t : List Int} (h : ls ++ atS grCh grNl grNb ends (j + 1) (j + 1) b q = t) {x : Nat} (hx : x = min (q / ends j b) b) :
    (ls ++ [(x : Int)]) ++ atS grCh grNl grNb ends j j (max b (x + 1)) (q - x * ends j b) = t ∧ q - x * ends j b < ends j (max b (x + 1)) ∧ x * ends j b ≤ q := by
  have hp := gw_step hr
  rw [← hx] at hp
  have ho := pkS_ok (fun y => ends (grNl (j + 1) b y) (grNb (j + 1) b y)) (grCh (j + 1) b) q (by rw [← gr_step (by omega)]; exact hr)
  rw [hp] at ho
  rw [atS, if_neg (by omega), hp] at h
  refine ⟨?_, ?_, ?_⟩
  · rw [List.append_assoc]
    simpa [grNl, grNb] using h
  · simpa [grNl, grNb] using ho.2
  · have h1 : x ≤ q / ends j b := by omega
    exact Nat.le_trans (Nat.mul_le_mul_right _ h1) (Nat.div_mul_le_self _ _)
def gwB (n r : Int) : Bool := inB n 1 12 && inB r 0 ((ends n.toNat 0 : Int) - 1)
def gwRes (n r : Int) : List Int := if inB n 1 12 = true then atRes grCh grNl grNb ends n.toNat 0 r else []
theorem bound_GrowthWith (n r : Int) : (gwRes n r).length ≤ 1048576 := by
  unfold gwRes
  split
  · rename_i h
    have h1 := inB_iff.1 h
    unfold atRes
    split
    · have := atS_len grCh grNl grNb ends n.toNat n.toNat 0 r.toNat; omega
    · simp
  · simp
theorem spec_GrowthWith_any (n r : Int) (w : World) (_wn : (Lit.int .i64 n).wf = true) (_wr : (Lit.int .i64 r).wf = true) :
    Calls Try.prog 34 #[.int .i64 n, .int .i64 r] w fun e w' => ∃ u, e = .returned (.tuple #[u, .bool (gwB n r)]) ∧ OwnE w' w.heap.size u (gwRes n r) ∧ Below w.heap.size w w' := by
  cases hn : inB n 1 12
  · have HF := hid (show gwB n r = false by unfold gwB; rw [hn]; simp)
    have HR := hid (show gwRes n r = [] by unfold gwRes; rw [hn]; simp)
    go_enter Try.func34, Try.ntmps34
    go_wp2_with (first | (go_at_call 55; refine (l1In_any _ _ _ _).mono ?_; rintro e w' ⟨rfl, rfl⟩; rw [hn]) | fail)
    go_ret2
    exact ⟨_, ret_sb6 HF.out.symm, .inl ⟨rfl, HR.out⟩, Below.refl _ _⟩
  · obtain ⟨h1, h2⟩ := inB_iff.1 hn
    obtain ⟨k, rfl⟩ : ∃ k : Nat, n = (k : Int) + 1 := ⟨(n - 1).toNat, by omega⟩
    have hen : ends (k + 1) 0 = ends k 1 := by rw [ends]; simp
    have htn : ((k : Int) + 1).toNat = k + 1 := by omega
    have HE := hid (fun W => spEnds_any k 1 W (by omega) (by omega))
    have hle := ends_le (k := k) (m := 1) (by omega) (by omega)
    have hpos := ends_pos k 1
    have u1 : IntKind.i64.wrap ((k : Int) + 1 - 1) = (k : Int) := by rw [IntWalk.i64_in _ (by omega)]; omega
    have u2 : (k : Int) + 1 - 1 = (k : Int) := by omega
    cases hr : inB r 0 ((ends k 1 : Int) - 1)
    · have HF := hid (show gwB ((k : Int) + 1) r = false by unfold gwB; rw [htn, hen, hr]; simp)
      have HR := hid (show gwRes ((k : Int) + 1) r = [] by unfold gwRes atRes; rw [if_pos hn, htn, hen, hr]; simp)
      obtain ⟨e1, he1⟩ : ∃ e1, e1 = ends k 1 := ⟨_, rfl⟩
      rw [← he1] at HE hle hpos hr
      clear hen he1
      go_enter Try.func34, Try.ntmps34
      go_wp2_with (first
        | (go_at_call 55; refine (l1In_any _ _ _ _).mono ?_; rintro e w' ⟨rfl, rfl⟩; (first | rw [hn] | rw [hr]))
        | (go_at_call 60; refine (HE.out _).mono ?_; rintro e w' ⟨rfl, rfl⟩)
        | fail)
      go_ret2
      exact ⟨_, ret_sb6 HF.out.symm, .inl ⟨rfl, HR.out⟩, Below.refl _ _⟩
    · obtain ⟨hr1, hr2⟩ := inB_iff.1 hr
      obtain ⟨q, rfl⟩ : ∃ q : Nat, r = (q : Int) := ⟨r.toNat, by omega⟩
      have HF := hid (show gwB ((k : Int) + 1) (q : Int) = true by unfold gwB; rw [hn, htn, hen, hr]; rfl)
      have HR := hid (show gwRes ((k : Int) + 1) (q : Int) = atS grCh grNl grNb ends (k + 1) (k + 1) 0 q by unfold gwRes atRes; rw [if_pos hn, htn, hen, if_pos hr]; rfl)
      have HQ := hid (show q < ends k 1 by omega)
      obtain ⟨T, hT⟩ : ∃ T, T = atS grCh grNl grNb ends (k + 1) (k + 1) 0 q := ⟨_, rfl⟩
      have HT := hid ((gw_first HQ.out).trans hT.symm)
      rw [← hT] at HR
      obtain ⟨e1, he1⟩ : ∃ e1, e1 = ends k 1 := ⟨_, rfl⟩
      rw [← he1] at HE hle hpos hr
      obtain ⟨i0, hi, hz0, hz1, hz2⟩ := info_parts Try.info3
      clear hen he1 hr2 hT
      go_enter Try.func34, Try.ntmps34
      go_wp2_with (first
        | (go_at_call 55; refine (l1In_any _ _ _ _).mono ?_; rintro e w' ⟨rfl, rfl⟩; (first | rw [hn] | rw [hr]))
        | (go_at_call 60; refine (HE.out _).mono ?_; rintro e w' ⟨rfl, rfl⟩)
        | fail)
      clear hle hpos hr
      go_loopw [1, 6, 7] (fun rk v i wr => ∃ (m q' b : Nat) (ls : List Int), 1 ≤ m ∧ m ≤ k + 1 ∧ i = .int .i64 m ∧ rk = .int .i64 (q' : Int) ∧ Own wr w.heap.size v ls ∧ ls.length = m ∧ topL ls + 1 = (b : Int) ∧ b ≤ m ∧ q' < ends (k + 1 - m) b ∧
        ls ++ atS grCh grNl grNb ends (k + 1 - m) (k + 1 - m) b q' = T ∧ Below w.heap.size w wr) (fun _ _ i _ => k + 1 - (intOf i).toNat)
      case atStart => exact ⟨1, q, 1, [0], Nat.le_refl _, by omega, rfl, rfl, Own.lit1 _ _, rfl, rfl, Nat.le_refl _, HQ.out, HT.out, (Below.refl _ _).alloc (Nat.le_refl _) _⟩
      case round =>
        obtain ⟨m, q', b, ls, hm1, hm, rfl, rfl, hown, hlen, htop, hb, hq, hls, hbel⟩ := hrel
        by_cases hlt : m < k + 1
        · obtain ⟨j, hj⟩ : ∃ j, k + 1 - m = j + 1 := ⟨k - m, by omega⟩
          rw [hj] at hq hls
          obtain ⟨old, ho⟩ : ∃ old, old = ends j b := ⟨_, rfl⟩
          obtain ⟨x, hx⟩ : ∃ x, x = min (q' / old) b := ⟨_, rfl⟩
          have hnx := gw_next hq hls (x := x) (by rw [hx, ho])
          rw [← ho] at hnx
          have hqs := ends_le (k := j + 1) (m := b) (by omega) (by omega)
          have hos := ends_le (k := j) (m := b) (by omega) (by omega)
          have hop := ends_pos j b
          rw [← ho] at hos hop
          have HEN := hid (fun W => spEnds_any j b W (by omega) (by omega))
          rw [← ho] at HEN
          have hbx : x ≤ b := by omega
          have HX := hid (show min (wrap64 ((q' : Int) / (old : Int))) (b : Int) = (x : Int) by
            have hdv := Nat.div_le_self q' old
            rw [hx, ← Int.natCast_ediv, ← IntWalk.i64_left, IntWalk.i64_in _ (by omega)]; omega)
          obtain ⟨pr, hpr⟩ : ∃ pr, pr = x * old := ⟨_, rfl⟩
          rw [← hpr] at hnx
          obtain ⟨n1, n2, n3⟩ := hnx
          have hpr' : (x : Int) * (old : Int) = (pr : Int) := by rw [hpr]; push_cast; rfl
          have u3 : IntKind.i64.wrap ((x : Int) * (old : Int)) = (pr : Int) := by rw [hpr']; exact IntWalk.i64_in _ (by omega)
          have u4 : IntKind.i64.wrap ((q' : Int) - (pr : Int)) = ((q' - pr : Nat) : Int) := by rw [IntWalk.i64_in _ (by omega)]; omega
          have HNL := hid n1
          have HNQ := hid (show q' - pr < ends (k + 1 - (m + 1)) (max b (x + 1)) by rw [show k + 1 - (m + 1) = j by omega]; exact n2)
          have HNL := hid (show (ls ++ [(x : Int)]) ++ atS grCh grNl grNb ends (k + 1 - (m + 1)) (k + 1 - (m + 1)) (max b (x + 1)) (q' - pr) = T by rw [show k + 1 - (m + 1) = j by omega]; exact n1)
          have HNT := hid (show topL (ls ++ [(x : Int)]) + 1 = ((max b (x + 1) : Nat) : Int) by rw [topL_snoc]; omega)
          have HTP := hid (show topL ls = (b : Int) - 1 by omega)
          have hz : ((old : Int) == 0) = false := by simp; omega
          have u5 : IntKind.i64.wrap ((b : Int) - 1 + 1) = (b : Int) := by rw [IntWalk.i64_in _ (by omega)]; omega
          have u6 : IntKind.i64.wrap (IntKind.i64.wrap ((k : Int) + 1 - (m : Int)) - 1) = (j : Int) := by rw [IntWalk.i64_in ((k : Int) + 1 - (m : Int)) (by omega), IntWalk.i64_in _ (by omega)]; omega
          have u7 : (b : Int) - 1 + 1 = (b : Int) := by omega
          have u8 : (k : Int) + 1 - (m : Int) - 1 = (j : Int) := by omega
          have HOWN := hid hown
          have HB := hid hbel
          have hl12 : ls.length ≤ 12 := by omega
          have HTPC := hid (fun W V (hr : Reads W V ls) => (spTop_any V ls W hr (by omega)).mono fun e w' h => (⟨by rw [h.1, HTP.out], h.2⟩ : e = .returned (.int .i64 ((b : Int) - 1)) ∧ W = w'))
          clear n1 n2 n3 hpr hpr' hx ho hq hls htop hown hbel hj hqs u1 u2 htn
          have hk11 : k ≤ 11 := by omega
          clear _wn hn h1 h2
          go_wp2_with (first
            | (go_at_call 62; refine (HTPC.out _ _ HOWN.out.reads).mono ?_; rintro e w' ⟨rfl, rfl⟩)
            | (go_at_call 60; refine (HEN.out _).mono ?_; rintro e w' ⟨rfl, rfl⟩)
            | (go_at_call 64; refine (l1Least_any _ _ _).mono ?_; rintro e w' ⟨rfl, rfl⟩; rw [HX.out])
            | (at_builtin; refine wpList_append_own _ rfl _ _ 22 rfl w.heap.size 3 i0 (.int .i64 0) 1 8 Try.underlying22 hi hz0 hz1 hz2 rfl (by decide) _ _ _ rfl (World.ownsRow.alloc HOWN.out.row _) ⟨wr.heap.size, 0, none⟩ 1 1 [.int .i64 x] rfl rfl (fun j u hj => new_cell1 j hj) (one_cell _ _) (by unfold maxLen; omega) (by omega) (by have := HB.out.size; (try simp); omega) ?_; intro v' w5 hown5 hgrow5 _; have HO5 := hid hown5; have HG5 := hid hgrow5; clear hown5 hgrow5)
            | fail)
          have HBN := hid ((HB.out.alloc HB.out.size (.cells #[.int .i64 (x : Int)] 3)).grown HG5.out (by have := HB.out.size; simp; omega) (fun k hk => (World.ownsRow.lt HOWN.out.row k hk).1))
          go_roundw
          case rel => exact ⟨m + 1, q' - pr, max b (x + 1), ls ++ [(x : Int)], by omega, by omega, by go_num, rfl, Own.snoc HO5.out, by simp [hlen], HNT.out, by omega, HNQ.out, HNL.out, HBN.out⟩
          case measure => simp [intOf]; omega
        · obtain rfl : m = k + 1 := by omega
          have HE := hid (show ls = T by rw [← hls, Nat.sub_self, atS, List.append_nil])
          have HOWN := hid hown
          have HB := hid hbel
          clear htop hq hls hown hbel _wn hn h1 h2 hb
          go_wp2_with fail
          go_ret2
          exact ⟨_, ret_sb6 HF.out.symm, by rw [HR.out, ← HE.out]; exact HOWN.out.e, HB.out⟩
theorem impl_GrowthWith_any (n r : Int) (w : World) (_wn : (Lit.int .i64 n).wf = true) (_wr : (Lit.int .i64 r).wf = true) :
    Calls Try.prog 35 #[.int .i64 n, .int .i64 r] w fun e w' => ∃ u, e = .returned (.tuple #[u, .bool (gwB n r)]) ∧ OwnE w' w.heap.size u (gwRes n r) ∧ Below w.heap.size w w' := by
  cases hn : inB n 1 12
  · have HF := hid (show gwB n r = false by unfold gwB; rw [hn]; simp)
    have HR := hid (show gwRes n r = [] by unfold gwRes; rw [hn]; simp)
    go_enter Try.func35, Try.ntmps35
    go_wp2_with (first | (go_at_call 49; refine (isGrowthLength_any _ _).mono ?_; rintro e w' ⟨rfl, rfl⟩; rw [hn]) | fail)
    go_ret2
    exact ⟨_, ret_sb6 HF.out.symm, .inl ⟨rfl, HR.out⟩, Below.refl _ _⟩
  · obtain ⟨h1, h2⟩ := inB_iff.1 hn
    obtain ⟨k, rfl⟩ : ∃ k : Nat, n = (k : Int) := ⟨n.toNat, by omega⟩
    have HF := hid (show inB r 0 ((ends k 0 : Int) - 1) = gwB (k : Int) r by unfold gwB; rw [hn]; simp)
    have HR := hid (show atRes grCh grNl grNb ends k 0 r = gwRes (k : Int) r by unfold gwRes; rw [if_pos hn]; rfl)
    have HG := hid (fun W => growthsOf_any k W (by omega))
    have HDD := hid (show grD k 0 by unfold grD; omega)
    go_enter Try.func35, Try.ntmps35
    go_wp2_with (first
      | (go_at_call 49; refine (isGrowthLength_any _ _).mono ?_; rintro e w' ⟨rfl, rfl⟩; rw [hn])
      | (go_at_call 50; refine (HG.out _).mono ?_; rintro e w1 ⟨rfl, he, hm, hb⟩; have HE1 := hid he; have HM1 := hid hm; have HB1 := hid hb; clear he hm hb)
      | (go_at_call 65; refine (listAtG_any grShC ends grCntC _ k 0 r _ HDD.out HE1.out ⟨_, HM1.out.mono (by omega), KInv.empty _⟩).mono ?_; rintro e w2 ⟨u, rfl, ho, _, hg⟩; have HO2 := hid ho; have HG2 := hid hg; clear ho hg)
      | fail)
    go_ret2
    exact ⟨_, ret_sb6 HF.out, by rw [← HR.out]; exact HO2.out.mono HB1.out.size, HB1.out.grown HG2.out HB1.out.size (fun q hq => by have := Option.some.inj hq; omega)⟩
end Go.Proofs.Ytakelcboamjndaa
