/- Contracts: spCount, spParted, both IsParted and CountParted, impl.RankParted, impl.PartedWith. Conditions: slices that are not nil and read as lists of at most 2^20 numbers; ints in their range. -/
import Derived.Test.YtakelcboamjndabPt1
import Derived.Test.YtakelcboamjndabHasP
import Derived.Test.YtakelcboamjndabCntP
import Derived.Test.YtakelcboamjndabRkP
import Derived.Test.YtakelcboamjndabPkP
import Derived.Test.YtakelcboamjndabGr2
namespace Go.Proofs.Ytakelcboamjndab
open Go.RowKit Go.Maps
set_option linter.unusedVariables false
set_option maxRecDepth 4000

/-- the table in round x + 1, up to place i -/
def ptF (x i j : Nat) : Nat := if j < i then pq (x + 1) j else pq x j
theorem ptF_first (x j : Nat) : ptF x (x + 1) j = pq x j := by
  unfold ptF
  split
  · rw [pq_next, if_neg (by omega)]; rfl
  · rfl
theorem ptF_last {x n j : Nat} (h : j < n) : ptF x n j = pq (x + 1) j := by unfold ptF; rw [if_pos h]
theorem ptF_set {w : World} {g n x i : Nat} {d : Int} (hx : x + 1 ≤ i) (hd : d = (pq x i : Int) + (pq (x + 1) (i - (x + 1)) : Int)) (h : w.rowIs g 3 n (fun j => .int .i64 (ptF x i j : Int))) :
    (w.setCell ⟨g, i, none⟩ (.int .i64 d)).rowIs g 3 n (fun j => .int .i64 (ptF x (i + 1) j : Int)) := by
  refine (h.set i (.int .i64 d)).congr (fun j hj => ?_)
  by_cases e : j = i
  · subst e
    rw [if_pos rfl, ptF, if_pos (by omega), pq_next, if_pos hx, hd]; push_cast; rfl
  · rw [if_neg e]
    unfold ptF
    by_cases h1 : j < i
    · rw [if_pos h1, if_pos (by omega)]
    · rw [if_neg h1, if_neg (by omega)]
theorem spCount_any (n b : Nat) (w : World) (hn : n ≤ 20) (hb : b ≤ 20) :
    Calls Try.prog 65 #[.int .i64 (n : Int), .int .i64 (b : Int)] w fun e w' => e = .returned (.int .i64 (pq b n : Int)) ∧ Below w.heap.size w w' := by
  obtain ⟨m, hm⟩ : ∃ m, m = n + 1 := ⟨_, rfl⟩
  have hm1 : m ≤ 1048576 := by omega
  have u1 : IntKind.i64.wrap ((n : Int) + 1) = (m : Int) := by rw [IntWalk.i64_in _ (by omega)]; omega
  have u2 : (n : Int) + 1 = (m : Int) := by omega
  have hmk := run_make_ints m hm1 w
  have hr0 := World.rowIs_made w (.int .i64 0) m 3
  have HB0 := hid ((Below.refl w.heap.size w).alloc (Nat.le_refl _) (.cells (madeCells #[.int .i64 0] m) 3))
  obtain ⟨w0, hw0⟩ : ∃ w0, w0 = w.alloc (.cells (madeCells #[.int .i64 0] m) 3) := ⟨_, rfl⟩
  rw [← hw0] at hmk hr0 HB0
  clear hw0
  have hc0 := hr0.cell (i := 0) (by omega)
  have hf0 := hr0.frozen 0
  have HR0 := hid ((hr0.set 0 (.int .i64 1)).congr (g := fun j => .int .i64 (pq 0 j : Int)) (fun j hj => by
    by_cases e : j = 0
    · subst e; rw [if_pos rfl, pq_none]; rfl
    · rw [if_neg e, pq_zero, if_neg e]; rfl))
  have hmn : n < m := by omega
  have hm2 : m ≤ 21 := by omega
  have q0 : (0 : Int) < (m : Int) := by omega
  have HMN := hid hm
  clear hm hr0
  go_enter Try.func65, Try.ntmps65
  go_wp2_with fail
  go_loopw [6] (fun x wr => ∃ a : Nat, x = .int .i64 ((a + 1 : Nat) : Int) ∧ a ≤ b ∧ wr.rowIs w.heap.size 3 m (fun q => .int .i64 (pq a q : Int)) ∧ Below w.heap.size w wr) (fun x _ => b + 1 - (intOf x).toNat)
  case atStart => exact ⟨0, rfl, Nat.zero_le _, HR0.out, HB0.out.setCell (p := ⟨w.heap.size, 0, none⟩) (Nat.le_refl _) _⟩
  case round =>
    obtain ⟨a, rfl, ha, hrow, hbel⟩ := hrel
    clear hmk hc0 hf0
    by_cases hlt : a < b
    · have q1 : ((a + 1 : Nat) : Int) ≤ (b : Int) := by omega
      have HR1 := hid (hrow.congr (g := fun q => .int .i64 (ptF a (a + 1) q : Int)) (fun q hq => by rw [ptF_first]))
      have HB1 := hid hbel
      have u3 : IntKind.i64.wrap (((a + 1 : Nat) : Int) + 1) = ((a + 1 + 1 : Nat) : Int) := by rw [IntWalk.i64_in _ (by omega)]; omega
      clear hrow hbel
      obtain ⟨wo, rfl⟩ : ∃ wo : World, wo = wr := ⟨_, rfl⟩
      go_wp2_with fail
      go_loopw [7] (fun x wr => ∃ i : Nat, x = .int .i64 (i : Int) ∧ a + 1 ≤ i ∧ (i ≤ m ∨ i = a + 1) ∧ wr.rowIs w.heap.size 3 m (fun q => .int .i64 (ptF a i q : Int)) ∧ Below w.heap.size w wr) (fun x _ => m - (intOf x).toNat)
      case atStart => exact ⟨a + 1, rfl, Nat.le_refl _, .inr rfl, HR1.out, HB1.out⟩
      case round =>
        obtain ⟨i, rfl, hi1, hi2, hrow, hbel⟩ := hrel
        by_cases hlt2 : i < m
        · have q2 : (i : Int) ≤ (n : Int) := by have := HMN.out; omega
          have q3 : (0 : Int) ≤ (i : Int) := by omega
          have q4 : (i : Int) < (m : Int) := by omega
          have c1 := hrow.cell hlt2
          have c2 := hrow.cell (i := i - (a + 1)) (by omega)
          have f1 := hrow.frozen i
          rw [ptF, if_neg (by omega)] at c1
          rw [ptF, if_pos (by omega)] at c2
          have s1 := pq_small (b := a) (l := i) (by omega)
          have s2 := pq_small (b := a + 1) (l := i - (a + 1)) (by omega)
          have HN := hid (ptF_set hi1 rfl hrow)
          have HBN := hid (hbel.setCell (p := ⟨w.heap.size, i, none⟩) (Nat.le_refl _) (.int .i64 ((pq a i : Int) + (pq (a + 1) (i - (a + 1)) : Int))))
          obtain ⟨p, hp⟩ : ∃ p, p = pq a i := ⟨_, rfl⟩
          obtain ⟨q, hq⟩ : ∃ q, q = pq (a + 1) (i - (a + 1)) := ⟨_, rfl⟩
          rw [← hp] at c1 s1 HN HBN
          rw [← hq] at c2 s2 HN HBN
          obtain ⟨z, hz⟩ : ∃ z, z = i - (a + 1) := ⟨_, rfl⟩
          have c3 := c2
          rw [← hz] at c3
          have u4 : IntKind.i64.wrap ((i : Int) - ((a : Int) + 1)) = (z : Int) := by rw [IntWalk.i64_in _ (by omega)]; omega
          have u5 : (i : Int) - ((a : Int) + 1) = (z : Int) := by omega
          have u6 : IntKind.i64.wrap ((p : Int) + (q : Int)) = (p : Int) + (q : Int) := IntWalk.i64_in _ (by omega)
          have u7 : IntKind.i64.wrap ((i : Int) + 1) = ((i + 1 : Nat) : Int) := by rw [IntWalk.i64_in _ (by omega)]; omega
          have q5 : (z : Int) < (m : Int) := by omega
          have HI := hid (show i + 1 ≤ m by omega)
          have HMS := hid (show m - (i + 1) < m - i by omega)
          clear hrow hbel hp hq s1 s2 hi2
          clear hz
          go_wp2_with fail
          go_region
          all_goals
            go_wp2_with fail
            go_roundw
            case rel => exact ⟨i + 1, by go_num, by omega, .inl HI.out, HN.out, HBN.out.trans ((Below.refl _ _).drew)⟩
            case measure => simpa [intOf] using HMS.out
        · have q2 : ¬ ((i : Int) ≤ (n : Int)) := by have := HMN.out; omega
          have HN := hid (hrow.congr (g := fun q => .int .i64 (pq (a + 1) q : Int)) (fun q hq => by rw [ptF_last (by omega)]))
          have HBN := hid hbel
          clear hrow hbel hi2
          go_wp2_with fail
          go_roundw
          case rel => exact ⟨a + 1, by first | rfl | go_num, by omega, HN.out, HBN.out⟩
          case measure => simp [intOf]; omega
    · obtain rfl : a = b := by omega
      have hc := hrow.cell (i := n) hmn
      have HB := hid hbel
      have q1 : (0 : Int) ≤ (n : Int) := by omega
      have q2 : (n : Int) < (m : Int) := by omega
      clear hrow hbel
      go_wp2_with fail
      go_ret
      exact ⟨rfl, HB.out⟩
theorem sumI_range : ∀ xs : List Int, (∀ x ∈ xs, 1 ≤ x ∧ x ≤ 20) → 0 ≤ sumI xs ∧ sumI xs ≤ 20 * (xs.length : Int)
  | [], _ => by simp [sumI]
  | x :: xs, h => by
    have h1 := h x (by simp)
    have h2 := sumI_range xs (fun y hy => h y (by simp [hy]))
    rw [sumI_cons, List.length_cons]
    omega
theorem sumI_parts {xs : List Int} (hl : xs.length ≤ 20) (h : ∀ i, i < xs.length → 1 ≤ xs.getD i 0 ∧ xs.getD i 0 ≤ 20) : ∀ k, k ≤ xs.length → 0 ≤ sumI (xs.take k) ∧ sumI (xs.take k) ≤ 1000000 := by
  intro k hk
  have h1 := sumI_range (xs.take k) (fun x hx => by
    obtain ⟨i, hi, rfl⟩ := List.getElem_of_mem (List.mem_of_mem_take hx)
    have := h i hi
    rw [getD_at hi] at this; exact this)
  have h2 : (xs.take k).length ≤ 20 := by simp; omega
  omega
theorem spParted_any (v : Value) (xs : List Int) (w : World) (h : Sits w v xs) (hl : xs.length ≤ 1048576) :
    Calls Try.prog 59 #[v] w fun e w' => e = .returned (.bool (ptB xs)) ∧ Below w.heap.size w w' := by
  have HS := hid h
  have HR := hid h.reads
  have HMD := hid (mdB_ptB xs)
  obtain ⟨b, off, c, rfl, hc1, hm, hb, hc⟩ := h
  have HC := hid hc
  clear hc
  by_cases h20 : xs.length ≤ 20
  · have hlen : ¬ (20 < (xs.length : Int)) := by omega
    cases hall : allTo xs.length (fun i => inB (xs.getD i 0) 1 20)
    · have HF := hid (show ptB xs = false by rw [← HMD.out]; unfold mdB; rw [hall]; simp)
      go_enter Try.func59, Try.ntmps59
      go_wp2_with (first | (go_at_call 88; refine (l1All_any _ xs 1 20 _ HS.out).mono ?_; rintro e w' ⟨rfl, rfl⟩; rw [hall]) | fail)
      go_ret
      exact ⟨ret_bool HF.out.symm, Below.refl _ _⟩
    · have HALL := hid (fun i (hi : i < xs.length) => inB_iff.1 ((allTo_iff _ _).1 hall i hi))
      have HSUM := hid (sumI_parts h20 HALL.out)
      go_enter Try.func59, Try.ntmps59
      go_wp2_with (first | (go_at_call 88; refine (l1All_any _ xs 1 20 _ HS.out).mono ?_; rintro e w' ⟨rfl, rfl⟩; rw [hall]) | fail)
      have HAL := hid hall
      clear hall
      go_loopw [3] (fun i wr => ∃ k : Nat, i = .int .i64 k ∧ 1 ≤ k ∧ (k ≤ xs.length ∨ k = 1) ∧ allTo (min k xs.length) (fun i => i == 0 || dsc xs i) = true ∧ Below w.heap.size w wr) (fun i _ => xs.length - (intOf i).toNat)
      case atStart =>
        refine ⟨1, rfl, Nat.le_refl _, .inr rfl, ?_, Below.refl _ _⟩
        rw [allTo_iff]
        intro i hi
        obtain rfl : i = 0 := by omega
        rfl
      case round =>
        obtain ⟨k, rfl, hk1, hk2, hds, hbel⟩ := hrel
        by_cases hlt : k < xs.length
        · have c1 := (hbel.cell (p := ⟨b, off + k, none⟩) (by exact hb)).trans (HC.out k hlt)
          have c2 := (hbel.cell (p := ⟨b, off + (k - 1), none⟩) (by exact hb)).trans (HC.out (k - 1) (by omega))
          have HDS := hid hds
          have HDK := hid (show dsc xs k = decide (xs[k] ≤ xs[k - 1]) by unfold dsc; rw [getD_at hlt, getD_at (show k - 1 < xs.length by omega)])
          obtain ⟨x, hx⟩ : ∃ x, x = xs[k] := ⟨_, rfl⟩
          obtain ⟨y, hy⟩ : ∃ y, y = xs[k - 1] := ⟨_, rfl⟩
          rw [← hx] at c1 HDK
          rw [← hy] at c2 HDK
          obtain ⟨z, hz⟩ : ∃ z, z = k - 1 := ⟨_, rfl⟩
          have c3 := c2
          rw [← hz] at c3
          have u4 : IntKind.i64.wrap ((k : Int) - 1) = (z : Int) := by rw [IntWalk.i64_in _ (by omega)]; omega
          have u5 : (k : Int) - 1 = (z : Int) := by omega
          have q1 : (0 : Int) ≤ (k : Int) := by omega
          have q2 : (k : Int) < (xs.length : Int) := by omega
          have q3 : (z : Int) < (xs.length : Int) := by omega
          have HB := hid hbel
          clear hx hy hz hds hbel hk2
          by_cases hxy : x ≤ y
          · have hxy2 : ¬ (y < x) := by omega
            have HN := hid (show allTo (min (k + 1) xs.length) (fun i => i == 0 || dsc xs i) = true by
              have h := HDS.out
              rw [show min k xs.length = k by omega] at h
              rw [show min (k + 1) xs.length = k + 1 by omega, allTo_succ, h, HDK.out]
              simp [hxy])
            clear hxy
            go_wp2_with fail
            go_region
            all_goals
              go_wp2_with fail
              go_roundw
              case rel => exact ⟨k + 1, by go_num, by omega, .inl (by omega), HN.out, below_drewN HB.out _⟩
              case measure => simp [intOf]; omega
          · have hxy2 : y < x := by omega
            have HF := hid (show ptB xs = false by
              have hno : allTo xs.length (fun i => i == 0 || dsc xs i) = false := allTo_no hlt (by
                show (k == 0 || dsc xs k) = false
                rw [HDK.out]; simp; omega)
              rw [← HMD.out]; unfold mdB
              rw [hno]; simp)
            clear hxy
            go_wp2_with fail
            go_region
            all_goals
              go_wp2_with fail
              go_ret
              exact ⟨ret_bool HF.out.symm, below_drewN HB.out _⟩
        · have HB := hid hbel
          have HDS := hid (show allTo xs.length (fun i => i == 0 || dsc xs i) = true by rw [show min k xs.length = xs.length by omega] at hds; exact hds)
          have HF := hid (show decide (sumI xs ≤ 20) = ptB xs by
            rw [← HMD.out]; unfold mdB; rw [HAL.out, HDS.out]; simp [h20])
          have HR2 := hid (HR.out.below hbel)
          have hq : ¬ ((k : Int) < (xs.length : Int)) := by omega
          clear hds hbel hk2
          go_wp2_with (first | (go_at_call 69; refine (spSum_any _ xs _ HR2.out HSUM.out).mono ?_; rintro e w' ⟨rfl, rfl⟩) | fail)
          go_ret
          exact ⟨ret_bool HF.out, HB.out⟩
  · have HF := hid (show ptB xs = false by rw [← HMD.out]; unfold mdB; rw [show decide (xs.length ≤ 20) = false by simp; omega]; simp)
    have hlen : 20 < (xs.length : Int) := by omega
    go_enter Try.func59, Try.ntmps59
    go_wp2_with fail
    go_ret
    exact ⟨ret_bool HF.out.symm, Below.refl _ _⟩
theorem impl_IsParted_any (v : Value) (xs : List Int) (w : World) (h : Reads w v xs) (hl : xs.length ≤ 1048576) :
    Calls Try.prog 30 #[v] w fun e w' => e = .returned (.bool (ptB xs)) ∧ Below w.heap.size w w' := by
  have H := hid h
  have HP := hid (ptB_impl xs)
  obtain ⟨T, hT⟩ : ∃ T, T = wsum 0 xs := ⟨_, rfl⟩
  have HT := hid hT
  rw [← hT] at HP
  clear h hT
  cases hn : inB T 0 20
  · have HF := hid (show ptB xs = false by rw [← HP.out, hn]; rfl)
    go_enter Try.func30, Try.ntmps30
    go_wp2_with (first
      | (go_at_call 60; refine (sumOfW_any _ xs _ H.out hl).mono ?_; rintro e w' ⟨rfl, rfl⟩; rw [← HT.out])
      | (go_at_call 61; refine (isUpToParted_any _ _).mono ?_; rintro e w' ⟨rfl, rfl⟩; rw [hn])
      | fail)
    go_ret
    exact ⟨ret_bool HF.out.symm, Below.refl _ _⟩
  · have hb := inB_iff.1 hn
    obtain ⟨t, rfl⟩ : ∃ t : Nat, T = (t : Int) := ⟨T.toNat, by omega⟩
    have HF := hid (show hasS ptCh ptNl ptNb xs t t = ptB xs by rw [has_pt, ← HP.out, hn]; rfl)
    have HDD := hid (show ptD t t by unfold ptD; omega)
    clear hb
    go_enter Try.func30, Try.ntmps30
    go_wp2_with (first
      | (go_at_call 60; refine (sumOfW_any _ xs _ H.out hl).mono ?_; rintro e w' ⟨rfl, rfl⟩; rw [← HT.out])
      | (go_at_call 61; refine (isUpToParted_any _ _).mono ?_; rintro e w' ⟨rfl, rfl⟩; rw [hn])
      | (go_at_call 62; refine (partedNumbersOf_any t t _).mono ?_; rintro e w1 ⟨rfl, _, _, hb⟩; have HB1 := hid hb; have H1 := hid (H.out.below hb); clear hb)
      | (go_at_call 63; refine (hasP_any ptShC _ t t _ xs _ HDD.out H1.out hl).mono ?_; rintro e w2 ⟨rfl, hb⟩; have HB2 := hid (Below_chain HB1.out hb); clear hb)
      | fail)
    go_ret
    exact ⟨ret_bool HF.out, HB2.out⟩
theorem impl_IsParted_c (v : Value) (xs : List Int) (w : World) (h : Sits w v xs) (hl : xs.length ≤ 1048576) (_hwf : ∀ x ∈ xs, (Lit.int .i64 x).wf = true) :
    Calls Try.prog 30 #[v] w fun e w' => e = .returned (.bool (ptB xs)) ∧ Below w.heap.size w w' := impl_IsParted_any v xs w h.reads hl
theorem spec_IsParted_c (v : Value) (xs : List Int) (w : World) (h : Sits w v xs) (hl : xs.length ≤ 1048576) (_hwf : ∀ x ∈ xs, (Lit.int .i64 x).wf = true) :
    Calls Try.prog 29 #[v] w fun e w' => e = .returned (.bool (ptB xs)) ∧ Below w.heap.size w w' := by
  have H := hid h
  clear h
  go_enter Try.func29, Try.ntmps29
  go_wp2_with (go_at_call 59; refine (spParted_any _ _ _ H.out hl).mono ?_; rintro e w' ⟨rfl, hb⟩; have HB := hid hb; clear hb)
  go_ret
  exact ⟨rfl, HB.out⟩
def cpB (n b : Int) : Bool := inB n 0 20 && inB b 0 20
def cpRes (n b : Int) : Int := if cpB n b = true then (pq b.toNat n.toNat : Int) else 0
theorem cp_no1 {n b : Int} (h : inB n 0 20 = false) : cpB n b = false ∧ cpRes n b = 0 := by unfold cpRes cpB; rw [h]; simp
theorem cp_no2 {n b : Int} (h : inB b 0 20 = false) : cpB n b = false ∧ cpRes n b = 0 := by unfold cpRes cpB; rw [h]; simp
theorem cp_yes {n b : Nat} (h : inB (n : Int) 0 20 = true) (h2 : inB (b : Int) 0 20 = true) : cpB n b = true ∧ cpRes n b = (pq b n : Int) := by unfold cpRes cpB; rw [h, h2]; simp
theorem spTotal_any (n : Int) (w : World) : Calls Try.prog 64 #[.int .i64 n] w fun e w' => e = .returned (.bool (inB n 0 20)) ∧ w = w' := by
  go_enter Try.func64, Try.ntmps64
  go_wp2_with (first | (go_at_call 72; refine (l1In_any _ _ _ _).mono ?_; rintro e w' ⟨rfl, rfl⟩) | fail)
  go_ret
  exact ⟨rfl, rfl⟩
theorem spec_CountParted_any (n b : Int) (w : World) (_wn : (Lit.int .i64 n).wf = true) (_wb : (Lit.int .i64 b).wf = true) :
    Calls Try.prog 31 #[.int .i64 n, .int .i64 b] w fun e w' => e = .returned (.tuple #[.int .i64 (cpRes n b), .bool (cpB n b)]) ∧ Below w.heap.size w w' := by
  cases hn : inB n 0 20
  · have HF := hid (cp_no1 (b := b) hn)
    go_enter Try.func31, Try.ntmps31
    go_wp2_with (first | (go_at_call 64; refine (spTotal_any _ _).mono ?_; rintro e w' ⟨rfl, rfl⟩; rw [hn]) | fail)
    go_ret2
    exact ⟨ret_nb6 HF.out.2.symm HF.out.1.symm, Below.refl _ _⟩
  · cases hb : inB b 0 20
    · have HF := hid (cp_no2 (n := n) hb)
      go_enter Try.func31, Try.ntmps31
      go_wp2_with (first | (go_at_call 64; refine (spTotal_any _ _).mono ?_; rintro e w' ⟨rfl, rfl⟩; (first | rw [hn] | rw [hb])) | fail)
      go_ret2
      exact ⟨ret_nb6 HF.out.2.symm HF.out.1.symm, Below.refl _ _⟩
    · have h1 := inB_iff.1 hn
      have h2 := inB_iff.1 hb
      obtain ⟨k, rfl⟩ : ∃ k : Nat, n = (k : Int) := ⟨n.toNat, by omega⟩
      obtain ⟨m, rfl⟩ : ∃ m : Nat, b = (m : Int) := ⟨b.toNat, by omega⟩
      have HF := hid (cp_yes hn hb)
      have HE := hid (fun W => spCount_any k m W (by omega) (by omega))
      clear h1 h2
      go_enter Try.func31, Try.ntmps31
      go_wp2_with (first
        | (go_at_call 64; refine (spTotal_any _ _).mono ?_; rintro e w' ⟨rfl, rfl⟩; (first | rw [hn] | rw [hb]))
        | (go_at_call 65; refine (HE.out _).mono ?_; rintro e w1 ⟨rfl, hb1⟩; have HB1 := hid hb1; clear hb1)
        | fail)
      go_ret2
      exact ⟨ret_nb6 HF.out.2.symm HF.out.1.symm, HB1.out⟩
theorem impl_CountParted_any (n b : Int) (w : World) (_wn : (Lit.int .i64 n).wf = true) (_wb : (Lit.int .i64 b).wf = true) :
    Calls Try.prog 32 #[.int .i64 n, .int .i64 b] w fun e w' => e = .returned (.tuple #[.int .i64 (cpRes n b), .bool (cpB n b)]) ∧ Below w.heap.size w w' := by
  cases hn : inB n 0 20
  · have HF := hid (cp_no1 (b := b) hn)
    go_enter Try.func32, Try.ntmps32
    go_wp2_with (first | (go_at_call 61; refine (isUpToParted_any _ _).mono ?_; rintro e w' ⟨rfl, rfl⟩; rw [hn]) | fail)
    go_ret2
    exact ⟨ret_nb6 HF.out.2.symm HF.out.1.symm, Below.refl _ _⟩
  · cases hb : inB b 0 20
    · have HF := hid (cp_no2 (n := n) hb)
      go_enter Try.func32, Try.ntmps32
      go_wp2_with (first | (go_at_call 61; refine (isUpToParted_any _ _).mono ?_; rintro e w' ⟨rfl, rfl⟩; (first | rw [hn] | rw [hb])) | fail)
      go_ret2
      exact ⟨ret_nb6 HF.out.2.symm HF.out.1.symm, Below.refl _ _⟩
    · have h1 := inB_iff.1 hn
      have h2 := inB_iff.1 hb
      obtain ⟨k, rfl⟩ : ∃ k : Nat, n = (k : Int) := ⟨n.toNat, by omega⟩
      obtain ⟨m, rfl⟩ : ∃ m : Nat, b = (m : Int) := ⟨b.toNat, by omega⟩
      have HF := hid (cp_yes hn hb)
      have HDD := hid (show ptD k m by unfold ptD; omega)
      clear h1 h2
      go_enter Try.func32, Try.ntmps32
      go_wp2_with (first
        | (go_at_call 61; refine (isUpToParted_any _ _).mono ?_; rintro e w' ⟨rfl, rfl⟩; (first | rw [hn] | rw [hb]))
        | (go_at_call 62; refine (partedNumbersOf_any k m _).mono ?_; rintro e w1 ⟨rfl, he, hm, hb1⟩; have HE1 := hid he; have HM1 := hid hm; have HB1 := hid hb1; clear he hm hb1)
        | (go_at_call 66; refine (countAllP_any ptShC ptK ptCntC _ k m _ HDD.out HE1.out ⟨_, HM1.out.mono (by omega), KInv.empty _⟩).mono ?_; rintro e w2 ⟨rfl, _, hg⟩; have HG2 := hid hg; clear hg)
        | fail)
      go_ret2
      exact ⟨ret_nb6 HF.out.2.symm HF.out.1.symm, HB1.out.grown HG2.out HB1.out.size (fun q hq => by have := Option.some.inj hq; omega)⟩
end Go.Proofs.Ytakelcboamjndab
