/- Contracts: spEnds, both CountGrowths; the counts of growths. Conditions: none but the stated ranges. -/
import Derived.Test.YtakelcboamjndaaCntG
import Derived.Test.YtakelcboamjndaaShG
namespace Go.Proofs.Ytakelcboamjndaa
open Go.RowKit Go.Maps
set_option linter.unusedVariables false
set_option maxRecDepth 4000

theorem ret_nb6 {n n' : Int} {b b' : Bool} (hn : n = n') (h : b = b') : Ending.returned (.tuple #[.int .i64 n, .bool b]) = .returned (.tuple #[.int .i64 n', .bool b']) := by rw [h, hn]

/-- the ways to go on a growth with m different numbers by k elements -/
def ends : Nat → Nat → Nat
  | 0, _ => 1
  | k + 1, m => m * ends k m + ends k (m + 1)
theorem ends_all : ∀ k, k < 13 → ∀ m, m < 14 → k + m ≤ 13 → m * ends k m ≤ 500000000 ∧ ends k m ≤ 500000000 := by decide +kernel
theorem ends_le {k m : Nat} (h : k + m ≤ 13) (hk : k < 13) : ends k m ≤ 500000000 := (ends_all k hk m (by omega) h).2
theorem ends_mul {k m : Nat} (h : k + m ≤ 13) (hk : k < 13) : m * ends k m ≤ 500000000 := (ends_all k hk m (by omega) h).1
theorem sumL_const {f : Int → Nat} {c : Nat} : ∀ n, (∀ i : Nat, i < n → f i = c) → sumL f (upTo n) = n * c
  | 0, _ => by simp [upTo, sumL]
  | n + 1, h => by rw [upTo_succ, sumL_snoc, sumL_const n (fun i hi => h i (by omega)), h n (by omega), Nat.succ_mul]
theorem gr_step {l b : Nat} (h0 : l ≠ 0) : ends l b = sumL (fun x => ends (grNl l b x) (grNb l b x)) (grCh l b) := by
  obtain ⟨k, rfl⟩ : ∃ k, l = k + 1 := ⟨l - 1, by omega⟩
  rw [grCh, upTo_succ, sumL_snoc, sumL_const (c := ends k b) b (fun i hi => by
    show ends (k + 1 - 1) (max b ((i : Int).toNat + 1)) = _
    rw [Nat.add_sub_cancel]; congr 1; simp; omega)]
  show _ = _ + ends (k + 1 - 1) (max b ((b : Int).toNat + 1))
  rw [Nat.add_sub_cancel, show max b ((b : Int).toNat + 1) = b + 1 by simp]; rfl
theorem grCntC : CntC grD grCh grNl grNb ends where
  zero b _ := rfl
  step l b _ h0 := gr_step h0
  small l b h := by unfold grD at h; omega
  bound l b h := by unfold grD at h; have := ends_le (k := l) (m := b) (by omega) (by omega); omega
  less l b x _ h0 _ := by unfold grNl; omega
theorem spEnds_any (k : Nat) : ∀ (m : Nat) (w : World), k + m ≤ 13 → k < 13 → Calls Try.prog 60 #[.int .i64 (m : Int), .int .i64 (k : Int)] w fun e w' => e = .returned (.int .i64 (ends k m)) ∧ w = w' := by
  induction k with
  | zero =>
    intro m w _ _
    go_enter Try.func60, Try.ntmps60
    go_wp2_with fail
    go_ret
    exact ⟨rfl, rfl⟩
  | succ k ih =>
    intro m w h hk
    have h0 : ((k : Int) + 1 == 0) = false := by simp; omega
    have U1 := hid (show IntKind.i64.wrap ((m : Int) * (ends k m : Int)) = (m : Int) * (ends k m : Int) by
      have b3 := cast_mul_le (ends_mul (k := k) (m := m) (by omega) (by omega))
      have b4 : (0 : Int) ≤ (m : Int) * (ends k m : Int) := Int.mul_nonneg (by omega) (by omega)
      exact IntWalk.i64_in _ (by omega))
    have U2 := hid (show IntKind.i64.wrap ((m : Int) * (ends k m : Int) + (ends k (m + 1) : Int)) = (m : Int) * (ends k m : Int) + (ends k (m + 1) : Int) by
      have b2 := ends_le (k := k) (m := m + 1) (by omega) (by omega)
      have b3 := cast_mul_le (ends_mul (k := k) (m := m) (by omega) (by omega))
      have b4 : (0 : Int) ≤ (m : Int) * (ends k m : Int) := Int.mul_nonneg (by omega) (by omega)
      exact IntWalk.i64_in _ (by omega))
    have HI := hid (fun W => ih m W (by omega) (by omega))
    have HJ := hid (fun W => ih (m + 1) W (by omega) (by omega))
    have HF := hid (show (ends (k + 1) m : Int) = (m : Int) * (ends k m : Int) + (ends k (m + 1) : Int) by rw [ends]; push_cast; rfl)
    obtain ⟨p, hp⟩ : ∃ p, p = ends k m := ⟨_, rfl⟩
    obtain ⟨q, hq⟩ : ∃ q, q = ends k (m + 1) := ⟨_, rfl⟩
    rw [← hp] at HI HF U1 U2
    rw [← hq] at HJ HF U2
    clear ih hp hq
    go_enter Try.func60, Try.ntmps60
    go_wp2_with fail
    refine (HI.out _).mono ?_
    rintro e w' ⟨rfl, rfl⟩
    go_wp2_with fail
    refine (HJ.out _).mono ?_
    rintro e w' ⟨rfl, rfl⟩
    go_wp2_with fail
    go_ret
    exact ⟨ret_int (by rw [HF.out, ← IntWalk.i64_left, ← IntWalk.i64_left, U1.out, U2.out]), rfl⟩
def cgRes (n : Int) : Int := if inB n 1 12 = true then (ends n.toNat 0 : Int) else 0
theorem spec_CountGrowths_any (n : Int) (w : World) (_wn : (Lit.int .i64 n).wf = true) :
    Calls Try.prog 30 #[.int .i64 n] w fun e w' => e = .returned (.tuple #[.int .i64 (cgRes n), .bool (inB n 1 12)]) ∧ Below w.heap.size w w' := by
  cases hn : inB n 1 12
  · have HF := hid (show cgRes n = 0 by unfold cgRes; rw [hn]; simp)
    go_enter Try.func30, Try.ntmps30
    go_wp2_with (first | (go_at_call 55; refine (l1In_any _ _ _ _).mono ?_; rintro e w' ⟨rfl, rfl⟩; rw [hn]) | fail)
    go_ret2
    exact ⟨ret_nb6 HF.out.symm rfl, Below.refl _ _⟩
  · obtain ⟨h1, h2⟩ := inB_iff.1 hn
    obtain ⟨k, rfl⟩ : ∃ k : Nat, n = (k : Int) + 1 := ⟨(n - 1).toNat, by omega⟩
    have HF := hid (show cgRes ((k : Int) + 1) = (ends k 1 : Int) by
      unfold cgRes; rw [if_pos hn, show ((k : Int) + 1).toNat = k + 1 by omega, ends]; simp)
    have HE := hid (fun W => spEnds_any k 1 W (by omega) (by omega))
    have u1 : IntKind.i64.wrap ((k : Int) + 1 - 1) = (k : Int) := by rw [IntWalk.i64_in _ (by omega)]; omega
    have u2 : (k : Int) + 1 - 1 = (k : Int) := by omega
    go_enter Try.func30, Try.ntmps30
    go_wp2_with (first | (go_at_call 55; refine (l1In_any _ _ _ _).mono ?_; rintro e w' ⟨rfl, rfl⟩; rw [hn]) | (go_at_call 60; refine (HE.out _).mono ?_; rintro e w' ⟨rfl, rfl⟩) | fail)
    go_ret2
    exact ⟨ret_nb6 HF.out.symm rfl, Below.refl _ _⟩
theorem impl_CountGrowths_any (n : Int) (w : World) (_wn : (Lit.int .i64 n).wf = true) :
    Calls Try.prog 31 #[.int .i64 n] w fun e w' => e = .returned (.tuple #[.int .i64 (cgRes n), .bool (inB n 1 12)]) ∧ Below w.heap.size w w' := by
  cases hn : inB n 1 12
  · have HF := hid (show cgRes n = 0 by unfold cgRes; rw [hn]; simp)
    go_enter Try.func31, Try.ntmps31
    go_wp2_with (first | (go_at_call 49; refine (isGrowthLength_any _ _).mono ?_; rintro e w' ⟨rfl, rfl⟩; rw [hn]) | fail)
    go_ret2
    exact ⟨ret_nb6 HF.out.symm rfl, Below.refl _ _⟩
  · obtain ⟨h1, h2⟩ := inB_iff.1 hn
    obtain ⟨k, rfl⟩ : ∃ k : Nat, n = (k : Int) := ⟨n.toNat, by omega⟩
    have HF := hid (show cgRes (k : Int) = (ends k 0 : Int) by unfold cgRes; rw [if_pos hn]; rfl)
    have HG := hid (fun W => growthsOf_any k W (by omega))
    have HDD := hid (show grD k 0 by unfold grD; omega)
    go_enter Try.func31, Try.ntmps31
    go_wp2_with (first
      | (go_at_call 49; refine (isGrowthLength_any _ _).mono ?_; rintro e w' ⟨rfl, rfl⟩; rw [hn])
      | (go_at_call 50; refine (HG.out _).mono ?_; rintro e w1 ⟨rfl, he, hm, hb⟩; have HE1 := hid he; have HM1 := hid hm; have HB1 := hid hb; clear he hm hb)
      | (go_at_call 61; refine (countAllG_any grShC ends grCntC _ k 0 _ HDD.out HE1.out ⟨_, HM1.out.mono (by omega), KInv.empty _⟩).mono ?_; rintro e w2 ⟨rfl, _, hg⟩; have HG2 := hid hg; clear hg)
      | fail)
    go_ret2
    exact ⟨ret_nb6 HF.out.symm rfl, HB1.out.grown HG2.out HB1.out.size (fun q hq => by have := Option.some.inj hq; omega)⟩
end Go.Proofs.Ytakelcboamjndaa
