/- Contracts: spEnds, both CountGrowths; the counts of growths. Conditions: none but the stated ranges. -/
import Derived.Test.YtakelcboamjndabCntG
import Derived.Test.YtakelcboamjndabShG
namespace Go.Proofs.Ytakelcboamjndab
open Go.RowKit Go.Maps
set_option linter.unusedVariables false
set_option maxRecDepth 4000

theorem ret_nb6 {n n' : Int} {b b' : Bool} (hn : n = n') (h : b = b') : Ending.returned (.tuple #[.int .i64 n, .bool b]) = .returned (.tuple #[.int .i64 n', .bool b']) := by rw [h, hn]

/-- the ways to go on a growth with m different numbers by k elements -/
def ends : Nat → Nat → Nat
  | 0, _ => 1
  | k + 1, m => m * ends k m + ends k (m + 1)
theorem ends_all : ∀ k, k < 13 → ∀ m, m < 14 → k + m ≤ 13 → m * ends k m ≤ 500000000 ∧ ends k m ≤ 500000000 := by decide +kernel
theorem ends_le {k m : Nat} (h : k + m ≤ 13) (hk : k < 13) : ends k m ≤ 500000000 := (ends_all k hk m (by omega) h).2
theorem ends_mul {k m : Nat} (h : k + m ≤ 13) (hk : k < 13) : m * ends k m ≤ 500000000 := (ends_all k hk m (by omega) h).1
theorem sumL_const {f : Int → Nat} {c : Nat} : ∀ n, (∀ i : Nat, i < n → f i = c) → sumL f (upTo n) = n * c
  | 0, _ => by simp [upTo, sumL]
  | n + 1, h => by rw [upTo_succ, sumL_snoc, sumL_const n (fun i hi => h i (by omega)), h n (by omega), Nat.succ_mul]
theorem gr_step {l b : Nat} (h0 : l ≠ 0) : ends l b = sumL (fun x => ends (grNl l b x) (grNb l b x)) (grCh l b) := by
  obtain ⟨k, rfl⟩ : ∃ k, l = k + 1 := ⟨l - 1, by omega⟩
  rw [grCh, upTo_succ, sumL_snoc, sumL_const (c := ends k b) b (fun i hi => by
    show ends (k + 1 - 1) (max b ((i : Int).toNat + 1)) = _
    rw [Nat.add_sub_cancel]; congr 1; simp; omega)]
  show _ = _ + ends (k + 1 - 1) (max b ((b : Int).toNat + 1))
  rw [Nat.add_sub_cancel, show max b ((b : Int).toNat + 1) = b + 1 by simp]; rfl
theorem grCntC : CntC grD grCh grNl grNb ends where
  zero b _ := rfl
  step l b _ h0 := gr_step h0
  small l b h := by unfold grD at h; omega
  bound l b h := by unfold grD at h; have := ends_le (k := l) (m := b) (by omega) (by omega); omega
  less l b x _ h0 _ := by unfold grNl; omega
end Go.Proofs.Ytakelcboamjndab
