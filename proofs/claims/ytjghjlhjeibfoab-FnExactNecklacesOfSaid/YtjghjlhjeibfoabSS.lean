/- Contracts: eqIntSS, heldIntSS. Conditions: the slices read as lists of lists. -/
import Derived.Test.YtjghjlhjeibfoabBs2
import Derived.Test.YtjghjlhjeibfoabBs1
import Derived.Deep.RegionHeld3
namespace Go.Proofs.Ytjghjlhjeibfoab
open Go.RowKit
set_option linter.unusedVariables false

/-- how many numbers there are in the first k lists -/
def preLen (L : List (List Int)) : Nat → Nat
  | 0 => 0
  | k + 1 => preLen L k + (L.getD k []).length
theorem preLen_mono (L : List (List Int)) {a b : Nat} (h : a ≤ b) : preLen L a ≤ preLen L b := by
  induction b with
  | zero => rw [show a = 0 by omega]; exact Nat.le_refl _
  | succ b ih =>
    by_cases e : a = b + 1
    · rw [e]; exact Nat.le_refl _
    · have := ih (by omega)
      rw [preLen]; omega
/-- each number is marked, from m on -/
def Marked (m : Int) (L : List (List Int)) : Prop := ∀ i (h : i < L.length), L[i] = marks (m + preLen L i) L[i].length
theorem heldIntSS_any (v : Value) (L : List (List Int)) (base : Nat) (m : Int) (w : World) (h : Lists w base v L) (hx : Marked m L) (h0 : 0 ≤ m) (h1 : m ≤ 1073741824) (hl : preLen L L.length ≤ 1073741824) :
    Calls Try.prog 24 #[v, .int .i64 m] w fun e w' => e = .returned (.int .i64 (m + preLen L L.length)) ∧ w = w' := by
  rcases h.form with ⟨rfl, rfl⟩ | ⟨g, cap, rfl, _, hg, hc1, hm, hc⟩
  · go_enter Try.func24, Try.ntmps24
    go_wp2_with fail
    refine wp_loop_rounds 1 ?_
    rw [rounds_succ]
    go_wp2
    go_ret
    exact ⟨by simp [preLen], rfl⟩
  · have HC := hid hc
    have HX := hid hx
    clear hc h hx
    go_enter Try.func24, Try.ntmps24
    go_wp2_with fail
    go_loop [1, 5] (fun kv i => ∃ t : Nat, t ≤ L.length ∧ i = .int .i64 t ∧ kv = .int .i64 (m + preLen L t)) (fun _ i => L.length - (intOf i).toNat)
    case atStart => exact ⟨0, Nat.zero_le _, rfl, by simp [preLen]⟩
    case round =>
      obtain ⟨t, ht, rfl, rfl⟩ := hrel
      have hpm := preLen_mono L ht
      by_cases hlt : t < L.length
      · obtain ⟨z, hz, hown⟩ := HC.out t hlt
        have HZ := hid hown.reads
        have hpn := preLen_mono L (show t + 1 ≤ L.length from hlt)
        have HP := hid (show preLen L (t + 1) = preLen L t + L[t].length by rw [preLen]; simp [List.getD_eq_getElem?_getD, hlt])
        have HMK := hid (HX.out t hlt)
        rw [HP.out] at hpn
        obtain ⟨l, hll⟩ : ∃ l, l = L[t] := ⟨_, rfl⟩
        rw [← hll] at HZ HP HMK hpn
        obtain ⟨p, hp⟩ : ∃ p, p = preLen L t := ⟨_, rfl⟩
        rw [← hp] at HP HMK hpn hpm ⊢
        have h3 : 0 ≤ m + (p : Int) := by omega
        have h4 : m + (p : Int) ≤ 1099511627776 := by omega
        have h5 : l.length ≤ 1099511627776 := by omega
        clear hown hll hp
        go_wp2_with (first | (go_at_call 19; refine (heldIntS_any _ l _ _ HZ.out HMK.out h3 h4 h5).mono ?_; rintro e w1 ⟨rfl, rfl⟩) | fail)
        go_round
        case rel => exact ⟨t + 1, by omega, by go_num, by rw [HP.out]; go_num⟩
        case measure => simp [intOf]; omega
      · obtain rfl : t = L.length := by omega
        go_wp2_with fail
        go_ret
        exact ⟨rfl, rfl⟩
end Go.Proofs.Ytjghjlhjeibfoab
