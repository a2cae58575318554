/- Contract: slices.Index at a number that is there. Conditions: the slice is not nil and reads as a list. -/
import Derived.Test.YtakelcboamjndaaBs1
namespace Go.Proofs.Ytakelcboamjndaa
open Go.RowKit
set_option linter.unusedVariables false

/-- the first place of x -/
def ixL (x : Int) : List Int → Nat
  | [] => 0
  | y :: t => if y = x then 0 else ixL x t + 1
theorem ixL_lt {x : Int} : ∀ {l : List Int}, x ∈ l → ixL x l < l.length
  | y :: t, h => by
    rw [ixL]
    split
    · simp
    · rename_i hne
      have := ixL_lt (l := t) (by rcases List.mem_cons.1 h with h | h; exact absurd h.symm hne; exact h)
      simp
      omega
theorem ixL_get {x : Int} : ∀ {l : List Int}, x ∈ l → l.getD (ixL x l) 0 = x
  | y :: t, h => by
    rw [ixL]
    split
    · rename_i e
      simpa using e
    · rename_i hne
      have := ixL_get (l := t) (by rcases List.mem_cons.1 h with h | h; exact absurd h.symm hne; exact h)
      simpa using this
theorem ixL_first {x : Int} : ∀ {l : List Int} {i : Nat}, i < ixL x l → l.getD i 0 ≠ x
  | y :: t, i, h => by
    rw [ixL] at h
    split at h
    · omega
    · rename_i hne
      match i with
      | 0 => simpa using hne
      | i + 1 =>
        have := ixL_first (x := x) (l := t) (i := i) (by omega)
        simpa using this
/-- how many lesser ones stand ahead of x -/
def cbL (x : Int) : List Int → Nat
  | [] => 0
  | z :: t => if z = x then 0 else (if z < x then 1 else 0) + cbL x t
theorem Index_ix (v : Value) (l : List Int) (x : Int) (w : World) (h : Sits w v l) (hx : x ∈ l) :
    Calls Try.prog 88 #[v, .int .i64 x] w fun e w' => e = .returned (.int .i64 (ixL x l : Int)) ∧ w = w' := by
  obtain ⟨b, off, c, rfl, hc1, hm, hb, hc⟩ := h
  have HC := hid hc
  have HLT := hid (ixL_lt hx)
  have HGET := hid (ixL_get hx)
  have HFST := hid (fun i => ixL_first (x := x) (l := l) (i := i))
  obtain ⟨r, hr⟩ : ∃ r, r = ixL x l := ⟨_, rfl⟩
  rw [← hr] at HLT HGET HFST ⊢
  clear hc hr hx
  go_enter Try.func88, Try.ntmps88
  go_wp2_with fail
  go_loop [8] (fun i => ∃ k : Nat, k ≤ r ∧ i = .int .i64 k) (fun i => l.length - (intOf i).toNat)
  case atStart => exact ⟨0, Nat.zero_le _, rfl⟩
  case round =>
    obtain ⟨k, hk, rfl⟩ := hrel
    have hlt : k < l.length := Nat.lt_of_le_of_lt hk HLT.out
    have hck := HC.out k hlt
    have HK := hid hk
    have q1 : (0 : Int) ≤ (k : Int) := by omega
    have q2 : (k : Int) < (l.length : Int) := by omega
    by_cases e : k = r
    · have hv : l[k] = x := by have := HGET.out; rw [← e, getD_at hlt] at this; exact this
      rw [hv] at hck
      have hbb : (x == x) = true := by simp
      have HE := hid (show (k : Int) = (r : Int) by omega)
      clear e hv hk
      go_wp2_with fail
      go_ret
      exact ⟨ret_int HE.out, rfl⟩
    · have hv : l[k] ≠ x := by rw [← getD_at hlt]; exact HFST.out k (by omega)
      obtain ⟨y, hy⟩ : ∃ y, y = l[k] := ⟨_, rfl⟩
      rw [← hy] at hck hv
      have hbb : (x == y) = false := by simp [Ne.symm hv]
      have HKR := hid (show k + 1 ≤ r by omega)
      clear e hv hy hk
      go_wp2_with fail
      go_round
      case rel => exact ⟨k + 1, HKR.out, by go_num⟩
      case measure => simp [intOf]; omega
end Go.Proofs.Ytakelcboamjndaa
