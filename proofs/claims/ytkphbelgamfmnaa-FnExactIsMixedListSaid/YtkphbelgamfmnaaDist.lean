/- Contracts: l1Abs, gcStep and changedDigit, of digits of the same bases. Conditions: elements in 0..11, lists of the same length, at most 12. -/
import Derived.Test.YtkphbelgamfmnaaMixL
import Derived.Test.YtkphbelgamfmnaaStep
namespace Go.Proofs.Ytkphbelgamfmnaa
open Go.RowKit
set_option linter.unusedVariables false

theorem dist_step {a b : List Int} {k : Nat} {x y : Int} (hk : k < a.length) (hk' : k < b.length) (hx : a[k] = x) (hy : b[k] = y) : distTo a b (k + 1) = distTo a b k + absI (x - y) := by
  rw [distTo, getD_at hk, getD_at hk', hx, hy]
theorem l1Abs_any (d : Int) (w : World) (h : d ≠ 0) (h1 : -12 ≤ d) (h2 : d ≤ 12) : Calls Try.prog 54 #[.int .i64 d] w fun e w' => e = .returned (.int .i64 (absI d)) ∧ w = w' := by
  have hne : -d < d ∨ d < -d := by omega
  have hww : IntKind.i64.wrap (-d) = -d := IntWalk.i64_in _ (by omega)
  have hm : (if -d < d then d else -d) = absI d := by unfold absI; split <;> split <;> omega
  go_enter Try.func54, Try.ntmps54
  go_wp2_with (first | (go_at_call 71; refine (l1Most_any _ _ _ hne).mono ?_; rintro e w' ⟨rfl, rfl⟩; rw [hm]) | fail)
  go_ret
  exact ⟨rfl, rfl⟩
theorem gcStep_all (v u : Value) (a b : List Int) (w : World) (h : Sits w v a) (h' : Sits w u b) (hlen : b.length = a.length) (hl : a.length ≤ 12)
    (ha : ∀ i, i < a.length → 0 ≤ a.getD i 0 ∧ a.getD i 0 ≤ 11) (hb0 : ∀ i, i < b.length → 0 ≤ b.getD i 0 ∧ b.getD i 0 ≤ 11) :
    Calls Try.prog 31 #[v, u] w fun e w' => (∃ r : Int, e = .returned (.int .i64 r) ∧ decide (r < 0) = !(stepB a b)) ∧ w = w' := by
  obtain ⟨g, off, c, rfl, hc1, hm, hb, hc⟩ := h
  obtain ⟨g', off', c', rfl, hc1', hm', hb', hc'⟩ := h'
  have HLEN := hid hlen
  have HA := hid ha
  have HB := hid hb0
  have HC := hid hc
  have HC' := hid hc'
  clear hlen ha hb0 hc hc'
  go_enter Try.func31, Try.ntmps31
  go_wp2
  go_loopw [5, 6, 7, 10] (fun at_ _ _ i wr => ∃ (k : Nat) (z : Int), k ≤ a.length ∧ i = .int .i64 k ∧ at_ = .int .i64 z ∧ ((z = -1 ∧ distTo a b k = 0) ∨ (0 ≤ z ∧ z < k ∧ distTo a b k = 1)) ∧ w = wr) (fun _ _ _ i _ => a.length - (intOf i).toNat)
  case atStart => exact ⟨0, -1, Nat.zero_le _, rfl, rfl, .inl ⟨rfl, rfl⟩, rfl⟩
  case round =>
    obtain ⟨k, z, hk, rfl, rfl, hz, rfl⟩ := hrel
    by_cases hlt : k < a.length
    · have hlt' : k < b.length := by have := HLEN.out; omega
      have hcx := HC.out k hlt
      have hcy := HC'.out k hlt'
      have hx1 := HA.out k hlt
      have hy1 := HB.out k hlt'
      rw [getD_at hlt] at hx1
      rw [getD_at hlt'] at hy1
      obtain ⟨x, hx⟩ : ∃ x, x = a[k] := ⟨_, rfl⟩
      obtain ⟨y, hy⟩ : ∃ y, y = b[k] := ⟨_, rfl⟩
      have HDS := hid (dist_step hlt hlt' hx.symm hy.symm)
      have HNO := hid (fun h2 => stepB_no (a := a) (b := b) (k := k + 1) (by omega) h2)
      rw [← hx] at hcx hx1
      rw [← hy] at hcy hy1
      clear hx hy
      by_cases he : x = y
      · subst he
        have hbb : (x == x) = true := by simp
        have HD0 := hid (show distTo a b (k + 1) = distTo a b k by rw [HDS.out, Int.sub_self, absI_zero.2 rfl, Int.add_zero])
        have HZ := hid hz
        clear hz
        go_wp2
        go_roundw
        case rel => exact ⟨k + 1, z, by omega, by go_num, rfl, by rw [HD0.out]; rcases HZ.out with ⟨e1, e2⟩ | ⟨e1, e2, e3⟩; exact .inl ⟨e1, e2⟩; exact .inr ⟨e1, by omega, e3⟩, trivial⟩
        case measure => simp [intOf]; omega
      · have hbb : (x == y) = false := by simpa using he
        obtain ⟨d, hd⟩ : ∃ d, d = x - y := ⟨_, rfl⟩
        have hww : IntKind.i64.wrap (x - y) = d := by rw [hd]; exact IntWalk.i64_in _ (by omega)
        have hd0 : d ≠ 0 := by omega
        have hd1 : -12 ≤ d := by omega
        have hd2 : d ≤ 12 := by omega
        rw [← hd] at HDS
        have hap : 1 ≤ absI d := by have := absI_nonneg d; have h2 := (absI_zero (x := d)); omega
        obtain ⟨m, hmm⟩ : ∃ m, m = absI d := ⟨_, rfl⟩
        have HMM := hid hmm
        rw [← hmm] at HDS hap
        rcases hz with ⟨rfl, hz⟩ | ⟨h0, h1, hz⟩
        · have HZ := hid hz
          clear hz hmm hd
          by_cases hm1 : m = 1
          · have hbm : (m != 1) = false := by simp [hm1]
            have HM1 := hid hm1
            clear hm1
            go_wp2_with (first | (go_at_call 54; refine (l1Abs_any d _ hd0 hd1 hd2).mono ?_; rintro e w' ⟨rfl, rfl⟩; rw [← HMM.out]) | fail)
            go_roundw
            case rel => exact ⟨k + 1, k, by omega, by go_num, rfl, .inr ⟨by omega, by omega, by rw [HDS.out, HZ.out, HM1.out]; rfl⟩, trivial⟩
            case measure => simp [intOf]; omega
          · have hbm : (m != 1) = true := by simpa using hm1
            have HM1 := hid hm1
            clear hm1
            go_wp2_with (first | (go_at_call 54; refine (l1Abs_any d _ hd0 hd1 hd2).mono ?_; rintro e w' ⟨rfl, rfl⟩; rw [← HMM.out]) | fail)
            go_ret
            exact ⟨⟨_, rfl, by rw [HNO.out (by have := HDS.out; have := HZ.out; have := HM1.out; omega)]; rfl⟩, rfl⟩
        · have HZ := hid hz
          clear hz hmm hd
          go_wp2_with fail
          go_ret
          exact ⟨⟨_, rfl, by rw [HNO.out (by have := HDS.out; have := HZ.out; omega)]; rfl⟩, rfl⟩
    · obtain rfl : k = a.length := by omega
      have HZ := hid hz
      clear hz
      go_wp2
      go_ret
      refine ⟨⟨_, rfl, ?_⟩, rfl⟩
      unfold stepB
      rcases HZ.out with ⟨rfl, e2⟩ | ⟨e1, e2, e3⟩
      · rw [e2]; rfl
      · rw [e3]; simp; omega
set_option maxHeartbeats 1000000 in
theorem changedDigit_all (v u : Value) (a b : List Int) (w : World) (h : Sits w v a) (h' : Sits w u b) (hlen : b.length = a.length) (hl : a.length ≤ 12)
    (ha : ∀ i, i < a.length → 0 ≤ a.getD i 0 ∧ a.getD i 0 ≤ 11) (hb0 : ∀ i, i < b.length → 0 ≤ b.getD i 0 ∧ b.getD i 0 ≤ 11) :
    Calls Try.prog 56 #[v, u] w fun e w' => (∃ r : Int, e = .returned (.tuple #[.int .i64 r, .bool (stepB a b)])) ∧ ∃ q, w' = w.drewN q := by
  obtain ⟨g, off, c, rfl, hc1, hm, hb, hc⟩ := h
  obtain ⟨g', off', c', rfl, hc1', hm', hb', hc'⟩ := h'
  have HLEN := hid hlen
  have HA := hid ha
  have HB := hid hb0
  have HC := hid hc
  have HC' := hid hc'
  have HD12 := hid (distTo_le (a := a) (b := b) (n := a.length) (fun i hi => by
    have h1 := HA.out i hi
    have h2 := HB.out i (by have := HLEN.out; omega)
    unfold absI; split <;> omega))
  clear hlen ha hb0 hc hc'
  go_enter Try.func56, Try.ntmps56
  go_wp2
  go_loopw [6, 7, 8, 9, 12] (fun at_ st _ _ i wr => ∃ (k : Nat) (z d : Int), k ≤ a.length ∧ i = .int .i64 k ∧ at_ = .int .i64 z ∧ st = .int .i64 d ∧ d = distTo a b k ∧ ∃ q, wr = w.drewN q) (fun _ _ _ _ i _ => a.length - (intOf i).toNat)
  case atStart => exact ⟨0, 0, 0, Nat.zero_le _, rfl, rfl, rfl, rfl, 0, rfl⟩
  case round =>
    obtain ⟨k, z, s, hk, rfl, rfl, rfl, hs, hq⟩ := hrel
    have hs0 := distTo_nonneg a b k
    have hs1 := HD12.out k hk
    rw [← hs] at hs0 hs1
    by_cases hlt : k < a.length
    · have hlt' : k < b.length := by have := HLEN.out; omega
      have hx1 := HA.out k hlt
      have hy1 := HB.out k hlt'
      have HDD := hid (Drew.next hq 1)
      have hcx : wr.cell? ⟨g, off + k, none⟩ = some (.int .i64 a[k]) := ((Drew.below hq w.heap.size).cell (by exact hb)).trans (HC.out k hlt)
      have hcy : wr.cell? ⟨g', off' + k, none⟩ = some (.int .i64 b[k]) := ((Drew.below hq w.heap.size).cell (by exact hb')).trans (HC'.out k hlt')
      have hkl : (k : Int) < (a.length : Int) := by omega
      have hkl' : (k : Int) < (b.length : Int) := by omega
      have hk0 : (0 : Int) ≤ (k : Int) := by omega
      rw [getD_at hlt] at hx1
      rw [getD_at hlt'] at hy1
      have HH := hid hq
      clear hq
      obtain ⟨x, hx⟩ : ∃ x, x = a[k] := ⟨_, rfl⟩
      obtain ⟨y, hy⟩ : ∃ y, y = b[k] := ⟨_, rfl⟩
      have HDS := hid (dist_step hlt hlt' hx.symm hy.symm)
      rw [← hx] at hcx hx1
      rw [← hy] at hcy hy1
      have hcx' : wr.drew.cell? ⟨g, off + k, none⟩ = some (.int .i64 x) := hcx
      have hcy' : wr.drew.cell? ⟨g', off' + k, none⟩ = some (.int .i64 y) := hcy
      obtain ⟨d, hd⟩ : ∃ d, d = x - y := ⟨_, rfl⟩
      rw [← hd] at HDS
      have hww : IntKind.i64.wrap (x - y) = d := by rw [hd]; exact IntWalk.i64_in _ (by omega)
      have hww' : IntKind.i64.wrap (y - x) = -d := by rw [hd, Int.neg_sub]; exact IntWalk.i64_in _ (by omega)
      have hap := absI_nonneg d
      have hap2 : absI d ≤ 12 := by unfold absI; split <;> omega
      obtain ⟨m, hmm⟩ : ∃ m, m = absI d := ⟨_, rfl⟩
      have hmx : (if d < -d then -d else d) = m := by rw [hmm]; unfold absI; split <;> split <;> omega
      have HAP := hid (show apV x y = m by unfold apV; rw [← Int.neg_sub x y, ← hd, hmm]; unfold absI; split <;> omega)
      have hs1 : -100000 ≤ x - y := by omega
      have hs2 : x - y ≤ 100000 := by omega
      rw [← hmm] at HDS hap hap2
      rw [← hs] at HDS
      clear hx hy hd hmm hs
      by_cases hm0 : m = 0
      · subst hm0
        go_wp2
        go_region_held3 (fun w' => w'.cell? ⟨g, off + k, none⟩ = some (.int .i64 x) ∧ w'.cell? ⟨g', off' + k, none⟩ = some (.int .i64 y))
          (first | exact ⟨hcx', hcy'⟩ | go_keep | fail)
          (first | (go_at_call 72; refine (apart_any x y _ hs1 hs2).mono ?_; rintro e w2 ⟨rfl, rfl⟩; rw [HAP.out]) | fail)
        all_goals
          go_wp2
          go_roundw
          case rel => exact ⟨k + 1, _, _, by omega, by go_num, rfl, rfl, by rw [HDS.out, Int.add_zero], HDD.out⟩
          case measure => simp [intOf]; omega
      · have hm1 : 0 < m := by omega
        go_wp2
        go_region_held3 (fun w' => w'.cell? ⟨g, off + k, none⟩ = some (.int .i64 x) ∧ w'.cell? ⟨g', off' + k, none⟩ = some (.int .i64 y))
          (first | exact ⟨hcx', hcy'⟩ | go_keep | fail)
          (first | (go_at_call 72; refine (apart_any x y _ hs1 hs2).mono ?_; rintro e w2 ⟨rfl, rfl⟩; rw [HAP.out]) | fail)
        all_goals
          go_wp2
          go_roundw
          case rel => exact ⟨k + 1, _, _, by omega, by go_num, rfl, rfl, by rw [HDS.out], HDD.out⟩
          case measure => simp [intOf]; omega
    · obtain rfl : k = a.length := by omega
      have HS := hid hs
      by_cases he : s = 1
      · have HST := hid (show stepB a b = true from decide_eq_true (by rw [← hs]; exact he))
        clear hs HS
        subst he
        go_wp2
        go_ret2
        exact ⟨⟨z, by rw [HST.out]; rfl⟩, hq⟩
      · have hbb : (s != 1) = true := by simpa using he
        have HST := hid (show stepB a b = false from decide_eq_false (by rw [← hs]; exact he))
        clear hs
        go_wp2
        go_ret2
        exact ⟨⟨0, by rw [HST.out]; rfl⟩, hq⟩
end Go.Proofs.Ytkphbelgamfmnaa
