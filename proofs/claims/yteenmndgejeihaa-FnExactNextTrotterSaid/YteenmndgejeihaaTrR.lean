/- Contracts: gcPlace and slices.Index where the number stands, moTrotterRank, both TrotterRank functions. Conditions: the slice is not nil and reads as a list of at most 2^20 numbers. -/
import Derived.Test.YteenmndgejeihaaTrI
namespace Go.Proofs.Yteenmndgejeihaa
open Go.RowKit
set_option linter.unusedVariables false
set_option maxRecDepth 4000

theorem gcPlace_ix (v : Value) (l : List Int) (x : Int) (w : World) (h : Sits w v l) (hx : x ∈ l) :
    Calls Try.prog 115 #[v, .int .i64 x] w fun e w' => e = .returned (.int .i64 (ixL x l : Int)) ∧ w = w' := by
  obtain ⟨b, off, c, rfl, hc1, hm, hb, hc⟩ := h
  have HC := hid hc
  have HLT := hid (ixL_lt hx)
  have HGET := hid (ixL_get hx)
  have HFST := hid (fun i => ixL_first (x := x) (l := l) (i := i))
  obtain ⟨r, hr⟩ : ∃ r, r = ixL x l := ⟨_, rfl⟩
  rw [← hr] at HLT HGET HFST ⊢
  clear hc hr hx
  go_enter Try.func115, Try.ntmps115
  go_wp2_with fail
  go_loop [9] (fun i => ∃ k : Nat, k ≤ r ∧ i = .int .i64 k) (fun i => l.length - (intOf i).toNat)
  case atStart => exact ⟨0, Nat.zero_le _, rfl⟩
  case round =>
    obtain ⟨k, hk, rfl⟩ := hrel
    have hlt : k < l.length := Nat.lt_of_le_of_lt hk HLT.out
    have hck := HC.out k hlt
    have HK := hid hk
    have q1 : (0 : Int) ≤ (k : Int) := by omega
    have q2 : (k : Int) < (l.length : Int) := by omega
    by_cases e : k = r
    · have hv : l[k] = x := by have := HGET.out; rw [← e, getD_at hlt] at this; exact this
      rw [hv] at hck
      have hbb : (x == x) = true := by simp
      have HE := hid (show (k : Int) = (r : Int) by omega)
      clear e hv hk
      go_wp2_with fail
      go_ret
      exact ⟨ret_int HE.out, rfl⟩
    · have hv : l[k] ≠ x := by rw [← getD_at hlt]; exact HFST.out k (by omega)
      obtain ⟨y, hy⟩ : ∃ y, y = l[k] := ⟨_, rfl⟩
      rw [← hy] at hck hv
      have hbb : (x == y) = false := by simp [Ne.symm hv]
      have HKR := hid (show k + 1 ≤ r by omega)
      clear e hv hy hk
      go_wp2_with fail
      go_round
      case rel => exact ⟨k + 1, HKR.out, by go_num⟩
      case measure => simp [intOf]; omega
theorem Index_ix (v : Value) (l : List Int) (x : Int) (w : World) (h : Sits w v l) (hx : x ∈ l) :
    Calls Try.prog 74 #[v, .int .i64 x] w fun e w' => e = .returned (.int .i64 (ixL x l : Int)) ∧ w = w' := by
  obtain ⟨b, off, c, rfl, hc1, hm, hb, hc⟩ := h
  have HC := hid hc
  have HLT := hid (ixL_lt hx)
  have HGET := hid (ixL_get hx)
  have HFST := hid (fun i => ixL_first (x := x) (l := l) (i := i))
  obtain ⟨r, hr⟩ : ∃ r, r = ixL x l := ⟨_, rfl⟩
  rw [← hr] at HLT HGET HFST ⊢
  clear hc hr hx
  go_enter Try.func74, Try.ntmps74
  go_wp2_with fail
  go_loop [8] (fun i => ∃ k : Nat, k ≤ r ∧ i = .int .i64 k) (fun i => l.length - (intOf i).toNat)
  case atStart => exact ⟨0, Nat.zero_le _, rfl⟩
  case round =>
    obtain ⟨k, hk, rfl⟩ := hrel
    have hlt : k < l.length := Nat.lt_of_le_of_lt hk HLT.out
    have hck := HC.out k hlt
    have HK := hid hk
    have q1 : (0 : Int) ≤ (k : Int) := by omega
    have q2 : (k : Int) < (l.length : Int) := by omega
    by_cases e : k = r
    · have hv : l[k] = x := by have := HGET.out; rw [← e, getD_at hlt] at this; exact this
      rw [hv] at hck
      have hbb : (x == x) = true := by simp
      have HE := hid (show (k : Int) = (r : Int) by omega)
      clear e hv hk
      go_wp2_with fail
      go_ret
      exact ⟨ret_int HE.out, rfl⟩
    · have hv : l[k] ≠ x := by rw [← getD_at hlt]; exact HFST.out k (by omega)
      obtain ⟨y, hy⟩ : ∃ y, y = l[k] := ⟨_, rfl⟩
      rw [← hy] at hck hv
      have hbb : (x == y) = false := by simp [Ne.symm hv]
      have HKR := hid (show k + 1 ≤ r by omega)
      clear e hv hy hk
      go_wp2_with fail
      go_round
      case rel => exact ⟨k + 1, HKR.out, by go_num⟩
      case measure => simp [intOf]; omega
theorem sits_own {w : World} {B : Nat} {v : Value} {xs : List Int} (h : Own w B v xs) (hn : v ≠ .slice none 0 0) : Sits w v xs := by
  rcases h.form with ⟨e, _⟩ | ⟨g, cap, e, _⟩
  · exact absurd e hn
  · rw [e] at h ⊢
    exact h.sits
set_option maxHeartbeats 1000000 in
theorem moTrotterRank_any : ∀ (n : Nat) (l : List Int) (v : Value) (w : World), n ≤ 12 → PN n l → Sits w v l →
    Calls Try.prog 71 #[v] w fun e w' => e = .returned (.int .i64 (trR n l : Int)) ∧ Below w.heap.size w w'
  | 0, l, v, w, _, hp, hs => by
    have hl := hp.len
    obtain ⟨b, off, c, rfl, hc1, hm, hb, hc⟩ := hs
    rw [hl]
    clear hc
    go_enter Try.func71, Try.ntmps71
    go_wp2_with fail
    go_returns
    exact ⟨rfl, Below.refl _ _⟩
  | n + 1, l, v, w, hn, hp, hs => by
    have hl := hp.len
    have hmem := PN_mem hp (show n < n + 1 by omega)
    have hix := ixL_lt hmem
    have hpe := PN_erase hp
    have hle := hpe.len
    have IH := hid (fun (v : Value) (w : World) (h : Sits w v (l.eraseIdx (ixL n l))) => moTrotterRank_any n (l.eraseIdx (ixL n l)) v w (by omega) hpe h)
    have hlt := trR_lt hpe
    have hf := fact_le n (by omega)
    have HTR := hid (show trR (n + 1) l = trR n (l.eraseIdx (ixL n l)) * (n + 1) + potN n (trR n (l.eraseIdx (ixL n l))) (ixL n l) from rfl)
    have HS0 := hid hs
    obtain ⟨a, ha⟩ : ∃ a, a = ixL n l := ⟨_, rfl⟩
    have HA := hid ha
    obtain ⟨r, hr⟩ : ∃ r, r = trR n (l.eraseIdx (ixL n l)) := ⟨_, rfl⟩
    have HRR := hid hr
    rw [← hr, ← ha] at HTR
    rw [← hr] at hlt
    have hal : a ≤ n := by omega
    have hmul : r * (n + 1) ≤ 479001600 * 13 := Nat.mul_le_mul (by omega) (by omega)
    have HMEM := hid hmem
    have HAL := hid (show a < l.length by omega)
    have HLB := hid (show l.length ≤ 1048576 by omega)
    obtain ⟨b, off, c, rfl, hc1, hm, hb, hc⟩ := hs
    have HS := hid (show Sits w (.slice (some ⟨b, off, none⟩) (n + 1) c) l by have := HS0.out; rw [hl] at this; exact this)
    rw [hl]
    rw [hl] at hc1
    clear HS0
    have ew : IntKind.i64.wrap ((n : Int) + 1 - 1) = (n : Int) := by rw [show (n : Int) + 1 - 1 = (n : Int) by omega]; exact IntWalk.i64_in _ (by omega)
    have hne : ((n : Int) + 1 == 0) = false := by simp; omega
    have m1 : (r : Int) * ((n : Int) + 1) = ((r * (n + 1) : Nat) : Int) := by simp
    obtain ⟨M, hM⟩ : ∃ M, M = r * (n + 1) := ⟨_, rfl⟩
    rw [← hM] at m1 hmul HTR
    have hw1 : IntKind.i64.wrap (M : Int) = (M : Int) := IntWalk.i64_in _ (by omega)
    clear hc hp hmem hpe hle hlt hf ha hr hix hM hl
    by_cases hpar : r % 2 = 0
    · have hp1 : (r : Int) % 2 = 0 := by omega
      have HPN := hid (show potN n r a = n - a by unfold potN; rw [if_pos hpar])
      have hw3 : IntKind.i64.wrap ((n : Int) - (a : Int)) = ((n - a : Nat) : Int) := by rw [show (n : Int) - (a : Int) = ((n - a : Nat) : Int) by omega]; exact IntWalk.i64_in _ (by omega)
      obtain ⟨P, hP⟩ : ∃ P, P = n - a := ⟨_, rfl⟩
      rw [← hP] at hw3 HPN
      have hw4 : IntKind.i64.wrap ((M : Int) + (P : Int)) = (M : Int) + (P : Int) := IntWalk.i64_in _ (by omega)
      have HFIN := hid (show ((trR (n + 1) l : Nat) : Int) = (M : Int) + (P : Int) by rw [HTR.out, HPN.out]; omega)
      clear hP
      clear hpar hmul
      go_enter Try.func71, Try.ntmps71
      go_wp2_with (first
        | (go_at_call 115; refine (gcPlace_ix _ l n _ HS.out HMEM.out).mono ?_; rintro e w1 ⟨rfl, rfl⟩; rw [← HA.out])
        | (go_at_call 116; refine (raWithout_any _ l a _ HS.out HAL.out HLB.out).mono ?_; rintro e w2 ⟨u, rfl, ho, hb2, hnn⟩; rw [HA.out] at ho; have HS2 := hid (sits_own ho hnn); have HB2 := hid hb2; clear ho hb2 hnn)
        | (go_at_call 71; refine (IH.out _ _ HS2.out).mono ?_; rintro e w3 ⟨rfl, hb3⟩; rw [← HRR.out]; have HB3 := hid (Below_chain HB2.out hb3); clear hb3)
        | fail)
      go_ret
      exact ⟨ret_int HFIN.out.symm, HB3.out⟩
    · have hp1 : (r : Int) % 2 = 1 := by omega
      have HPN := hid (show potN n r a = a by unfold potN; rw [if_neg hpar])
      have hw4 : IntKind.i64.wrap ((M : Int) + (a : Int)) = (M : Int) + (a : Int) := IntWalk.i64_in _ (by omega)
      have HFIN := hid (show ((trR (n + 1) l : Nat) : Int) = (M : Int) + (a : Int) by rw [HTR.out, HPN.out]; omega)
      clear hpar hmul
      go_enter Try.func71, Try.ntmps71
      go_wp2_with (first
        | (go_at_call 115; refine (gcPlace_ix _ l n _ HS.out HMEM.out).mono ?_; rintro e w1 ⟨rfl, rfl⟩; rw [← HA.out])
        | (go_at_call 116; refine (raWithout_any _ l a _ HS.out HAL.out HLB.out).mono ?_; rintro e w2 ⟨u, rfl, ho, hb2, hnn⟩; rw [HA.out] at ho; have HS2 := hid (sits_own ho hnn); have HB2 := hid hb2; clear ho hb2 hnn)
        | (go_at_call 71; refine (IH.out _ _ HS2.out).mono ?_; rintro e w3 ⟨rfl, hb3⟩; rw [← HRR.out]; have HB3 := hid (Below_chain HB2.out hb3); clear hb3)
        | fail)
      go_ret
      exact ⟨ret_int HFIN.out.symm, HB3.out⟩
def tkrV (l : List Int) : Int := if permB l = true then (trR l.length l : Int) else 0
theorem tkrV_yes {l : List Int} (h : permB l = true) : tkrV l = trR l.length l := by unfold tkrV; rw [if_pos h]
theorem tkrV_no {l : List Int} (h : permB l = false) : tkrV l = 0 := by unfold tkrV; rw [if_neg (by rw [h]; simp)]
theorem spec_TrotterRank_any (v : Value) (l : List Int) (w : World) (h : Sits w v l) :
    Calls Try.prog 23 #[v] w fun e w' => e = .returned (.tuple #[.int .i64 (tkrV l), .bool (permB l)]) ∧ Below w.heap.size w w' := by
  have HS := hid h
  clear h
  cases hp : permB l with
  | false =>
    have HP := hid hp
    have HV := hid (tkrV_no hp)
    clear hp
    go_enter Try.func23, Try.ntmps23
    go_wp2_with (first | (go_at_call 70; refine (raPermutation_any _ l _ HS.out.reads).mono ?_; rintro e w' ⟨rfl, rfl⟩; rw [HP.out]) | fail)
    go_ret2
    exact ⟨ret_nbA HV.out.symm rfl, Below.refl _ _⟩
  | true =>
    have HP := hid hp
    have HV := hid (tkrV_yes hp)
    have HPN := hid (PN_of hp rfl)
    have HLL := hid (permB_len hp)
    clear hp
    go_enter Try.func23, Try.ntmps23
    go_wp2_with (first | (go_at_call 70; refine (raPermutation_any _ l _ HS.out.reads).mono ?_; rintro e w' ⟨rfl, rfl⟩; rw [HP.out]) | (go_at_call 71; refine (moTrotterRank_any l.length l _ _ HLL.out HPN.out HS.out).mono ?_; rintro e w2 ⟨rfl, hb⟩; have HB := hid hb; clear hb) | fail)
    go_ret2
    exact ⟨ret_nbA HV.out.symm rfl, HB.out⟩
set_option maxHeartbeats 1000000 in
theorem impl_TrotterRank_any (v : Value) (l : List Int) (w : World) (h : Sits w v l) :
    Calls Try.prog 25 #[v] w fun e w' => e = .returned (.tuple #[.int .i64 (tkrV l), .bool (permB l)]) ∧ Below w.heap.size w w' := by
  have HS := hid h
  cases hp : permB l with
  | false =>
    have HP := hid hp
    have HV := hid (tkrV_no hp)
    clear hp h
    go_enter Try.func25, Try.ntmps25
    go_wp2_with (first | (go_at_call 72; refine (impl_IsPermutation_any _ l _ HS.out.reads).mono ?_; rintro e w2 ⟨rfl, hb⟩; rw [HP.out]; have HB := hid hb; clear hb) | fail)
    go_ret2
    exact ⟨ret_nbA HV.out.symm rfl, HB.out⟩
  | true =>
    have HP := hid hp
    have hpn := PN_of hp rfl
    have HV := hid (show tkrV l = (prR l l.length : Int) by rw [tkrV_yes hp, trR_prR hpn])
    have HPN := hid hpn
    have hll := permB_len hp
    obtain ⟨b, off, c, rfl, hc1, hm, hb, hc⟩ := h
    clear hp hpn hc
    go_enter Try.func25, Try.ntmps25
    go_wp2_with (first | (go_at_call 72; refine (impl_IsPermutation_any _ l _ HS.out.reads).mono ?_; rintro e w2 ⟨rfl, hb⟩; rw [HP.out]; have HB := hid hb; have HS2 := hid (HS.out.below hb); clear hb) | fail)
    go_loopw [4, 12] (fun rv xv wr => ∃ k : Nat, k ≤ l.length ∧ rv = .int .i64 (prR l k : Int) ∧ xv = .int .i64 (k : Int) ∧ Below w.heap.size w wr) (fun _ xv _ => l.length - (intOf xv).toNat)
    case atStart => exact ⟨0, Nat.zero_le _, rfl, rfl, HB.out⟩
    case round =>
      obtain ⟨k, hk, rfl, rfl, hbel⟩ := hrel
      have HBE := hid hbel
      have HSW := hid (HS.out.below hbel)
      by_cases hlt : k < l.length
      · have hmem := PN_mem HPN.out hlt
        have hix := ixL_lt hmem
        have hcnt := PN_count HPN.out hlt
        have hr := prR_lt HPN.out k (by omega)
        have hf := fact_le k (by omega)
        have HMEM := hid hmem
        have HNX := hid (show prR l (k + 1) = prR l k * (k + 1) + potN k (prR l k) (countLt (l.take (ixL k l)) k) from rfl)
        have hpl := potN_le (r := prR l k) hcnt
        obtain ⟨a, ha⟩ : ∃ a, a = ixL (k : Int) l := ⟨_, rfl⟩
        rw [← ha] at hix hcnt HNX hpl
        have HA := hid ha
        obtain ⟨t, ht⟩ : ∃ t, t = countLt (l.take a) k := ⟨_, rfl⟩
        rw [← ht] at hcnt HNX hpl
        have HT := hid ht
        obtain ⟨r, hrr⟩ : ∃ r, r = prR l k := ⟨_, rfl⟩
        rw [← hrr] at hr HNX hpl ⊢
        obtain ⟨P, hP⟩ : ∃ P, P = potN k r t := ⟨_, rfl⟩
        rw [← hP] at HNX hpl
        have HPP := hid hP
        have HTK := hid (show Sits wr (.slice (some ⟨b, off, none⟩) a c) (l.take a) by
          obtain ⟨b', off', c', e, g1, g2, g3, g4⟩ := HSW.out
          simp only [Value.slice.injEq, Option.some.injEq, Addr.mk.injEq, and_true, true_and] at e
          obtain ⟨⟨rfl, rfl⟩, rfl⟩ := e
          exact Sits_take (xs := l) a (by omega) g1 g2 g3 g4)
        have hmul : r * (k + 1) ≤ 479001600 * 12 := Nat.mul_le_mul (by omega) (by omega)
        have m1 : (r : Int) * ((k : Int) + 1) = ((r * (k + 1) : Nat) : Int) := by simp
        obtain ⟨M, hM⟩ : ∃ M, M = r * (k + 1) := ⟨_, rfl⟩
        rw [← hM] at m1 hmul HNX
        have w1 : IntKind.i64.wrap (M : Int) = (M : Int) := IntWalk.i64_in _ (by omega)
        have w2 : IntKind.i64.wrap ((M : Int) + (P : Int)) = (M : Int) + (P : Int) := IntWalk.i64_in _ (by omega)
        have w3 : IntKind.i64.wrap ((k : Int) + 1) = (k : Int) + 1 := IntWalk.i64_in _ (by omega)
        have q1 : (0 : Int) ≤ (a : Int) := by omega
        have q2 : (a : Int) ≤ (c : Int) := by omega
        have HNV := hid (show (prR l (k + 1) : Int) = (M : Int) + (P : Int) by rw [HNX.out]; omega)
        have HCNT := hid hcnt
        have hk12 : k ≤ 1000 := by omega
        have HK := hid hk
        clear hmem hix hcnt hr hf hpl ha ht hrr hP hmul hM hbel hll hk
        go_wp2_with (first
          | (go_at_call 74; refine (Index_ix _ l k _ HSW.out HMEM.out).mono ?_; rintro e w5 ⟨rfl, rfl⟩; rw [← HA.out])
          | (go_at_call 73; refine (countRelated_lt _ (l.take a) _ _ HTK.out).mono ?_; rintro e w6 ⟨rfl, rfl⟩; rw [← HT.out])
          | (go_at_call 68; refine (placeOfTurn_any k r t _ hk12 HCNT.out).mono ?_; rintro e w7 ⟨rfl, rfl⟩; rw [← HPP.out])
          | fail)
        go_roundw
        case rel => exact ⟨k + 1, hlt, by rw [HNV.out], by go_num, HBE.out⟩
        case measure => simp [intOf]; omega
      · obtain rfl : k = l.length := by omega
        clear hbel
        go_wp2_with fail
        go_ret2
        exact ⟨ret_nbA HV.out.symm rfl, HBE.out⟩
end Go.Proofs.Yteenmndgejeihaa
