/- Contracts: moFirst, both NextTrotter functions. Conditions: the slice is not nil and reads as a list. -/
import Derived.Test.YteenmndgejeihaaTrR
import Derived.Test.YteenmndgejeihaaTrN
import Derived.Deep.QuietTactic
import Derived.BigQuiet
namespace Go.Proofs.Yteenmndgejeihaa
open Go.RowKit
set_option linter.unusedVariables false
set_option maxRecDepth 4000
set_option linter.unusedSimpArgs false

theorem ret_snb3 {u u' : Value} {n n' : Int} {b b' : Bool} (h0 : u = u') (h1 : n = n') (h : b = b') : Ending.returned (.tuple #[u, .int .i64 n, .bool b]) = .returned (.tuple #[u', .int .i64 n', .bool b']) := by rw [h0, h1, h]
theorem moFirst_any (va vb : Value) (a b : List Int) (w : World) (ha : Sits w va a) (hb : Sits w vb b) (hl : a.length = b.length) (hne : a ≠ b) :
    Calls Try.prog 76 #[va, vb] w fun e w' => e = .returned (.int .i64 (fdL a b : Int)) ∧ Below w.heap.size w w' := by
  obtain ⟨b1, o1, c1, rfl, g1, m1, k1, h1⟩ := ha
  obtain ⟨b2, o2, c2, rfl, g2, m2, k2, h2⟩ := hb
  have hfd := fdL_lt hl hne
  have HFD := hid hfd
  have HSAME := hid (fun i => fdL_same (a := a) (b := b) (i := i) hl)
  have HLE := hid hl
  obtain ⟨d, hd⟩ : ∃ d, d = fdL a b := ⟨_, rfl⟩
  rw [← hd] at HFD HSAME ⊢
  have H1 := hid h1
  have H2 := hid h2
  clear h1 h2 hfd hd hne hl
  go_enter Try.func76, Try.ntmps76
  go_wp2_with fail
  go_loopw [9] (fun i wr => ∃ k : Nat, k ≤ d ∧ i = .int .i64 k ∧ Below w.heap.size w wr) (fun i _ => a.length - (intOf i).toNat)
  case atStart => exact ⟨0, Nat.zero_le _, rfl, Below.refl _ _⟩
  case round =>
    obtain ⟨k, hk, rfl, hbel⟩ := hrel
    have hlt : k < a.length := Nat.lt_of_le_of_lt hk HFD.out.1
    have hlt2 : k < b.length := by rw [← HLE.out]; exact hlt
    have hcx := (hbel.cell (p := ⟨b1, o1 + k, none⟩) (by exact k1)).trans (H1.out k hlt)
    have hcy := (hbel.cell (p := ⟨b2, o2 + k, none⟩) (by exact k2)).trans (H2.out k hlt2)
    have q1 : (0 : Int) ≤ (k : Int) := by omega
    have q2 : (k : Int) < (a.length : Int) := by omega
    have q3 : (k : Int) < (b.length : Int) := by omega
    have HK := hid hk
    obtain ⟨x, hx⟩ : ∃ x, x = a[k] := ⟨_, rfl⟩
    obtain ⟨y, hy⟩ : ∃ y, y = b[k] := ⟨_, rfl⟩
    rw [← hx] at hcx
    rw [← hy] at hcy
    by_cases e : k = d
    · have hxy : x ≠ y := by
        have := HFD.out.2
        rw [← e, getD_at hlt, getD_at hlt2, ← hx, ← hy] at this
        exact this
      have hbb : (x != y) = true := by simp [hxy]
      have HE := hid (show (k : Int) = (d : Int) by omega)
      clear e hx hy hxy hk
      go_wp2_with fail
      go_ret
      exact ⟨ret_int HE.out, hbel⟩
    · have hxy : x = y := by
        have := HSAME.out k (by omega)
        rw [getD_at hlt, getD_at hlt2, ← hx, ← hy] at this
        exact this
      have hbb : (x != y) = false := by simp [hxy]
      have HKR := hid (show k + 1 ≤ d by omega)
      clear e hx hy hxy hk
      go_wp2_with fail
      go_roundw
      case rel => exact ⟨k + 1, HKR.out, by go_num, hbel⟩
      case measure => simp [intOf]; omega
set_option maxHeartbeats 1000000 in
theorem spec_NextTrotter_any (v : Value) (l : List Int) (w : World) (h : Sits w v l) :
    Calls Try.prog 26 #[v] w fun e w' => ∃ u, e = .returned (.tuple #[u, .int .i64 (ntV l), .bool (ntB l)]) ∧ Own w' w.heap.size u (ntRes l) ∧ Below w.heap.size w w' := by
  have HS := hid h
  obtain ⟨b, off, c, rfl, hc1, hm, hb, hc⟩ := h
  clear hc
  cases hp : permB l with
  | false =>
    have HP := hid hp
    have HN := hid (show ntB l = false by rw [ntB, hp]; rfl)
    clear hp
    go_enter Try.func26, Try.ntmps26
    go_wp2_with (first | (go_at_call 70; refine (raPermutation_any _ l _ HS.out.reads).mono ?_; rintro e w' ⟨rfl, rfl⟩; rw [HP.out]) | fail)
    go_ret3
    exact ⟨_, ret_snb3 rfl (ntV_no HN.out).symm HN.out.symm, by rw [ntRes_no HN.out]; exact Own.nil _ _, Below.refl _ _⟩
  | true =>
    have HP := hid hp
    have HLL := hid (permB_len hp)
    have hpn := PN_of hp rfl
    have HPN := hid hpn
    have hlt := trR_lt hpn
    have hf := fact_le l.length (by have := permB_len hp; omega)
    obtain ⟨n, hn⟩ : ∃ n, n = l.length := ⟨_, rfl⟩
    obtain ⟨r, hr⟩ : ∃ r, r = trR n l := ⟨_, rfl⟩
    have HNN := hid hn
    have HRR := hid hr
    have HS' := hid (show Sits w (.slice (some ⟨b, off, none⟩) n c) l by rw [hn]; exact HS.out)
    have HPN' := hid (show PN n l by rw [hn]; exact hpn)
    rw [← hn] at hlt hf ⊢
    rw [← hr] at hlt
    have hw1 : IntKind.i64.wrap ((r : Int) + 1) = (r : Int) + 1 := IntWalk.i64_in _ (by omega)
    have hn12 : n ≤ 12 := by rw [hn]; exact HLL.out
    obtain ⟨F, hF⟩ : ∃ F, F = fact n := ⟨_, rfl⟩
    have HF := hid hF
    rw [← hF] at hlt hf
    by_cases hlast : r + 1 < F
    · have HN := hid (show ntB l = true by rw [ntB, hp, ← hn, ← hr, ← hF, decide_eq_true hlast]; rfl)
      have hne : ntL l ≠ l := ntL_ne hpn (by rw [← hn, ← hr, ← hF]; exact hlast)
      have HNE := hid (show l ≠ trL n (r + 1) by
        intro e
        apply hne
        unfold ntL
        rw [← hn, ← hr]
        exact e.symm)
      have HRES := hid (show ntRes l = trL n (r + 1) by rw [ntRes_yes HN.out, ntL, ← hn, ← hr])
      have HV := hid (show ntV l = (fdL l (trL n (r + 1)) : Int) by rw [ntV_yes HN.out, ntL, ← hn, ← hr])
      have HTL := hid (trL_len n (r + 1))
      have hq : ((r : Int) + 1 == (F : Int)) = false := by simp; omega
      have HRB := hid (show r + 1 ≤ 1000000000 by omega)
      have er : ((r + 1 : Nat) : Int) = (r : Int) + 1 := by omega
      have HMT := hid (fun W => er ▸ moTrotter_any n (r + 1) W hn12 HRB.out)
      have hn0 : 0 < n := by
        rcases Nat.eq_zero_or_pos n with h | h
        · exfalso
          rw [h] at hF
          have : F = 1 := hF
          omega
        · exact h
      have HN0 := hid hn0
      clear hp hpn hn hr hne hF hlt hf hlast er hn0
      go_enter Try.func26, Try.ntmps26
      go_wp2_with (first
        | (go_at_call 70; refine (raPermutation_any _ l _ HS'.out.reads).mono ?_; rintro e w' ⟨rfl, rfl⟩; rw [HP.out])
        | (go_at_call 71; refine (moTrotterRank_any n l _ _ hn12 HPN'.out (HS'.out)).mono ?_; rintro e w2 ⟨rfl, hb2⟩; rw [← HRR.out]; have HB2 := hid hb2; have HS2 := hid (HS'.out.below hb2); clear hb2)
        | (go_at_call 64; refine (raFactorial_any n _ (by omega)).mono ?_; rintro e w1 ⟨rfl, rfl⟩; rw [← HF.out])
        | fail)
      obtain ⟨w3, rfl⟩ : ∃ w3 : World, w3 = w2 := ⟨_, rfl⟩
      refine (moTrotterRank_any n l _ _ hn12 HPN'.out (HS2.out)).mono ?_
      rintro e w4 ⟨rfl, hb4⟩
      rw [← HRR.out]
      have HB4 := hid (Below_chain HB2.out hb4)
      have HS4 := hid (HS2.out.below hb4)
      have hs4 := (Below_chain HB2.out hb4).size
      clear hb4
      go_wp2_with fail
      refine (HMT.out _).mono ?_
      rintro e w5 ⟨u, rfl, ho, hb5⟩
      have HB5 := hid (Below_chain HB4.out hb5)
      have HS5 := hid (HS4.out.below hb5)
      have HO5 := hid (ho.mono hs4)
      obtain ⟨g, n5, c5, rfl⟩ := Own.shape ho (by rw [HTL.out]; exact HN0.out)
      have HU5 := hid ho.sits
      clear ho hb5
      go_wp2_with fail
      refine (moFirst_any _ _ l (trL n (r + 1)) _ HS5.out HU5.out (by rw [HTL.out, HNN.out]) HNE.out).mono ?_
      rintro e w6 ⟨rfl, hb6⟩
      have HB6 := hid (Below_chain HB5.out hb6)
      have HO6 := hid (HO5.out.below hb6)
      clear hb6
      go_wp2_with fail
      go_ret3
      exact ⟨_, ret_snb3 rfl HV.out.symm HN.out.symm, by rw [HRES.out]; exact HO6.out, HB6.out⟩
    · have HN := hid (show ntB l = false by rw [ntB, hp, ← hn, ← hr, ← hF, decide_eq_false hlast]; rfl)
      have hq : ((r : Int) + 1 == (F : Int)) = true := by simp; omega
      clear hp hpn hn hr hF hlt hf hlast
      go_enter Try.func26, Try.ntmps26
      go_wp2_with (first
        | (go_at_call 70; refine (raPermutation_any _ l _ HS'.out.reads).mono ?_; rintro e w' ⟨rfl, rfl⟩; rw [HP.out])
        | (go_at_call 71; refine (moTrotterRank_any n l _ _ hn12 HPN'.out (HS'.out)).mono ?_; rintro e w2 ⟨rfl, hb2⟩; rw [← HRR.out]; have HB2 := hid hb2; have HS2 := hid (HS'.out.below hb2); clear hb2)
        | (go_at_call 64; refine (raFactorial_any n _ (by omega)).mono ?_; rintro e w1 ⟨rfl, rfl⟩; rw [← HF.out])
        | fail)
      go_ret3
      exact ⟨_, ret_snb3 rfl (ntV_no HN.out).symm HN.out.symm, by rw [ntRes_no HN.out]; exact Own.nil _ _, HB2.out⟩
theorem taB_next {n r : Nat} (hn : n ≤ 12) : taB (n : Int) ((r : Int) + 1) = decide (r + 1 < fact n) := by
  rw [taB, show inB (n : Int) 0 12 = true from inB_iff.2 ⟨by omega, by omega⟩, Bool.true_and, Int.toNat_natCast, Bool.eq_iff_iff, inB_iff, decide_eq_true_eq]
  omega
set_option maxHeartbeats 1000000 in
theorem impl_NextTrotter_any (v : Value) (l : List Int) (w : World) (h : Sits w v l) :
    Calls Try.prog 27 #[v] w fun e w' => ∃ u, e = .returned (.tuple #[u, .int .i64 (ntV l), .bool (ntB l)]) ∧ Own w' w.heap.size u (ntRes l) ∧ Below w.heap.size w w' := by
  have HS := hid h
  obtain ⟨b, off, c, rfl, hc1, hm, hb, hc⟩ := h
  clear hc
  cases hp : permB l with
  | false =>
    have HP := hid hp
    have HN := hid (show ntB l = false by rw [ntB, hp]; rfl)
    clear hp
    go_enter Try.func27, Try.ntmps27
    go_wp2_with (first | (go_at_call 25; refine (impl_TrotterRank_any _ l _ HS.out).mono ?_; rintro e w2 ⟨rfl, hb2⟩; rw [HP.out]; have HB2 := hid hb2; clear hb2) | fail)
    go_ret3
    exact ⟨_, ret_snb3 rfl (ntV_no HN.out).symm HN.out.symm, by rw [ntRes_no HN.out]; exact Own.nil _ _, HB2.out⟩
  | true =>
    have HP := hid hp
    have hn12 := permB_len hp
    have hpn := PN_of hp rfl
    have hlt := trR_lt hpn
    have hf := fact_le l.length (by omega)
    have HTV := hid (tkrV_yes hp)
    obtain ⟨n, hn⟩ : ∃ n, n = l.length := ⟨_, rfl⟩
    obtain ⟨r, hr⟩ : ∃ r, r = trR n l := ⟨_, rfl⟩
    have HNN := hid hn
    have HS' := hid (show Sits w (.slice (some ⟨b, off, none⟩) n c) l by rw [hn]; exact HS.out)
    rw [← hn, ← hr] at HTV
    rw [← hn] at hlt hf hn12 ⊢
    rw [← hr] at hlt
    have hw1 : IntKind.i64.wrap ((r : Int) + 1) = (r : Int) + 1 := IntWalk.i64_in _ (by omega)
    have HTA := hid (taB_next (r := r) hn12)
    by_cases hlast : r + 1 < fact n
    · have HN := hid (show ntB l = true by rw [ntB, hp, ← hn, ← hr, decide_eq_true hlast]; rfl)
      have hne : ntL l ≠ l := ntL_ne hpn (by rw [← hn, ← hr]; exact hlast)
      have HTB := hid (HTA.out.trans (decide_eq_true hlast))
      have HRES := hid (show ntRes l = taRes (n : Int) ((r : Int) + 1) by rw [ntRes_yes HN.out, taRes_yes HTB.out, ntL, ← hn, ← hr, Int.toNat_natCast]; rfl)
      obtain ⟨nx, hnx⟩ : ∃ nx, nx = taRes (n : Int) ((r : Int) + 1) := ⟨_, rfl⟩
      have HNX := hid hnx
      rw [← hnx] at HRES
      have hnl : nx = ntL l := by rw [← HRES.out, ntRes_yes HN.out]
      have hnn : nx.length = l.length := by rw [hnl, ntL_len]
      have hne2 : nx ≠ l := by rw [hnl]; exact hne
      have hfd := fdL_lt hnn hne2
      have HFD := hid hfd
      have HSAME := hid (fun i => fdL_same (a := nx) (b := l) (i := i) hnn)
      have HV := hid (show ntV l = (fdL nx l : Int) by rw [ntV_yes HN.out, hnl, fdL_comm])
      obtain ⟨d, hd⟩ : ∃ d, d = fdL nx l := ⟨_, rfl⟩
      rw [← hd] at HFD HSAME HV
      have HLN := hid (show nx.length = n by rw [hnn, hn])
      have HLL := hid hn
      have hn0 : 0 < nx.length := by have := HFD.out.1; omega
      have HN0 := hid hn0
      clear hp hpn hn hr hne hlt hf hlast hnx hnl hnn hne2 hfd hd hn0
      go_enter Try.func27, Try.ntmps27
      go_wp2_with fail
      refine (impl_TrotterRank_any _ l _ HS'.out).mono ?_
      rintro e w2 ⟨rfl, hb2⟩
      rw [HP.out, HTV.out]
      have HB2 := hid hb2
      have HS2 := hid (HS'.out.below hb2)
      have hs2 := hb2.size
      clear hb2
      go_wp2_with fail
      refine (impl_TrotterAt_any _ _ _).mono ?_
      rintro e w3 ⟨u, rfl, ho, hb3⟩
      rw [HTB.out]
      rw [← HNX.out] at ho
      have HB3 := hid (Below_chain HB2.out hb3)
      have hs3 := HS2.out.below hb3
      have HO3 := hid (ho.mono hs2)
      obtain ⟨g, n5, c5, rfl⟩ := Own.shape ho HN0.out
      obtain ⟨b3, o3, c3, e3, j1, j2, j3, j4⟩ := ho.sits
      simp only [Value.slice.injEq, Option.some.injEq, Addr.mk.injEq, and_true, true_and] at e3
      obtain ⟨⟨rfl, rfl⟩, hn5, rfl⟩ := e3
      have HC3 := hid j4
      have HO3N := hid (show Own w3 w.heap.size (.slice (some ⟨g, 0, none⟩) n c5) nx by have := HO3.out; rw [hn5, HLN.out] at this; exact this)
      obtain ⟨b4, o4, c4, e4, i1, i2, i3, i4⟩ := hs3
      simp only [Value.slice.injEq, Option.some.injEq, Addr.mk.injEq, and_true, true_and] at e4
      obtain ⟨⟨rfl, rfl⟩, hn6, rfl⟩ := e4
      have HC4 := hid i4
      rw [hn5, HLN.out]
      clear ho hb3 j4 i4 hn5 hn6
      go_wp2_with fail
      go_loopw [8] (fun av wr => ∃ k : Nat, k ≤ d ∧ av = .int .i64 (k : Int) ∧ Below w3.heap.size w3 wr) (fun av _ => n - (intOf av).toNat)
      case atStart => exact ⟨0, Nat.zero_le _, rfl, Below.refl _ _⟩
      case round =>
        obtain ⟨k, hk, rfl, hwr⟩ := hrel
        have hlt : k < nx.length := Nat.lt_of_le_of_lt hk HFD.out.1
        have hkn : k < n := by rw [← HLN.out]; exact hlt
        have hlt2 : k < l.length := by rw [← HLL.out]; exact hkn
        have hcx : wr.cell? ⟨g, 0 + k, none⟩ = some (.int .i64 nx[k]) := (hwr.cell (p := ⟨g, 0 + k, none⟩) (by exact j3)).trans (HC3.out k hlt)
        have hcy : wr.cell? ⟨b, off + k, none⟩ = some (.int .i64 l[k]) := (hwr.cell (p := ⟨b, off + k, none⟩) (by exact i3)).trans (HC4.out k hlt2)
        rw [Nat.zero_add] at hcx
        have HBW := hid (Below_chain HB3.out hwr)
        have HOW := hid (show Own wr w.heap.size (.slice (some ⟨g, 0, none⟩) n c5) nx from HO3N.out.below hwr)
        have HWR := hid hwr
        have q1 : (0 : Int) ≤ (k : Int) := by omega
        have q2 : (k : Int) < (n : Int) := by omega
        have hwk : IntKind.i64.wrap ((k : Int) + 1) = (k : Int) + 1 := IntWalk.i64_in _ (by omega)
        have HK := hid hk
        obtain ⟨x, hx⟩ : ∃ x, x = nx[k] := ⟨_, rfl⟩
        obtain ⟨y, hy⟩ : ∃ y, y = l[k] := ⟨_, rfl⟩
        rw [← hx] at hcx
        rw [← hy] at hcy
        by_cases e : k = d
        · have hxy : x ≠ y := by
            have := HFD.out.2
            rw [← e, getD_at hlt, getD_at hlt2, ← hx, ← hy] at this
            exact this
          have hbb : (x == y) = false := by simp [hxy]
          have HE := hid (show (k : Int) = (d : Int) by omega)
          clear e hx hy hxy hk hwr
          go_wp2_with fail
          go_quiet (fail)
          go_wp2_with fail
          go_ret3
          exact ⟨_, ret_snb3 rfl (by rw [HV.out, HE.out]) HN.out.symm, by rw [HRES.out]; exact HOW.out.below (below_drewN (Below.refl _ _) _), below_drewN HBW.out _⟩
        · have hxy : x = y := by
            have := HSAME.out k (by omega)
            rw [getD_at hlt, getD_at hlt2, ← hx, ← hy] at this
            exact this
          have hbb : (x == y) = true := by simp [hxy]
          have HKR := hid (show k + 1 ≤ d by omega)
          clear e hx hy hxy hk hwr
          go_wp2_with fail
          go_quiet (fail)
          go_wp2_with fail
          go_roundw
          case rel => exact ⟨k + 1, HKR.out, by go_num, below_drewN HWR.out _⟩
          case measure => simp [intOf]; omega
    · have HN := hid (show ntB l = false by rw [ntB, hp, ← hn, ← hr, decide_eq_false hlast]; rfl)
      have HTB := hid (HTA.out.trans (decide_eq_false hlast))
      clear hp hpn hn hr hlt hf hlast
      go_enter Try.func27, Try.ntmps27
      go_wp2_with (first
        | (go_at_call 25; refine (impl_TrotterRank_any _ l _ HS'.out).mono ?_; rintro e w2 ⟨rfl, hb2⟩; rw [HP.out, HTV.out]; have HB2 := hid hb2; clear hb2)
        | (go_at_call 19; refine (impl_TrotterAt_any _ _ _).mono ?_; rintro e w3 ⟨u, rfl, ho, hb3⟩; rw [HTB.out]; have HB3 := hid (Below_chain HB2.out hb3); clear ho hb3)
        | fail)
      go_ret3
      exact ⟨_, ret_snb3 rfl (ntV_no HN.out).symm HN.out.symm, by rw [ntRes_no HN.out]; exact Own.nil _ _, HB3.out⟩
end Go.Proofs.Yteenmndgejeihaa
