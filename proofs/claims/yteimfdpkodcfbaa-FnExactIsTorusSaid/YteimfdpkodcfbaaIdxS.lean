/- Contract: indexIn with the closure squaresOf$1. Conditions: as for indicesIn; the index of the window's rank is handed over. -/
import Derived.Test.YteimfdpkodcfbaaIndS
import Derived.Laws.EntriesVeiled
namespace Go.Proofs.Yteimfdpkodcfbaa
open Go.RowKit Go.Maps
set_option linter.unusedVariables false
set_option maxRecDepth 4000

def ixR (b : Bool) (i : Nat) : Int := if b = true then (i : Int) else 0
theorem ixR_yes {b : Bool} {i : Nat} (h : b = true) : ixR b i = i := by unfold ixR; rw [if_pos h]
theorem ixR_no {b : Bool} {i : Nat} (h : b = false) : ixR b i = 0 := by unfold ixR; rw [if_neg (by rw [h]; simp)]
theorem ret_nbI {n n' : Int} {b b' : Bool} (hn : n = n') (h : b = b') : Ending.returned (.tuple #[.int .i64 n, .bool b]) = .returned (.tuple #[.int .i64 n', .bool b']) := by rw [h, hn]
set_option maxHeartbeats 2000000 in
theorem idx_S (rk : List Int → Int) (ok : List Int → Bool) (g N i0 : Nat) (u v2 : Value) (PL : List (List Int)) (ws zs : List Int) (pa : Addr) (w : World) (hN : PL.length = N) (hpl : SitsL w (.slice (some ⟨g, 0, none⟩) N N) PL) (hu : Sits w u ws) (hn : N ≤ 200) (h1 : 1 ≤ N)
    (hrow : ∀ l ∈ PL, Placed N l) (hwf : ∀ l ∈ PL, (Lit.int .i64 (rk (pkL ws l))).wf = true) (hws : ws.length ≤ 200)
    (hclo : ∀ (W : World) (x : Value) (B : Nat) (ys : List Int), (∃ l ∈ PL, ys = pkL ws l) → Own W B x ys → Below w.heap.size w W → Calls Try.prog 148 #[x, .pointer (some pa)] W fun e w' => e = .returned (.tuple #[.int .i64 (rk ys), .bool (ok ys)]) ∧ Below W.heap.size W w')
    (hwin : ∀ (W : World), Below w.heap.size w W → Calls Try.prog 148 #[v2, .pointer (some pa)] W fun e w' => e = .returned (.tuple #[.int .i64 (rk zs), .bool (ok zs)]) ∧ Below W.heap.size W w') (hwz : (Lit.int .i64 (rk zs)).wf = true)
    (hidx : (decide (ws.length = N) && lyB rk ok PL ws) = true → ok zs = true → i0 < N ∧ rkT rk PL ws i0 = rk zs) :
    Calls Try.prog 95 #[.agg #[.slice (some ⟨g, 0, none⟩) N N, .func (.func 148) #[] #[.pointer (some pa)]], u, v2] w fun e w' => e = .returned (.tuple #[.int .i64 (ixR (decide (ws.length = N) && lyB rk ok PL ws && ok zs) i0), .bool (decide (ws.length = N) && lyB rk ok PL ws && ok zs)]) ∧ Below w.heap.size w w' := by
  have HWIN := hid hwin
  have HWZ := hid hwz
  have HIDX := hid hidx
  obtain ⟨w1, hw1⟩ : ∃ w1, w1 = w.alloc (.cells #[.slice (some ⟨g, 0, none⟩) N N, .func (.func 148) #[] #[.pointer (some pa)]] 82) := ⟨_, rfl⟩
  have HW1 := hid hw1
  have hB1 : Below w.heap.size w w1 := by rw [hw1]; exact (Below.refl _ _).alloc (Nat.le_refl _) _
  have HB1 := hid hB1
  have HS1 := hid (show w1.heap.size = w.heap.size + 1 by rw [hw1]; simp)
  have HX0 := hid (show w1.cell? ⟨w.heap.size, 0, none⟩ = some (.slice (some ⟨g, 0, none⟩) N N) by rw [hw1]; exact (new2_9 _ _ _ _ _ rfl).1)
  have HX1 := hid (show w1.cell? ⟨w.heap.size, 1, none⟩ = some (.func (.func 148) #[] #[.pointer (some pa)]) by rw [hw1]; exact (new2_9 _ _ _ _ _ rfl).2)
  have hind := ind_S rk ok g N u PL ws pa w1 hN (hpl.below hB1) (hu.below hB1) hn h1 hrow hwf hws (fun W x B ys hl ho hb => hclo W x B ys hl ho (Below_chain hB1 hb))
  have HIND := hid hind
  obtain ⟨once, ho⟩ : ∃ once, once = (decide (ws.length = N) && lyB rk ok PL ws) := ⟨_, rfl⟩
  rw [← ho] at HIND HIDX ⊢
  have HON := hid ho
  have HAP := hid (show once = true → ∀ a b, a < b → b < N → rkT rk PL ws a ≠ rkT rk PL ws b from fun h => by
    rw [ho, Bool.and_eq_true] at h
    have h2 := h.2
    unfold lyB at h2
    rw [hN] at h2
    exact once_apart h2)
  clear hwin hwz hidx hpl hu hrow hwf hclo hind hw1 ho hB1
  have x0 := HX0.out
  have x1 := HX1.out
  rw [HW1.out] at x0 x1
  obtain ⟨rz, hrz⟩ : ∃ rz, rz = rk zs := ⟨_, rfl⟩
  rw [← hrz] at HWIN HWZ HIDX
  clear hrz
  cases hon : once with
  | false =>
    have HK := hid (show (false && ok zs) = false from rfl)
    have HR := hid (ixR_no (i := i0) HK.out)
    cases hok : ok zs with
    | false =>
      go_enter Try.func95, Try.ntmps95
      go_wp2_with (first
        | (go_at_call 148; (refine (HWIN.out _ HB2.out).mono ?_); (rintro e w3 ⟨rfl, hb3⟩); (rw [hok]); (have HB3 := hid (Below_chain HB2.out hb3)); (clear hb3))
        | (go_at_call 91; (rw [← HW1.out]); (refine HIND.out.mono ?_); (rintro e w2 ⟨rfl, hm2, hb2⟩); (rw [hon]); (have y1 := (hb2.cell (p := ⟨w.heap.size, 1, none⟩) (by show w.heap.size < w1.heap.size; have := HS1.out; omega)).trans HX1.out); (have HM2 := hid hm2); (have HB2 := hid (Below_chain HB1.out hb2)); (clear hm2 hb2))
        | fail)
      go_ret2
      exact ⟨rfl, HB3.out⟩
    | true =>
      go_enter Try.func95, Try.ntmps95
      go_wp2_with (first
        | (go_at_call 148; (refine (HWIN.out _ HB2.out).mono ?_); (rintro e w3 ⟨rfl, hb3⟩); (rw [hok]); (have HB3 := hid (Below_chain HB2.out hb3)); (clear hb3))
        | (go_at_call 91; (rw [← HW1.out]); (refine HIND.out.mono ?_); (rintro e w2 ⟨rfl, hm2, hb2⟩); (rw [hon]); (have y1 := (hb2.cell (p := ⟨w.heap.size, 1, none⟩) (by show w.heap.size < w1.heap.size; have := HS1.out; omega)).trans HX1.out); (have HM2 := hid hm2); (have HB2 := hid (Below_chain HB1.out hb2)); (clear hm2 hb2))
        | fail)
      go_ret2
      exact ⟨rfl, HB3.out⟩
  | true =>
    cases hok : ok zs with
    | false =>
      go_enter Try.func95, Try.ntmps95
      go_wp2_with (first
        | (go_at_call 148; (refine (HWIN.out _ HB2.out).mono ?_); (rintro e w3 ⟨rfl, hb3⟩); (rw [hok]); (have HB3 := hid (Below_chain HB2.out hb3)); (clear hb3))
        | (go_at_call 91; (rw [← HW1.out]); (refine HIND.out.mono ?_); (rintro e w2 ⟨rfl, hm2, hb2⟩); (rw [hon]); (have y1 := (hb2.cell (p := ⟨w.heap.size, 1, none⟩) (by show w.heap.size < w1.heap.size; have := HS1.out; omega)).trans HX1.out); (have HM2 := hid hm2); (have HB2 := hid (Below_chain HB1.out hb2)); (clear hm2 hb2))
        | fail)
      go_ret2
      exact ⟨rfl, HB3.out⟩
    | true =>
      have HAP2 := hid (HAP.out hon)
      have hix := HIDX.out hon hok
      have HI1 := hid hix.1
      have HI2 := hid hix.2
      have HM0 := hid (HIND.out)
      clear hix
      go_enter Try.func95, Try.ntmps95
      go_wp2_with (first
        | (go_at_call 148; (refine (HWIN.out _ HB2.out).mono ?_); (rintro e w3 ⟨rfl, hb3⟩); (rw [hok]); (have HB3 := hid (Below_chain HB2.out hb3)); (have hlk := look9_at (ownsMap_below9 (HM2.out hon) hb3) HWZ.out HAP2.out HI1.out HI2.out); (clear hb3))
        | (go_at_call 91; (rw [← HW1.out]); (refine HIND.out.mono ?_); (rintro e w2 ⟨rfl, hm2, hb2⟩); (rw [hon]); (have y1 := (hb2.cell (p := ⟨w.heap.size, 1, none⟩) (by show w.heap.size < w1.heap.size; have := HS1.out; omega)).trans HX1.out); (have HM2 := hid hm2); (have HB2 := hid (Below_chain HB1.out hb2)); (clear hm2 hb2))
        | fail)
      go_ret2
      exact ⟨rfl, HB3.out⟩
end Go.Proofs.Yteimfdpkodcfbaa
