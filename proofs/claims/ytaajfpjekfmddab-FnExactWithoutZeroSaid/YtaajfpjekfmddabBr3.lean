/- Contracts of IsCycle, WindowAt and PlacesOf and of their models, as the laws call them. Conditions: slices that are not nil and read as lists of at most 2^20 numbers. -/
import Derived.Test.YtaajfpjekfmddabBr2
namespace Go.Proofs.Ytaajfpjekfmddab
open Go.RowKit
set_option linter.unusedVariables false
set_option maxRecDepth 4000

theorem brWindow_any (v : Value) (xs : List Int) (n p : Nat) (w : World) (h : Sits w v xs) (hp : p ≤ 1048576) (hn : n ≤ 1048576) (h1 : 1 ≤ xs.length) (hl : xs.length ≤ 1048576) :
    Calls Try.prog 74 #[v, .int .i64 (n : Int), .int .i64 (p : Int)] w fun e w' => ∃ u, e = .returned u ∧ Own w' w.heap.size u (arL xs p n) ∧ Below w.heap.size w w' := by
  obtain ⟨b, off, c, rfl, hc1, hm, hb, hc⟩ := h
  obtain ⟨i0, hi, hz0, hz1, hz2⟩ := info_parts Try.info3
  have HC := hid hc
  clear hc
  go_enter Try.func74, Try.ntmps74
  go_wp2_with fail
  go_loopw [7, 8] (fun vp i wr => ∃ j : Nat, i = .int .i64 (j : Int) ∧ j ≤ n ∧ Own wr w.heap.size vp (arL xs p j) ∧ Below w.heap.size w wr) (fun _ i _ => n - (intOf i).toNat)
  case atStart => exact ⟨0, rfl, Nat.zero_le _, Own.nil _ _, Below.refl _ _⟩
  case round =>
    obtain ⟨j, rfl, hj, hown, hbel⟩ := hrel
    have HO := hid hown
    have HB := hid hbel
    by_cases hlt : j < n
    · obtain ⟨q, hq⟩ : ∃ q, q = (p + j) % xs.length := ⟨_, rfl⟩
      have hq1 : q < xs.length := by rw [hq]; exact Nat.mod_lt _ (by omega)
      obtain ⟨x, hx⟩ : ∃ x, x = xs[q] := ⟨_, rfl⟩
      have hcx : wr.cell? ⟨b, off + q, none⟩ = some (.int .i64 x) := by rw [hx]; exact (hbel.cell (by exact hb)).trans (HC.out q hq1)
      have u1 : ((p : Int) + (j : Int)) % (xs.length : Int) = (q : Int) := by rw [hq]; simp
      have u2 : ((p : Int) + (j : Int)).tmod (xs.length : Int) = (q : Int) := by rw [Int.tmod_eq_emod_of_nonneg (by omega)]; exact u1
      have u3 : ((xs.length : Int) == 0) = false := beq_eq_false_iff_ne.2 (by omega)
      have u4 : (0 : Int) ≤ (q : Int) := by omega
      have u5 : (q : Int) < (xs.length : Int) := by omega
      have u6 : IntKind.i64.wrap (q : Int) = (q : Int) := IntWalk.i64_in _ (by omega)
      have HD := hid (show arL xs p (j + 1) = arL xs p j ++ [x] by rw [arL_succ, ← hq, getD_at hq1, hx])
      obtain ⟨ao, cc, rfl, hcc, _⟩ := hown.view3
      have HLN := hid (arL_len xs p j)
      rw [HLN.out] at HO ⊢
      have hjb : j ≤ 1048576 := by omega
      clear hown hbel hq hx
      go_wp2_with (first
        | (at_builtin; (refine wpList_push _ rfl _ _ 22 rfl w.heap.size i0 Try.underlying22 hi hz0 hz1 hz2 ao j cc (arL xs p j) rfl HO.out x wr.heap.size rfl rfl hjb HB.out.size ?_); (intro g5 c5 w5 hp5); (have HO5 := hid (show Own w5 w.heap.size (.slice (some ⟨g5, 0, none⟩) (j + 1) c5) (arL xs p (j + 1)) by rw [HD.out]; exact hp5.own)); (have HB5 := hid (hp5.below w rfl HB.out)); (clear hp5))
        | fail)
      go_roundw
      case rel => exact ⟨j + 1, by go_num, by omega, HO5.out, HB5.out⟩
      case measure => simp [intOf]; omega
    · obtain rfl : j = n := by omega
      clear hown hbel
      go_wp2_with fail
      go_ret
      exact ⟨_, rfl, HO.out, HB.out⟩
/-- there is a window of the length n at the place p -/
def wnB (xs : List Int) (n p : Int) : Bool := cycB xs 6 && (inB n 1 1024 && inB p 0 ((xs.length : Int) - 1))
theorem wnB_0 {xs : List Int} {n p : Int} (h : cycB xs 6 = false) : wnB xs n p = false := by unfold wnB; rw [h]; rfl
theorem wnB_1 {xs : List Int} {n p : Int} (h : inB n 1 1024 = false) : wnB xs n p = false := by unfold wnB; rw [h, Bool.false_and, Bool.and_false]
theorem wnB_2 {xs : List Int} {n p : Int} (h : inB p 0 ((xs.length : Int) - 1) = false) : wnB xs n p = false := by unfold wnB; rw [h, Bool.and_false, Bool.and_false]
theorem wnB_3 {xs : List Int} {n p : Int} (h : cycB xs 6 = true) (h1 : inB n 1 1024 = true) (h2 : inB p 0 ((xs.length : Int) - 1) = true) : wnB xs n p = true := by unfold wnB; rw [h, h1, h2]; rfl
def wnL (xs : List Int) (n p : Int) : List Int := atB (wnB xs n p) [] (arL xs p.toNat n.toNat)
theorem wnL_no {xs : List Int} {n p : Int} (h : wnB xs n p = false) : wnL xs n p = [] := atB_no h
theorem wnL_yes {xs : List Int} {n p : Int} (h : wnB xs n p = true) : wnL xs n p = arL xs p.toNat n.toNat := atB_yes h
theorem bound_WindowAt (xs : List Int) (n p : Int) : (wnL xs n p).length ≤ 1048576 := by
  cases h : wnB xs n p with
  | false => rw [wnL_no h]; simp
  | true =>
    rw [wnL_yes h, arL_len]
    unfold wnB at h
    simp only [Bool.and_eq_true, inB_iff] at h
    omega
/-- there are places to be told -/
def plB (xs ys : List Int) : Bool := cycB xs 6 && cycB ys 6
def plL (xs ys : List Int) : List Int := atB (plB xs ys) [] (nearL xs ys 0)
theorem plB_0 {xs ys : List Int} (h : cycB xs 6 = false) : plB xs ys = false := by unfold plB; rw [h]; rfl
theorem plB_1 {xs ys : List Int} (h : cycB xs 6 = true) : plB xs ys = cycB ys 6 := by unfold plB; rw [h]; rfl
theorem plL_no {xs ys : List Int} (h : plB xs ys = false) : plL xs ys = [] := atB_no h
theorem plL_yes {xs ys : List Int} (h : plB xs ys = true) : plL xs ys = nearL xs ys 0 := atB_yes h
theorem bound_PlacesOf (xs ys : List Int) : (plL xs ys).length ≤ 1048576 := by
  cases h : plB xs ys with
  | false => rw [plL_no h]; simp
  | true =>
    rw [plL_yes h]
    have h1 := nearT_len xs ys 0 xs.length
    unfold plB at h
    simp only [Bool.and_eq_true] at h
    have := cycB_len h.1
    unfold nearL
    omega
end Go.Proofs.Ytaajfpjekfmddab
