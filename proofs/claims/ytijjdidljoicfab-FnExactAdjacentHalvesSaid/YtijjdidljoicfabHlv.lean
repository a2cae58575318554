/- Contracts: chHalves and spec.AdjacentHalves. Conditions: k <= n <= 12. -/
import Derived.Test.YtijjdidljoicfabCh4
namespace Go.Proofs.Ytijjdidljoicfab
open Go.RowKit
set_option linter.unusedVariables false

theorem outTo_mem {F : Nat → List (List Int)} {f : Nat} {l : List Int} : ∀ m, l ∈ outTo F f m → ∃ j t, j < m ∧ t ∈ F (f + j + 1) ∧ l = ((f + j : Nat) : Int) :: t
  | 0, h => by simp [outTo] at h
  | m + 1, h => by
    rw [outTo, List.mem_append] at h
    rcases h with h | h
    · obtain ⟨j, t, a, b, c⟩ := outTo_mem m h
      exact ⟨j, t, by omega, b, c⟩
    · obtain ⟨t, ht, rfl⟩ := List.mem_map.1 h
      exact ⟨m, t, by omega, ht, rfl⟩
theorem allL_small (n : Nat) : ∀ k f l, l ∈ allL n k f → ∀ x ∈ l, 0 ≤ x ∧ x < (n : Int)
  | 0, f, l, h, x, hx => by simp [allL] at h; subst h; simp at hx
  | k + 1, f, l, h, x, hx => by
    rw [allL] at h
    obtain ⟨j, t, hj, ht, rfl⟩ := outTo_mem _ h
    rcases List.mem_cons.1 hx with rfl | hx
    · omega
    · exact allL_small n k _ t ht x hx
def sumTo (l : List Int) : Nat → Int
  | 0 => 0
  | k + 1 => sumTo l k + l.getD k 0
theorem sumTo_range {l : List Int} (h : ∀ x ∈ l, 0 ≤ x ∧ x < 12) : ∀ k, k ≤ l.length → 0 ≤ sumTo l k ∧ sumTo l k ≤ 12 * k
  | 0, _ => by simp [sumTo]
  | k + 1, hk => by
    have h1 := sumTo_range h k (by omega)
    have hk' : k < l.length := by omega
    have h2 := h l[k] (List.getElem_mem _)
    rw [sumTo, getD_at hk']
    omega
def evenS (l : List Int) : Bool := sumTo l l.length % 2 == 0
/-- how many of the first k lists have an even sum, and an odd one -/
def hlE (M : List (List Int)) : Nat → Int
  | 0 => 0
  | k + 1 => if evenS (M.getD k []) = true then hlE M k + 1 else hlE M k
def hlO (M : List (List Int)) : Nat → Int
  | 0 => 0
  | k + 1 => if evenS (M.getD k []) = true then hlO M k else hlO M k + 1
theorem hl_range (M : List (List Int)) : ∀ k, 0 ≤ hlE M k ∧ 0 ≤ hlO M k ∧ hlE M k + hlO M k = k
  | 0 => by simp [hlE, hlO]
  | k + 1 => by
    have := hl_range M k
    rw [hlE, hlO]
    split <;> omega
theorem ret_nn2 {a b c d : Int} (h : a = c) (h' : b = d) : Ending.returned (.tuple #[.int .i64 a, .int .i64 b]) = .returned (.tuple #[.int .i64 c, .int .i64 d]) := by rw [h, h']
set_option maxHeartbeats 2000000 in
theorem chHalves_any (n k : Nat) (hn : n ≤ 12) (hk : k ≤ n) (w : World) :
    Calls Try.prog 45 #[.int .i64 (n : Int), .int .i64 (k : Int)] w fun e w' => e = .returned (.tuple #[.int .i64 (hlE (allL n k 0) (allL n k 0).length), .int .i64 (hlO (allL n k 0) (allL n k 0).length)]) ∧ Below w.heap.size w w' := by
  have HALL := hid (raAll_any n hn k 0 w (by omega) (by omega))
  have HSM := hid (fun l hl => allL_small n k 0 l hl)
  have HEL := hid (fun l hl => allL_elem n k 0 l hl)
  have hbd := allL_bound n hn k 0 (by omega)
  obtain ⟨M, hM⟩ : ∃ M, M = allL n k 0 := ⟨_, rfl⟩
  rw [← hM] at HALL HSM HEL hbd ⊢
  clear hM
  go_enter Try.func45, Try.ntmps45
  go_wp2_with fail
  refine HALL.out.mono ?_
  rintro e w1 ⟨u, rfl, hu, hb1⟩
  have HB1 := hid hb1
  clear hb1
  rcases hu.form with ⟨rfl, rfl⟩ | ⟨g, cap, rfl, _, hg, hc1, hm, hc⟩
  · go_wp2_with fail
    refine wp_loop_rounds 1 ?_
    rw [rounds_succ]
    go_wp2_with fail
    go_ret2
    exact ⟨rfl, HB1.out⟩
  · have HC := hid hc
    clear hc hu
    go_wp2_with fail
    go_loopw [6, 7, 9, 10, 12, 17, 21, 22, 23] (fun ev od _ _ _ i _ _ _ wr => ∃ t : Nat, t ≤ M.length ∧ i = .int .i64 t ∧ ev = .int .i64 (hlE M t) ∧ od = .int .i64 (hlO M t) ∧ w1 = wr) (fun _ _ _ _ _ i _ _ _ _ => M.length - (intOf i).toNat)
    case atStart => exact ⟨0, Nat.zero_le _, rfl, rfl, rfl, rfl⟩
    case round =>
      obtain ⟨t, ht, rfl, rfl, rfl, rfl⟩ := hrel
      have hrg := hl_range M t
      by_cases hlt : t < M.length
      · obtain ⟨z, hz, hown⟩ := HC.out t hlt
        have hmem : M[t] ∈ M := List.getElem_mem _
        obtain ⟨l, hl⟩ : ∃ l, l = M[t] := ⟨_, rfl⟩
        rw [← hl] at hown hmem
        have hsm := HSM.out l hmem
        have hln := HEL.out l hmem
        have HR := hid (sumTo_range (l := l) (fun x hx => by have := hsm x hx; omega))
        have HE1 := hid (show hlE M (t + 1) = if evenS l = true then hlE M t + 1 else hlE M t by rw [hlE, List.getD_eq_getElem?_getD, List.getElem?_eq_getElem hlt, Option.getD_some, ← hl])
        have HO1 := hid (show hlO M (t + 1) = if evenS l = true then hlO M t else hlO M t + 1 by rw [hlO, List.getD_eq_getElem?_getD, List.getElem?_eq_getElem hlt, Option.getD_some, ← hl])
        obtain ⟨E, hE⟩ : ∃ E, E = hlE M t := ⟨_, rfl⟩
        obtain ⟨O, hO⟩ : ∃ O, O = hlO M t := ⟨_, rfl⟩
        rw [← hE] at HE1 hrg ⊢
        rw [← hO] at HO1 hrg ⊢
        have hE0 : 0 ≤ E := hrg.1
        have hO0 : 0 ≤ O := hrg.2.1
        have hE1 : E ≤ 30000 := by omega
        have hO1 : O ≤ 30000 := by omega
        obtain ⟨ao, c, rfl, hcc, hmm, hcell⟩ := hown.reads.view
        have hll : l.length ≤ 12 := by omega
        clear hown hsm hl hE hO hrg hln hmem
        have HFIN := hid (show ∀ s : Int, s = sumTo l l.length → ((s % 2 == 0) = evenS l) from fun s hs => by rw [evenS, ← hs])
        have HEND := hid (show ∀ s : Int, s = sumTo l l.length → 0 ≤ s ∧ s ≤ 200 from fun s hs => by have := HR.out l.length (Nat.le_refl _); rw [hs]; omega)
        rcases hcell with hnil | ⟨gb, ob, rfl, hgb, hcell⟩
        · subst hnil
          go_wp2_with fail
          refine wp_loop_rounds 1 ?_
          rw [rounds_succ]
          have HE2 := hid (show hlE M (t + 1) = E + 1 by rw [HE1.out, if_pos (show evenS [] = true from rfl)])
          have HO2 := hid (show hlO M (t + 1) = O by rw [HO1.out, if_pos (show evenS [] = true from rfl)])
          go_wp2_with fail
          go_roundw
          case rel => exact ⟨t + 1, by omega, by go_num, by rw [HE2.out], by rw [HO2.out], trivial⟩
          case measure => simp [intOf] <;> omega
        · have HCL := hid hcell
          clear hcell
          go_wp2_with fail
          go_loopw [10, 12, 23] (fun sv _ i wq => ∃ j : Nat, j ≤ l.length ∧ i = .int .i64 j ∧ sv = .int .i64 (sumTo l j) ∧ w1 = wq) (fun _ _ i _ => l.length - (intOf i).toNat)
          case atStart => exact ⟨0, Nat.zero_le _, rfl, rfl, rfl⟩
          case round =>
            obtain ⟨j, hj, rfl, rfl, rfl⟩ := hrel
            have hrj := HR.out j hj
            by_cases hjl : j < l.length
            · have hcy := HCL.out j hjl
              have hrj2 := HR.out (j + 1) (by omega)
              have HSU := hid (show sumTo l (j + 1) = sumTo l j + l[j] by rw [sumTo, getD_at hjl])
              rw [HSU.out] at hrj2
              obtain ⟨s, hs⟩ : ∃ s, s = sumTo l j := ⟨_, rfl⟩
              rw [← hs] at HSU hrj hrj2 ⊢
              obtain ⟨x, hx⟩ : ∃ x, x = l[j] := ⟨_, rfl⟩
              rw [← hx] at HSU hcy hrj2
              have hws : IntKind.i64.wrap (s + x) = s + x := IntWalk.i64_in _ (by omega)
              clear hs hx
              go_wp2_with fail
              go_roundw
              case rel => exact ⟨j + 1, by omega, by go_num, by rw [HSU.out], trivial⟩
              case measure => simp [intOf] <;> omega
            · obtain rfl : j = l.length := by omega
              obtain ⟨s, hs⟩ : ∃ s, s = sumTo l l.length := ⟨_, rfl⟩
              rw [← hs] at hrj ⊢
              have hs9 := HEND.out s hs
              cases hev : evenS l with
              | true =>
                have hmod : (s % 2 == 0) = true := by rw [HFIN.out s hs, hev]
                have HE2 := hid (show hlE M (t + 1) = E + 1 by rw [HE1.out, if_pos hev])
                have HO2 := hid (show hlO M (t + 1) = O by rw [HO1.out, if_pos hev])
                clear hev hs
                go_wp2_with fail
                go_roundw
                case rel => exact ⟨t + 1, by omega, by go_num, by rw [HE2.out], by rw [HO2.out], trivial⟩
                case measure => simp [intOf] <;> omega
              | false =>
                have hmod : (s % 2 == 0) = false := by rw [HFIN.out s hs, hev]
                have HE2 := hid (show hlE M (t + 1) = E by rw [HE1.out, if_neg (by rw [hev]; simp)])
                have HO2 := hid (show hlO M (t + 1) = O + 1 by rw [HO1.out, if_neg (by rw [hev]; simp)])
                clear hev hs
                go_wp2_with fail
                go_roundw
                case rel => exact ⟨t + 1, by omega, by go_num, by rw [HE2.out], by rw [HO2.out], trivial⟩
                case measure => simp [intOf] <;> omega
      · obtain rfl : t = M.length := by omega
        go_wp2_with fail
        go_ret2
        exact ⟨rfl, HB1.out⟩
/-- AdjacentHalves -/
def ahE (n k : Int) : Int := if szB n k = true then hlE (allL n.toNat k.toNat 0) (allL n.toNat k.toNat 0).length else 0
def ahO (n k : Int) : Int := if szB n k = true then hlO (allL n.toNat k.toNat 0) (allL n.toNat k.toNat 0).length else 0
theorem spec_AdjacentHalves_any (n k : Int) (w : World) (_wn : (Lit.int .i64 n).wf = true) (_wk : (Lit.int .i64 k).wf = true) :
    Calls Try.prog 18 #[.int .i64 n, .int .i64 k] w fun e w' => e = .returned (.tuple #[.int .i64 (ahE n k), .int .i64 (ahO n k), .bool (szB n k)]) ∧ Below w.heap.size w w' := by
  cases hs : szB n k with
  | true =>
    have HS := hid hs
    obtain ⟨N, K, rfl, rfl, hN, hK⟩ := szB_nat hs
    have HE := hid (show ahE (N : Int) (K : Int) = hlE (allL N K 0) (allL N K 0).length by rw [ahE, if_pos hs]; rfl)
    have HO := hid (show ahO (N : Int) (K : Int) = hlO (allL N K 0) (allL N K 0).length by rw [ahO, if_pos hs]; rfl)
    clear hs
    go_enter Try.func18, Try.ntmps18
    go_wp2_with (first
      | (go_at_call 28; refine (chSize_any _ _ _).mono ?_; rintro e w1 ⟨rfl, rfl⟩; rw [HS.out])
      | (go_at_call 45; refine (chHalves_any N K hN hK _).mono ?_; rintro e w1 ⟨rfl, hb1⟩; have HB1 := hid hb1; clear hb1)
      | fail)
    go_ret3
    exact ⟨ret_nnb3 HE.out.symm HO.out.symm rfl, HB1.out⟩
  | false =>
    have HS := hid hs
    have HE := hid (show ahE n k = 0 by rw [ahE, if_neg (by rw [hs]; simp)])
    have HO := hid (show ahO n k = 0 by rw [ahO, if_neg (by rw [hs]; simp)])
    clear hs
    go_enter Try.func18, Try.ntmps18
    go_wp2_with (first | (go_at_call 28; refine (chSize_any _ _ _).mono ?_; rintro e w1 ⟨rfl, rfl⟩; rw [HS.out]) | fail)
    go_ret3
    exact ⟨ret_nnb3 HE.out.symm HO.out.symm rfl, Below.refl _ _⟩
end Go.Proofs.Ytijjdidljoicfab
