/- Plain facts on the successor of a combination. No conditions beyond the stated ones. -/
import Derived.Test.YtkphbelgamfmnaaCRankM
import Derived.Test.YtkphbelgamfmnaaCAt1
namespace Go.Proofs.Ytkphbelgamfmnaa
set_option linter.unusedVariables false

/-- m numbers from a on -/
def upFrom (a : Int) : Nat → List Int
  | 0 => []
  | m + 1 => a :: upFrom (a + 1) m
theorem upFrom_length : ∀ (m : Nat) (a : Int), (upFrom a m).length = m
  | 0, a => rfl
  | m + 1, a => by rw [upFrom, List.length_cons, upFrom_length m]
theorem upFrom_getD : ∀ (m : Nat) (a : Int) (i : Nat), i < m → (upFrom a m).getD i 0 = a + i
  | m + 1, a, 0, _ => by simp [upFrom]
  | m + 1, a, i + 1, h => by
    rw [upFrom, List.getD_cons_succ, upFrom_getD m (a + 1) i (by omega)]
    omega
/-- the next combination of n after this one, its first element aside -/
def succC (n : Nat) : List Int → Option (List Int)
  | [] => none
  | x :: t => match succC n t with
    | some t' => some (x :: t')
    | none => if x + 1 + t.length < n then some (upFrom (x + 1) (t.length + 1)) else none
theorem RF_upFrom (n : Nat) : ∀ (m f : Nat), f + m ≤ n → RF n f (upFrom (f : Int) m)
  | 0, f, _ => trivial
  | m + 1, f, h => by
    rw [upFrom]
    refine ⟨by omega, by omega, ?_⟩
    rw [Int.toNat_natCast, show ((f : Int) + 1) = ((f + 1 : Nat) : Int) by omega]
    exact RF_upFrom n m (f + 1) (by omega)
theorem rankC_upFrom (n : Nat) : ∀ (m f : Nat), rankC n f (upFrom (f : Int) m) = 0
  | 0, f => rfl
  | m + 1, f => by
    rw [upFrom, rankC, Int.toNat_natCast, Nat.sub_self, sumB, show ((f : Int) + 1) = ((f + 1 : Nat) : Int) by omega, rankC_upFrom n m (f + 1)]
theorem sumB_total (n r f : Nat) : ∀ e, e ≤ n - f → sumB n r f e + binom (n - f - e) (r + 1) = binom (n - f) (r + 1)
  | 0, _ => by simp [sumB]
  | e + 1, h => by
    have ih := sumB_total n r f e (by omega)
    rw [show n - f - e = (n - 1 - (f + e)) + 1 by omega, binom] at ih
    rw [sumB, show n - f - (e + 1) = n - 1 - (f + e) by omega]
    omega
theorem RF_len {n : Nat} : ∀ (xs : List Int) (f : Nat), RF n f xs → 0 < xs.length → f + xs.length ≤ n
  | x :: t, f, h, _ => by
    obtain ⟨h1, h2, h3⟩ := h
    by_cases ht : 0 < t.length
    · have := RF_len t _ h3 ht
      rw [List.length_cons]; omega
    · rw [List.length_cons]; omega
theorem succC_rank (n : Nat) (hn : n ≤ 12) : ∀ (xs : List Int) (f : Nat), xs.length ≤ 12 → RF n f xs →
    (∀ ys, succC n xs = some ys → RF n f ys ∧ ys.length = xs.length ∧ rankC n f ys = rankC n f xs + 1) ∧ (succC n xs = none → rankC n f xs + 1 = binom (n - f) xs.length)
  | [], f, _, _ => ⟨fun ys h => by simp [succC] at h, fun _ => by cases n - f <;> simp [rankC, binom]⟩
  | x :: t, f, hl, h => by
    obtain ⟨h1, h2, h3⟩ := h
    have hl' : t.length ≤ 12 := by simp at hl; omega
    obtain ⟨x, rfl⟩ := Int.eq_ofNat_of_zero_le (show 0 ≤ x by omega)
    rw [Int.toNat_natCast] at h3
    obtain ⟨i1, i2⟩ := succC_rank n hn t (x + 1) hl' h3
    have hs : sumB n t.length f (x - f + 1) = sumB n t.length f (x - f) + binom (n - 1 - x) t.length := by
      rw [sumB, show f + (x - f) = x by omega]
    have hr : rankC n f ((x : Int) :: t) = sumB n t.length f (x - f) + rankC n (x + 1) t := by rw [rankC, Int.toNat_natCast]
    cases hc : succC n t with
    | some t' =>
      obtain ⟨j1, j2, j3⟩ := i1 t' hc
      refine ⟨fun ys h => ?_, fun h => by rw [succC, hc] at h; simp at h⟩
      rw [succC, hc] at h
      simp only [Option.some.injEq] at h
      subst h
      refine ⟨⟨h1, h2, by rw [Int.toNat_natCast]; exact j1⟩, by simp [j2], ?_⟩
      rw [hr, rankC, Int.toNat_natCast, j2, j3]
      omega
    | none =>
      have j := i2 hc
      rw [show n - (x + 1) = n - 1 - x by omega] at j
      by_cases hlt : (x : Int) + 1 + t.length < n
      · refine ⟨fun ys h => ?_, fun h => by rw [succC, hc] at h; simp [hlt] at h⟩
        rw [succC, hc] at h
        simp only [hlt, if_true, Option.some.injEq] at h
        subst h
        have e : ((x : Int) + 1) = ((x + 1 : Nat) : Int) := by omega
        rw [e]
        refine ⟨?_, by rw [upFrom_length]; simp, ?_⟩
        · rw [upFrom]
          refine ⟨by omega, by omega, ?_⟩
          rw [Int.toNat_natCast, show (((x + 1 : Nat) : Int) + 1) = ((x + 2 : Nat) : Int) by omega]
          exact RF_upFrom n _ _ (by omega)
        · rw [upFrom, rankC, Int.toNat_natCast, upFrom_length, show (((x + 1 : Nat) : Int) + 1) = ((x + 1 + 1 : Nat) : Int) by omega, rankC_upFrom, show x + 1 - f = x - f + 1 by omega, hs, hr]
          omega
      · refine ⟨fun ys h => by rw [succC, hc] at h; simp [hlt] at h, fun _ => ?_⟩
        have ht := sumB_total n t.length f (x - f + 1) (by omega)
        rw [hs, binom_zero (n - f - (x - f + 1)) (by omega) (t.length + 1) (by simp at hl; omega) (by omega)] at ht
        rw [hr, List.length_cons]
        omega
theorem placeIn_get (l : List Int) : ∀ (L : List (List Int)) (k : Nat), placeIn l L = k → L.getD k [] = l
  | [], k, h => by simp [placeIn] at h
  | b :: B, k, h => by
    rw [placeIn] at h
    by_cases e : b = l
    · rw [if_pos e] at h
      obtain rfl : k = 0 := by omega
      simpa using e
    · rw [if_neg e] at h
      by_cases hp : 0 ≤ placeIn l B
      · obtain ⟨j, rfl⟩ : ∃ j, k = j + 1 := ⟨k - 1, by split at h <;> omega⟩
        have := placeIn_get l B j (by split at h <;> omega)
        simpa using this
      · split at h <;> omega
/-- what NextCombination answers -/
def nxB (n : Int) (xs : List Int) : Bool := combB n xs && (succC n.toNat xs).isSome
def nxRes (n : Int) (xs : List Int) : List Int := if nxB n xs = true then (succC n.toNat xs).getD [] else []
theorem nxRes_yes {n : Int} {xs : List Int} (h : nxB n xs = true) : nxRes n xs = (succC n.toNat xs).getD [] := by unfold nxRes; rw [if_pos h]
theorem nxRes_no {n : Int} {xs : List Int} (h : nxB n xs = false) : nxRes n xs = [] := by unfold nxRes; rw [if_neg (by rw [h]; simp)]
theorem nx_of (N : Nat) (hN : N ≤ 12) (xs : List Int) (hl : xs.length ≤ 12) (h : RF N 0 xs) (hc : combB (N : Int) xs = true) :
    ofB (allL N xs.length 0) (placeIn xs (allL N xs.length 0) + 1) = nxB (N : Int) xs ∧ ofRes (allL N xs.length 0) (placeIn xs (allL N xs.length 0) + 1) = nxRes (N : Int) xs := by
  have hp := place_rank N hN xs 0 hl h
  have hlen := allL_len N hN xs.length 0 hl
  rw [Nat.sub_zero] at hlen
  obtain ⟨a1, a2⟩ := succC_rank N hN xs 0 hl h
  cases hs : succC N xs with
  | none =>
    have b := a2 hs
    rw [Nat.sub_zero] at b
    have e1 : nxB (N : Int) xs = false := by rw [nxB, Int.toNat_natCast, hs]; simp
    have e2 : ofB (allL N xs.length 0) (placeIn xs (allL N xs.length 0) + 1) = false := by
      rw [ofB, hp, hlen]
      cases hq : inB ((rankC N 0 xs : Int) + 1) 0 ((binom N xs.length : Nat) - 1 : Int) with
      | false => rfl
      | true => have := inB_iff.1 hq; omega
    exact ⟨by rw [e1, e2], by rw [nxRes_no e1, ofRes_no e2]⟩
  | some ys =>
    obtain ⟨b1, b2, b3⟩ := a1 ys hs
    have hq := place_rank N hN ys 0 (by omega) b1
    have hlt := placeIn_lt ys (allL N ys.length 0)
    rw [b2] at hq hlt
    rw [hq, b3] at hlt
    rw [b3] at hq
    have hg := placeIn_get ys (allL N xs.length 0) (rankC N 0 xs + 1) hq
    have e1 : nxB (N : Int) xs = true := by rw [nxB, Int.toNat_natCast, hs, hc]; rfl
    have e2 : ofB (allL N xs.length 0) (placeIn xs (allL N xs.length 0) + 1) = true := by
      rw [ofB, hp, inB_iff]
      omega
    refine ⟨by rw [e1, e2], ?_⟩
    rw [nxRes_yes e1, ofRes_yes e2, hp, Int.toNat_natCast, hs, show ((rankC N 0 xs : Int) + 1).toNat = rankC N 0 xs + 1 by omega, hg]
    rfl
end Go.Proofs.Ytkphbelgamfmnaa
