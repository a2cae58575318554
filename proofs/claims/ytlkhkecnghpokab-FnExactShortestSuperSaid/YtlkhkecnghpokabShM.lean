/- Plain facts: the shortest superpermutations of 1, 2 and 3 are the first ones that a search meets. No conditions. -/
import Derived.Test.YtlkhkecnghpokabSoM
import Derived.Test.YtlkhkecnghpokabCnM
namespace Go.Proofs.Ytlkhkecnghpokab
set_option linter.unusedVariables false

/-- the word with the index k among those of s numbers below n has each permutation of n -/
def isS (n s k : Nat) : Bool := decide ((firL n (cntL n s k) (s + 1 - n)).length = fact n)
theorem firL_pre (n : Nat) (ys : List Int) (x : Int) : ∀ m, m + n ≤ ys.length + 1 → firL n (ys ++ [x]) m = firL n ys m
  | 0, _ => rfl
  | m + 1, h => by
    have e : rowD n (ys ++ [x]) m = rowD n ys m := by
      unfold rowD
      rw [List.drop_append_of_le_length (by omega), List.take_append_of_le_length (by rw [List.length_drop]; omega)]
    rw [firL, firL, e, firL_pre n ys x m (by omega)]
/-- how many of the last m windows of three numbers have different ones -/
def pcF : Nat → Nat → Nat
  | 0, _ => 0
  | m + 1, k => pcF m (k / 3) + (if k % 3 ≠ k / 3 % 3 ∧ k / 3 % 3 ≠ k / 9 % 3 ∧ k % 3 ≠ k / 9 % 3 then 1 else 0)
theorem permB_three {a b c : Nat} (h : permB [(a : Int), (b : Int), (c : Int)] = true) : a ≠ b ∧ b ≠ c ∧ a ≠ c := by
  unfold permB at h
  have h1 := (allTo_iff _ _).1 h 1 (by simp)
  have h2 := (allTo_iff _ _).1 h 2 (by simp)
  simp only [permAt, freshAt, Bool.and_eq_true, Bool.not_eq_true'] at h1 h2
  have h1 := h1.2
  have h2 := h2.2
  simp [hasB] at h1 h2
  omega
theorem cnt_last (m k : Nat) : rowD 3 (cntL 3 (m + 3) k) m = [((k / 9 % 3 : Nat) : Int), ((k / 3 % 3 : Nat) : Int), ((k % 3 : Nat) : Int)] := by
  have e : k / 3 / 3 = k / 9 := by rw [Nat.div_div_eq_div_mul]
  unfold rowD
  rw [cntL, cntL, cntL, e]
  rw [List.append_assoc, List.append_assoc, List.drop_append, cntL_length]
  simp [List.drop_eq_nil_of_le, cntL_length]
theorem fir_pc (m : Nat) : ∀ k, (firL 3 (cntL 3 (m + 2) k) m).length ≤ pcF m k := by
  induction m with
  | zero => intro k; exact Nat.zero_le _
  | succ m ih =>
    intro k
    have h1 := ih (k / 3)
    have hp : firL 3 (cntL 3 (m + 3) k) m = firL 3 (cntL 3 (m + 2) (k / 3)) m := by
      rw [cntL]
      exact firL_pre 3 _ _ m (by rw [cntL_length]; omega)
    have hr := cnt_last m k
    show (firL 3 (cntL 3 (m + 3) k) (m + 1)).length ≤ _
    rw [firL, hp, hr, pcF]
    split
    · rename_i hc
      have := permB_three hc.1
      rw [if_pos (by omega), List.length_append, List.length_singleton]
      omega
    · omega
theorem tab8 : allTo 81 (fun a => allTo 81 (fun b => decide (pcF 6 (81 * a + b) < 6) || !isS 3 8 (81 * a + b))) = true := by decide +kernel
theorem tab9 : allTo 47 (fun a => allTo 81 (fun b => decide (3747 ≤ 81 * a + b) || decide (pcF 7 (81 * a + b) < 6) || !isS 3 9 (81 * a + b))) = true := by decide +kernel
theorem sh3a (k : Nat) (hk : k < 6561) : isS 3 8 k = false := by
  have h3 := (allTo_iff _ _).1 ((allTo_iff _ _).1 tab8 (k / 81) (by omega)) (k % 81) (by omega)
  rw [show 81 * (k / 81) + k % 81 = k by omega] at h3
  simp only [Bool.or_eq_true, decide_eq_true_eq, Bool.not_eq_true'] at h3
  rcases h3 with h3 | h3
  · have h2 := fir_pc 6 k
    unfold isS
    rw [decide_eq_false_iff_not, show fact 3 = 6 from rfl]
    intro he
    have he2 : (firL 3 (cntL 3 (6 + 2) k) 6).length = 6 := he
    omega
  · exact h3
theorem sh3 (s : Nat) (h1 : 1 ≤ s) (h : s < 9) (k : Nat) (hk : k < 3 ^ s) : isS 3 s k = false := by
  by_cases h8 : s = 8
  · subst h8
    exact sh3a k hk
  · unfold isS
    rw [decide_eq_false_iff_not, show fact 3 = 6 from rfl]
    intro he
    have := firL_le 3 (cntL 3 s k) (s + 1 - 3)
    omega
theorem sh3b (k : Nat) (hk : k < 3747) : isS 3 9 k = false := by
  have h3 := (allTo_iff _ _).1 ((allTo_iff _ _).1 tab9 (k / 81) (by omega)) (k % 81) (by omega)
  rw [show 81 * (k / 81) + k % 81 = k by omega] at h3
  simp only [Bool.or_eq_true, decide_eq_true_eq, Bool.not_eq_true'] at h3
  rcases h3 with (h3 | h3) | h3
  · omega
  · have h2 := fir_pc 7 k
    unfold isS
    rw [decide_eq_false_iff_not, show fact 3 = 6 from rfl]
    intro he
    have he2 : (firL 3 (cntL 3 (7 + 2) k) 7).length = 6 := he
    omega
  · exact h3
/-- where the search ends: the length and the index -/
def shT (n : Nat) : Nat := [0, 1, 3, 9].getD n 0
def shK (n : Nat) : Nat := [0, 0, 2, 3747].getD n 0
structure ShF (n : Nat) : Prop where
  short : ∀ s, 1 ≤ s → s < shT n → ∀ k, k < n ^ s → isS n s k = false
  before : ∀ k, k < shK n → isS n (shT n) k = false
  found : isS n (shT n) (shK n) = true
  word : cntL n (shT n) (shK n) = supL (n - 1)
  there : shK n < n ^ shT n
  one : 1 ≤ shT n
  nine : shT n ≤ 9
theorem sh_f {n : Nat} (h1 : 1 ≤ n) (h3 : n ≤ 3) : ShF n := by
  obtain h | h | h : n = 1 ∨ n = 2 ∨ n = 3 := by omega
  · subst h
    refine ⟨fun s q1 q2 => ?_, fun k hk => ?_, by decide +kernel, by decide +kernel, by decide, by decide, by decide⟩
    · have : s < 1 := q2
      omega
    · have : k < 0 := hk
      omega
  · subst h
    have t : ∀ s, s < 3 → 1 ≤ s → ∀ k, k < 2 ^ s → isS 2 s k = false := by decide +kernel
    have t2 : ∀ k, k < 2 → isS 2 3 k = false := by decide +kernel
    exact ⟨fun s q1 q2 k hk => t s q2 q1 k hk, fun k hk => t2 k hk, by decide +kernel, by decide +kernel, by decide, by decide, by decide⟩
  · subst h
    exact ⟨fun s q1 q2 k hk => sh3 s q1 q2 k hk, fun k hk => sh3b k hk, by decide +kernel, by decide +kernel, by decide, by decide, by decide⟩
end Go.Proofs.Ytlkhkecnghpokab
