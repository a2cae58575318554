/- Plain facts on the counts of Lyndon words, necklaces and bracelets, for at most 6 letters and lengths up to 12 (by reckoning in the kernel). -/
import Derived.Test.YteimfdpkodcfbaaBs1
namespace Go.Proofs.Yteimfdpkodcfbaa
set_option linter.unusedVariables false

def pwI (k : Nat) : Nat → Int
  | 0 => 1
  | e + 1 => pwI k e * (k : Int)
def subF (g : Nat → Int) (k n : Nat) : Nat → Int
  | 0 => pwI k n
  | d + 1 => if n % (d + 1) = 0 then subF g k n d - ((d + 1 : Nat) : Int) * g (d + 1) else subF g k n d
def lynF (k : Nat) : Nat → Nat → Int
  | 0, _ => 0
  | f + 1, n => subF (lynF k f) k n (n - 1) / (n : Int)
/-- how many Lyndon words of n letters over k there are -/
def lynC (k n : Nat) : Int := lynF k 13 n
def divTo (n : Nat) : Nat → List Int
  | 0 => []
  | d + 1 => if n % (d + 1) = 0 then divTo n d ++ [((d + 1 : Nat) : Int)] else divTo n d
def subD (k n : Nat) : Nat → Int
  | 0 => pwI k n
  | i + 1 => if (divTo n n).getD i 0 < (n : Int) then subD k n i - (divTo n n).getD i 0 * lynC k ((divTo n n).getD i 0).toNat else subD k n i
def necT (k n : Nat) : Nat → Int
  | 0 => 0
  | d + 1 => if n % (d + 1) = 0 then necT k n d + lynC k (d + 1) else necT k n d
def necC (k n : Nat) : Int := necT k n n
def necD (k n : Nat) : Nat → Int
  | 0 => 0
  | i + 1 => necD k n i + lynC k ((divTo n n).getD i 0).toNat
def upT (k : Nat) : Nat → Int
  | 0 => 0
  | d + 1 => upT k d + lynC k (d + 1)
def mirC (k n : Nat) : Int := (pwI k ((n + 1) / 2) + pwI k (n / 2 + 1)) / 2
def braC (k n : Nat) : Int := (necC k n + mirC k n) / 2
def braS (k n : Nat) : Int := (2 * necC k n + (if n % 2 = 0 then pwI k (n / 2) + pwI k (n / 2 + 1) else 2 * pwI k ((n + 1) / 2))) / 4
theorem pw_tab : ∀ k, k < 7 → ∀ e, e < 13 → 0 ≤ pwI k e ∧ pwI k e ≤ 2176782336 := by decide +kernel
theorem lyn_tab : ∀ k, k < 7 → ∀ n, n < 13 → 0 ≤ lynC k n ∧ lynC k n ≤ 2176782336 := by decide +kernel
theorem lyn_eq : ∀ k, k < 7 → ∀ n, n < 13 → lynC k n = subF (lynC k) k n (n - 1) / (n : Int) := by decide +kernel
theorem sub_tab : ∀ k, k < 7 → ∀ n, n < 13 → ∀ j, j < n → 0 ≤ subF (lynC k) k n j ∧ subF (lynC k) k n j ≤ 2176782336 := by decide +kernel
theorem subD_tab : ∀ k, k < 7 → ∀ n, n < 13 → ∀ i, i < (divTo n n).length + 1 → 0 ≤ subD k n i ∧ subD k n i ≤ 2176782336 := by decide +kernel
theorem subD_eq : ∀ k, k < 7 → ∀ n, n < 13 → subD k n (divTo n n).length = subF (lynC k) k n (n - 1) := by decide +kernel
theorem div_tab : ∀ n, n < 13 → ∀ i, i < (divTo n n).length → 1 ≤ (divTo n n).getD i 0 ∧ (divTo n n).getD i 0 ≤ (n : Int) := by decide +kernel
theorem div_len : ∀ n, n < 13 → (divTo n n).length ≤ 12 := by decide +kernel
theorem nec_tab : ∀ k, k < 7 → ∀ n, n < 13 → ∀ j, j < n + 1 → 0 ≤ necT k n j ∧ necT k n j ≤ 2176782336 := by decide +kernel
theorem necD_tab : ∀ k, k < 7 → ∀ n, n < 13 → ∀ i, i < (divTo n n).length + 1 → 0 ≤ necD k n i ∧ necD k n i ≤ 2176782336 := by decide +kernel
theorem necD_eq : ∀ k, k < 7 → ∀ n, n < 13 → necD k n (divTo n n).length = necC k n := by decide +kernel
theorem up_tab : ∀ k, k < 7 → ∀ n, n < 13 → 0 ≤ upT k n ∧ upT k n ≤ 4000000000 := by decide +kernel
theorem bra_eq : ∀ k, k < 7 → ∀ n, n < 13 → braS k n = braC k n := by decide +kernel
theorem mir_tab : ∀ k, k < 7 → ∀ n, n < 13 → 0 ≤ mirC k n ∧ mirC k n ≤ 2176782336 := by decide +kernel
theorem divTo_le (n : Nat) : ∀ d, (divTo n d).length ≤ d
  | 0 => Nat.le_refl _
  | d + 1 => by
    rw [divTo]
    have := divTo_le n d
    split
    · simp; omega
    · omega
end Go.Proofs.Yteimfdpkodcfbaa
