/- Plain facts: the least pair cycle by the search, and by the tour that takes the least tied pair; both by reckoning for 3, 5, 7, 9, 11. No conditions. -/
import Derived.Test.YteimfdpkodcfbaaPcM
import Derived.Test.YteimfdpkodcfbaaSchM
namespace Go.Proofs.Yteimfdpkodcfbaa
set_option linter.unusedVariables false

/-- the pair at i is one and new -/
def nwQ (n : Nat) (l : List Int) (i : Nat) : Bool := (decide (0 ≤ l.getD i 0) && decide (l.getD i 0 < n) && decide (0 ≤ nxW l i) && decide (nxW l i < n) && !(l.getD i 0 == nxW l i)) && !cmeP l i (l.getD i 0) (nxW l i)
def chkQ (n N : Nat) (l : List Int) : Bool := decide (N < l.length) || ((decide (l.length < 2) || nwQ n l (l.length - 2)) && (!decide (l.length = N) || nwQ n l (N - 1)))
/-- one number x that hangs with r -/
def stT (n : Nat) (L : List Bool) (r x : Nat) (R : List Int) : List Int := if L.getD (r * n + x) false && !hasB R x then R ++ [(x : Int)] else R
def inT (n : Nat) (L : List Bool) (r : Nat) : Nat → Nat → List Int → List Int
  | 0, _, R => R
  | d + 1, x, R => inT n L r d (x + 1) (stT n L r x R)
def bfT (n : Nat) (L : List Bool) : Nat → Nat → List Int → List Int
  | 0, _, R => R
  | f + 1, k, R => if k < R.length then bfT n L f (k + 1) (inT n L (R.getD k 0).toNat n 0 R) else R
def reT (n : Nat) (L : List Bool) (x : Nat) : List Int := bfT n L n 0 [(x : Int)]
def tiT (n : Nat) (L : List Bool) (x : Nat) : Bool := allTo (n * n) (fun i => !(L.getD i false) || hasB (reT n L x) ((i / n : Nat) : Int))
/-- a pair is taken away, or put back -/
def cutT (n : Nat) (L : List Bool) (a b : Nat) : List Bool := (L.set (a * n + b) false).set (b * n + a) false
def putT (n : Nat) (L : List Bool) (a b : Nat) : List Bool := (L.set (a * n + b) true).set (b * n + a) true
def nxT (n last : Nat) : Nat → List Bool → Int → List Bool × Int
  | 0, L, nx => (L, nx)
  | d + 1, L, nx => if L.getD (last * n + d) false then nxT n last d (putT n (cutT n L last d) last d) (if tiT n (cutT n L last d) d then (d : Int) else nx) else nxT n last d L nx
def trT (n : Nat) : Nat → Nat → List Bool → List Int → List Int
  | 0, _, _, out => out
  | e + 1, last, L, out => trT n e (nxT n last n L (-1)).2.toNat (cutT n (nxT n last n L (-1)).1 last (nxT n last n L (-1)).2.toNat) (out ++ [(nxT n last n L (-1)).2])
def okT (n : Nat) : Nat → Nat → List Bool → Bool
  | 0, _, _ => true
  | e + 1, last, L => decide (0 ≤ (nxT n last n L (-1)).2) && okT n e (nxT n last n L (-1)).2.toNat (cutT n (nxT n last n L (-1)).1 last (nxT n last n L (-1)).2.toNat)
def L0T (n : Nat) : List Bool := (List.range (n * n)).map fun i => !(i / n == i % n)
def trW (n : Nat) : List Int := (trT n (n * (n - 1) / 2) 0 (L0T n) [0]).take (n * (n - 1) / 2)
set_option maxRecDepth 100000 in
theorem tr_tab3 : okT 3 3 0 (L0T 3) = true ∧ srcF (chkQ 3 3) 3 3 [] = some (trW 3) := by decide +kernel
set_option maxRecDepth 100000 in
theorem tr_tab5 : okT 5 10 0 (L0T 5) = true ∧ srcF (chkQ 5 10) 5 10 [] = some (trW 5) := by decide +kernel
set_option maxRecDepth 100000 in
theorem tr_tab7 : okT 7 21 0 (L0T 7) = true ∧ srcF (chkQ 7 21) 7 21 [] = some (trW 7) := by decide +kernel
set_option maxRecDepth 100000 in
theorem tr_tab9 : okT 9 36 0 (L0T 9) = true ∧ srcF (chkQ 9 36) 9 36 [] = some (trW 9) := by decide +kernel
set_option maxRecDepth 100000 in
theorem tr_tab11 : okT 11 55 0 (L0T 11) = true ∧ srcF (chkQ 11 55) 11 55 [] = some (trW 11) := by decide +kernel
end Go.Proofs.Yteimfdpkodcfbaa
