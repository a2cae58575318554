/- The list with a rank by a shape, as a plain function. Conditions: the counts' equations. -/
import Derived.Test.YtakelcboamjndaaShR
import Derived.Test.YtakelcboamjndaaEnd
namespace Go.Proofs.Ytakelcboamjndaa
open Go.RowKit Go.Maps
set_option linter.unusedVariables false

/-- the number that comes next, and the rank that is left -/
def pkS (f : Int → Nat) : List Int → Nat → Int × Nat
  | [], r => (0, r)
  | x :: t, r => if r < f x then (x, r) else pkS f t (r - f x)
theorem pkS_ok (f : Int → Nat) : ∀ (ys : List Int) (r : Nat), r < sumL f ys → (pkS f ys r).1 ∈ ys ∧ (pkS f ys r).2 < f (pkS f ys r).1
  | [], r, h => by simp [sumL] at h
  | x :: t, r, h => by
    rw [pkS]
    split
    · rename_i hlt; exact ⟨by simp, hlt⟩
    · rename_i hge
      rw [sumL] at h
      obtain ⟨h1, h2⟩ := pkS_ok f t (r - f x) (by omega)
      exact ⟨List.mem_cons_of_mem _ h1, h2⟩
def atS (ch : Nat → Nat → List Int) (nl nb : Nat → Nat → Int → Nat) (K : Nat → Nat → Nat) : Nat → Nat → Nat → Nat → List Int
  | 0, _, _, _ => []
  | f + 1, l, b, r => if l = 0 then [] else
    let p := pkS (fun y => K (nl l b y) (nb l b y)) (ch l b) r
    p.1 :: atS ch nl nb K f (nl l b p.1) (nb l b p.1) p.2
theorem atS_len (ch : Nat → Nat → List Int) (nl nb : Nat → Nat → Int → Nat) (K : Nat → Nat → Nat) : ∀ f l b r, (atS ch nl nb K f l b r).length ≤ f
  | 0, _, _, _ => by simp [atS]
  | f + 1, l, b, r => by
    rw [atS]
    split
    · simp
    · have := atS_len ch nl nb K f (nl l b (pkS (fun y => K (nl l b y) (nb l b y)) (ch l b) r).1) (nb l b (pkS (fun y => K (nl l b y) (nb l b y)) (ch l b) r).1) (pkS (fun y => K (nl l b y) (nb l b y)) (ch l b) r).2
      simpa using this
def cellN (w : World) (p : Addr) : Nat := match w.cell? p with | some (.int _ n) => n.toNat | _ => 0
theorem cellN_of {w : World} {p : Addr} {n : Nat} (h : w.cell? p = some (.int .i64 (n : Int))) : cellN w p = n := by unfold cellN; rw [h]; simp
/-- the list with a rank, or nothing -/
def atRes (ch : Nat → Nat → List Int) (nl nb : Nat → Nat → Int → Nat) (K : Nat → Nat → Nat) (l b : Nat) (r : Int) : List Int := if inB r 0 ((K l b : Int) - 1) = true then atS ch nl nb K l l b r.toNat else []
theorem sumL_drop (f : Int → Nat) {ys : List Int} {j : Nat} (hj : j < ys.length) : sumL f (ys.drop j) = f ys[j] + sumL f (ys.drop (j + 1)) := by
  rw [List.drop_eq_getElem_cons hj]; rfl
theorem own_ne {w : World} {base g n : Nat} {T : TypeId} {v : Value} {vs : List Value} (h : w.ownsRow (base + 1) T 1 v n vs) (hg : g ≤ base) : some g ≠ v.ownBlock := fun e => by
  have := (World.ownsRow.lt h g e.symm).1
  omega
theorem _root_.Go.World.rowIs.alloc_old {w : World} {g n : Nat} {T : TypeId} {F : Nat → Value} (h : w.rowIs g T n F) (o : Obj) : (w.alloc o).rowIs g T n F :=
  h.of_block (((Below.refl _ _).alloc (Nat.le_refl _) o).block g (World.rowIs.lt h))
theorem own_ne3 {w wa w' : World} {base g n i j k : Nat} {T : TypeId} {v : Value} {vs : List Value} {x y z : Value} (h : w.ownsRow (base + 1) T 1 v n vs) (h0 : wa.cell? ⟨base, i, none⟩ = some x) (h1 : wa.cell? ⟨base, j, none⟩ = some y) (h3 : wa.cell? ⟨g, k, none⟩ = some z)
    (hg : wa.grownBy w' v.ownBlock) (_h : base ≤ base) (hgb : g ≤ base) : w'.cell? ⟨base, i, none⟩ = some x ∧ w'.cell? ⟨base, j, none⟩ = some y ∧ w'.cell? ⟨g, k, none⟩ = some z :=
  ⟨hg.cell h0 (own_ne h (Nat.le_refl _)), hg.cell h1 (own_ne h (Nat.le_refl _)), hg.cell h3 (own_ne h hgb)⟩
theorem grown_own {w2 w4 w5 : World} {r row : Option Nat} (h : w2.grownBy w4 r) (hg : w4.grownBy w5 row) (hrow : ∀ k, row = some k → w2.heap.size ≤ k) : w2.grownBy w5 r :=
  ⟨hg.os.trans h.os, hg.tape.trans h.tape, hg.output.trans h.output, Nat.le_trans h.size hg.size, fun k hk hn => (hg.block k (Nat.lt_of_lt_of_le hk h.size) (fun e => by have := hrow k e.symm; omega)).trans (h.block k hk hn)⟩
theorem ret_sb6 {u : Value} {b b' : Bool} (h : b = b') : Ending.returned (.tuple #[u, .bool b]) = .returned (.tuple #[u, .bool b']) := by rw [h]
theorem pkS_drop (f : Int → Nat) {ys : List Int} {j r : Nat} (hj : j < ys.length) : pkS f (ys.drop j) r = if r < f ys[j] then (ys[j], r) else pkS f (ys.drop (j + 1)) (r - f ys[j]) := by
  rw [List.drop_eq_getElem_cons hj]; rfl
end Go.Proofs.Ytakelcboamjndaa
