/- Contract: has, the check of a list against a shape. Conditions: the shape's functions keep their contracts; the slice reads as a list of at most 2^20 numbers. -/
import Derived.Test.YtakelcboamjndaaShA
namespace Go.Proofs.Ytakelcboamjndaa
open Go.RowKit
set_option linter.unusedVariables false
set_option maxRecDepth 4000

/-- the functions of a shape: which rests they are made for, the next numbers, what may come behind each -/
structure ShC (fc fb : Nat) (D : Nat → Nat → Prop) (ch : Nat → Nat → List Int) (nl nb : Nat → Nat → Int → Nat) : Prop where
  choices : ∀ l b w, D l b → l ≠ 0 → Calls Try.prog fc #[rv l b] w (fun e w' => ∃ u, e = .returned u ∧ Own w' w.heap.size u (ch l b) ∧ Below w.heap.size w w')
  behind : ∀ l b x w, D l b → l ≠ 0 → x ∈ ch l b → Calls Try.prog fb #[rv l b, .int .i64 x] w (fun e w' => e = .returned (rv (nl l b x) (nb l b x)) ∧ Below w.heap.size w w')
  dom : ∀ l b x, D l b → l ≠ 0 → x ∈ ch l b → D (nl l b x) (nb l b x)
  len : ∀ l b, D l b → (ch l b).length ≤ 1000
def hasS (ch : Nat → Nat → List Int) (nl nb : Nat → Nat → Int → Nat) : List Int → Nat → Nat → Bool
  | [], l, _ => l == 0
  | x :: xs, l, b => (l != 0) && hasB (ch l b) x && hasS ch nl nb xs (nl l b x) (nb l b x)
abbrev fnV (f : Nat) : Value := .func (.func f) #[] #[]
abbrev shObj (l b : Int) (fc fb fk : Value) : Obj := .cells #[.int .i64 l, .int .i64 b, fc, fb, fk] 49
theorem sh_box (w : World) (l b : Int) (fc fb fk : Value) : (w.alloc (shObj l b fc fb fk)).cell? ⟨w.heap.size, 0, none⟩ = some (.int .i64 l) ∧ (w.alloc (shObj l b fc fb fk)).cell? ⟨w.heap.size, 1, none⟩ = some (.int .i64 b) ∧
    (w.alloc (shObj l b fc fb fk)).cell? ⟨w.heap.size, 2, none⟩ = some fc ∧ (w.alloc (shObj l b fc fb fk)).cell? ⟨w.heap.size, 3, none⟩ = some fb ∧ (w.alloc (shObj l b fc fb fk)).cell? ⟨w.heap.size, 4, none⟩ = some fk := by
  have h : (w.alloc (shObj l b fc fb fk)).rowIs w.heap.size 49 5 (fun t => if t = 0 then .int .i64 l else if t = 1 then .int .i64 b else if t = 2 then fc else if t = 3 then fb else fk) :=
    World.rowIs_alloc w #[.int .i64 l, .int .i64 b, fc, fb, fk] 49 _ (fun t ht => by
      match t, ht with
      | 0, _ => rfl | 1, _ => rfl | 2, _ => rfl | 3, _ => rfl | 4, _ => rfl
      | t + 5, h => exact absurd h (by simp))
  exact ⟨h.cell (i := 0) (by omega), h.cell (i := 1) (by omega), h.cell (i := 2) (by omega), h.cell (i := 3) (by omega), h.cell (i := 4) (by omega)⟩
def rvF (l b : Int) : Nat → Value := fun t => if t = 0 then .int .i64 l else .int .i64 b
theorem rv_set {w : World} {g : Nat} {l b : Int} (h : w.rowIs g 44 2 (rvF l b)) (l' b' : Int) :
    ((w.setCell ⟨g, 0, none⟩ (.int .i64 l')).setCell ⟨g, 1, none⟩ (.int .i64 b')).rowIs g 44 2 (rvF l' b') :=
  ((h.set 0 (.int .i64 l')).set 1 (.int .i64 b')).congr (fun i hi => by
    match i, hi with
    | 0, _ => rfl | 1, _ => rfl)
theorem hasS_cons {ch : Nat → Nat → List Int} {nl nb : Nat → Nat → Int → Nat} {xs : List Int} {k l b : Nat} (hk : k < xs.length) :
    hasS ch nl nb (xs.drop k) l b = ((l != 0) && hasB (ch l b) xs[k] && hasS ch nl nb (xs.drop (k + 1)) (nl l b xs[k]) (nb l b xs[k])) := by
  rw [List.drop_eq_getElem_cons hk]; rfl
end Go.Proofs.Ytakelcboamjndaa
