/- What walk does, as a plain function; append that says which row it leaves; frames that spare a row. No conditions. -/
import Derived.Test.YtijjdidljoicfaaDoorCBit
import Derived.Test.YtijjdidljoicfaaDoorKept
namespace Go.Proofs.YtijjdidljoicfaaDoor
open Go.RowKit
set_option linter.unusedVariables false

def lastN (p : List Int) : Nat := (p.getD (p.length - 1) 0).toNat
/-- x differs in one bit from the last word of p, if there is one -/
def folB (p : List Int) (x : Int) : Bool := decide (p.length = 0) || cbB (lastN p ^^^ x.toNat)
def stopB (p : List Int) (x : Int) : Bool := hasB p x || !(folB p x)
def wlkL {σ : Type} (f : List Int → σ → Bool × σ) (p : List Int) : List Int → σ → Bool × σ
  | [], s => (true, s)
  | x :: xs, s => if stopB p x = true then wlkL f p xs s else if (f (p ++ [x]) s).1 = true then wlkL f p xs (f (p ++ [x]) s).2 else (false, (f (p ++ [x]) s).2)
def wlk {σ : Type} (ws : List Int) (vis : List Int → σ → Bool × σ) : Nat → List Int → σ → Bool × σ
  | 0, p, s => vis p s
  | m + 1, p, s => wlkL (wlk ws vis m) p ws s
theorem wlkL_skip {σ : Type} {f : List Int → σ → Bool × σ} {p ws : List Int} {k : Nat} {s : σ} (hk : k < ws.length) (h : stopB p ws[k] = true) : wlkL f p (ws.drop k) s = wlkL f p (ws.drop (k + 1)) s := by
  rw [List.drop_eq_getElem_cons hk, wlkL, if_pos h]
theorem wlkL_on {σ : Type} {f : List Int → σ → Bool × σ} {p ws : List Int} {k : Nat} {s s1 : σ} (hk : k < ws.length) (h : stopB p ws[k] = false) (hf : f (p ++ [ws[k]]) s = (true, s1)) : wlkL f p (ws.drop k) s = wlkL f p (ws.drop (k + 1)) s1 := by
  rw [List.drop_eq_getElem_cons hk, wlkL, if_neg (by rw [h]; simp), hf]; rfl
theorem wlkL_off {σ : Type} {f : List Int → σ → Bool × σ} {p ws : List Int} {k : Nat} {s s1 : σ} (hk : k < ws.length) (h : stopB p ws[k] = false) (hf : f (p ++ [ws[k]]) s = (false, s1)) : wlkL f p (ws.drop k) s = (false, s1) := by
  rw [List.drop_eq_getElem_cons hk, wlkL, if_neg (by rw [h]; simp), hf]; rfl
theorem wlkL_end {σ : Type} {f : List Int → σ → Bool × σ} {p ws : List Int} {s : σ} : wlkL f p (ws.drop ws.length) s = (true, s) := by
  rw [List.drop_length]; rfl

end Go.Proofs.YtijjdidljoicfaaDoor
