/- Contract: chRevolving. Conditions: k <= n <= 12. -/
import Derived.Test.YtijjdidljoicfabCh4
import Derived.Test.YtijjdidljoicfabCAt1
namespace Go.Proofs.Ytijjdidljoicfab
open Go.RowKit
set_option linter.unusedVariables false

/-- the revolving list -/
def revL : Nat → Nat → List (List Int)
  | 0, _ => [[]]
  | _ + 1, 0 => [[]]
  | n + 1, k + 1 => if k = n then [upTo (n + 1)] else revL n (k + 1) ++ (revL n k).reverse.map (fun l => l ++ [(n : Int)])
theorem revL_bound : ∀ n k, (revL n k).length ≤ 2 ^ n
  | 0, _ => by simp [revL]
  | n + 1, 0 => by have := Nat.two_pow_pos (n + 1); rw [revL]; simp; omega
  | n + 1, k + 1 => by
    rw [revL, Nat.pow_succ]
    split
    · have := Nat.two_pow_pos n; simp; omega
    · have h1 := revL_bound n (k + 1)
      have h2 := revL_bound n k
      simp; omega
theorem revL_pos : ∀ n k, 0 < (revL n k).length
  | 0, _ => by simp [revL]
  | n + 1, 0 => by simp [revL]
  | n + 1, k + 1 => by
    rw [revL]
    split
    · simp
    · have := revL_pos n (k + 1); simp; omega
theorem revL_elem : ∀ n k, k ≤ n → ∀ l ∈ revL n k, l.length = k
  | 0, k, hk, l, hl => by simp [revL] at hl; subst hl; simp; omega
  | n + 1, 0, _, l, hl => by simp [revL] at hl; subst hl; rfl
  | n + 1, k + 1, hk, l, hl => by
    rw [revL] at hl
    split at hl
    · rename_i e
      simp at hl
      subst hl
      rw [upTo_length]; omega
    · rcases List.mem_append.1 hl with hl | hl
      · exact revL_elem n (k + 1) (by omega) l hl
      · obtain ⟨m, hm, rfl⟩ := List.mem_map.1 hl
        have := revL_elem n k (by omega) m (List.mem_reverse.1 hm)
        simp; omega
theorem pow12_le {n : Nat} (h : n ≤ 12) : 2 ^ n ≤ 4096 := Nat.pow_le_pow_right (n := 2) (by decide) h
theorem rev_take {R : List (List Int)} {q : Nat} (h : q < R.length) : R.reverse.take (R.length - (q + 1) + 1) = R.reverse.take (R.length - (q + 1)) ++ [R[q]] := by
  have h1 : R.length - (q + 1) < R.reverse.length := by simp; omega
  rw [List.take_succ_eq_append_getElem h1, List.getElem_reverse]
  congr 2
  congr 1
  omega
theorem wpList_append_none3 {P : Program} (w : World) {ops : Array Oper} {rest : List Oper} {o : Oper} {a : Act} {Q : Exit → Act → World → Prop} (hgd : o.guard = none) (s x : Operand) (t : TypeId)
    (ho : o.op = .call { callee := .builtin .append, args := #[s, x], argTypes := #[t, t] }) (base : Nat) (e : TypeId) (i : TypeInfo) (size : Nat) (ht : P.underlying t = some (.slice e)) (hi : P.info? e = some i)
    (v : Value) (n : Nat) (xs : List Value) (hs : a.eval s = v) (hown : w.ownsRow base e size v n xs) (hx : a.eval x = .slice none 0 0) (h : wpList P ops Q rest (a.put o.dst v) w) : wpList P ops Q (o :: rest) a w := by
  refine wpList_plain hgd fun K hK => ?_
  exact wp_append_none s x t ho base e i size ht hi v n xs hs hown hx (hK _ _ h)
theorem Lists_lit {w : World} {B : Nat} {u : Value} {l : List Int} (h : Own w B u l) (hB : B ≤ w.heap.size) : Lists (w.alloc (.cells #[u] 28)) B (.slice (some ⟨w.heap.size, 0, none⟩) 1 1) [l] := by
  refine ⟨[u], rfl, ownsRow_mono (World.ownsRow_lit w #[u] 1 (Nat.le_refl _) (by unfold maxLen; omega) rfl) hB, fun i h1 h2 => ?_⟩
  have : i = 0 := by simpa using h2
  subst this
  exact h.below ((Below.refl _ _).alloc (Nat.le_refl _) _)
end Go.Proofs.Ytijjdidljoicfab
