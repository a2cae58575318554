/- What the closure that counts is asked: the counts' own equations; look-ups in its map. Conditions: none. -/
import Derived.Test.YtakelcboamjndaaKnw
import Derived.Test.YtakelcboamjndaaShB
namespace Go.Proofs.Ytakelcboamjndaa
open Go.RowKit Go.Maps
set_option linter.unusedVariables false

def sumL (f : Int → Nat) : List Int → Nat
  | [] => 0
  | x :: xs => f x + sumL f xs
theorem sumL_snoc (f : Int → Nat) (xs : List Int) (x : Int) : sumL f (xs ++ [x]) = sumL f xs + f x := by
  induction xs with
  | nil => simp [sumL]
  | cons y ys ih => simp only [List.cons_append, sumL, ih]; omega
theorem sumL_take (f : Int → Nat) {xs : List Int} {k : Nat} (hk : k < xs.length) : sumL f (xs.take (k + 1)) = sumL f (xs.take k) + f xs[k] := by
  rw [List.take_succ_eq_append_getElem hk, sumL_snoc]
theorem sumL_mono (f : Int → Nat) (xs : List Int) : ∀ k, sumL f (xs.take k) ≤ sumL f xs := by
  induction xs with
  | nil => intro k; simp
  | cons x xs ih =>
    intro k
    cases k with
    | zero => simp [sumL]
    | succ k => simp only [List.take_succ_cons, sumL]; have := ih k; omega
theorem zero_int (w : World) : (zeroValue 3).run Try.prog w = .ok (.int .i64 0) w := by kernel_rfl
theorem look_put {w : World} {t : TypeId} {b n : Nat} {M : DataW Unit} {q : Int} {key : Value} {kl : Lit} (h : w.ownsMap Try.prog 44 (plainElem (H := Unit) Try.prog 3) b n (M.put kl (.lit (.int .i64 q)))) (Q : Keyed Try.prog 44)
    (ht : Try.prog.underlying t = some (.map 44 3)) (hkey : keyOf Try.prog 44 key = some kl) (hM : IsMap M) : (Instr.lookup t (.map (some b)) key false).run Try.prog w = .ok (.int .i64 q) w := by
  obtain ⟨c, hrun, hat, _⟩ := h.lookup_int Q ht Try.underlying3 (zero_int _) hkey
  rw [atKey_put_same hM (Q.key hkey)] at hat
  have e : q = c := by simpa using hat
  rw [e]; exact hrun
theorem wf_small {q : Nat} (h : q ≤ 1000000000) : (Lit.int .i64 (q : Int)).wf = true := by
  unfold Lit.wf
  simp only [Bool.and_eq_true, decide_eq_true_eq]
  constructor
  · exact Int.le_trans (by decide : IntKind.i64.min ≤ 0) (by omega)
  · exact Int.le_trans (by omega : (q : Int) ≤ 1000000000) (by decide)
theorem ownsMap_below6 {H : Type} {P : Program} {k : TypeId} {R : Value → Option (DataW H × List MemPlace)} {w w' : World} {b n : Nat} {D : DataW H} (h : w.ownsMap P k R b n D) (hb : Below w.heap.size w w') : w'.ownsMap P k R b n D := by
  have hlt := h.lt
  obtain ⟨es, clock, hm, r⟩ := h
  exact ⟨es, clock, (hb.block b hlt).trans hm, r⟩
theorem KEnv.below {w w' : World} {B : Nat} {fc fb : Value} (h : KEnv w B fc fb) (hb : Below w.heap.size w w') : KEnv w' B fc fb :=
  ⟨at_below h.known hb, at_below h.choices hb, at_below h.count hb, at_below h.behind hb⟩
theorem KEnv.kept {w w' : World} {B : Nat} {fc fb : Value} (h : KEnv w B fc fb) (hg : w.grownBy w' (some (B + 4))) : KEnv w' B fc fb :=
  ⟨hg.cell h.known (by simp), hg.cell h.choices (by simp), hg.cell h.count (by simp), hg.cell h.behind (by simp)⟩
theorem grown_of_below {w w' : World} (h : Below w.heap.size w w') (r : Option Nat) : w.grownBy w' r :=
  ⟨h.os, h.tape, h.output, h.size, fun k hk _ => h.block k hk⟩
theorem rowIs_kept6 {w w' : World} {g n : Nat} {T : TypeId} {F : Nat → Value} {r : Option Nat} (h : w.rowIs g T n F) (hg : w.grownBy w' r) (hne : some g ≠ r) : w'.rowIs g T n F :=
  h.of_block (hg.block g (World.rowIs.lt h) hne)
theorem Own.view2 {w : World} {base : Nat} {v : Value} {xs : List Int} (h : Own w base v xs) : ∃ ao c, v = .slice ao xs.length c ∧ c ≤ 9223372036854775807 ∧
    (xs = [] ∨ ∃ g, ao = some ⟨g, 0, none⟩ ∧ base ≤ g ∧ g < w.heap.size ∧ ∀ i (hi : i < xs.length), w.cell? ⟨g, i, none⟩ = some (.int .i64 xs[i])) := by
  rcases h.form with ⟨rfl, rfl⟩ | ⟨g, cap, rfl, hb, hlt, h1, h2, hc, _⟩
  · exact ⟨none, 0, rfl, by omega, .inl rfl⟩
  · refine ⟨_, cap, rfl, by unfold maxLen at h2; omega, .inr ⟨g, rfl, hb, hlt, fun i hi => ?_⟩⟩
    have := hc i hi
    rwa [Nat.zero_add, getD_at hi] at this
/-- the counts of a shape -/
structure CntC (D : Nat → Nat → Prop) (ch : Nat → Nat → List Int) (nl nb : Nat → Nat → Int → Nat) (K : Nat → Nat → Nat) : Prop where
  zero : ∀ b, D 0 b → K 0 b = 1
  step : ∀ l b, D l b → l ≠ 0 → K l b = sumL (fun x => K (nl l b x) (nb l b x)) (ch l b)
  small : ∀ l b, D l b → l ≤ 24 ∧ b ≤ 24
  bound : ∀ l b, D l b → K l b ≤ 1000000000
  less : ∀ l b x, D l b → l ≠ 0 → x ∈ ch l b → nl l b x < l
theorem look_int {w : World} {t : TypeId} {b n : Nat} {M : DataW Unit} (h : w.ownsMap Try.prog 44 (plainElem (H := Unit) Try.prog 3) b n M) (Q : Keyed Try.prog 44) (ht : Try.prog.underlying t = some (.map 44 3)) {key : Value} {kl : Lit}
    (hkey : keyOf Try.prog 44 key = some kl) : ∃ c, (Instr.lookup t (.map (some b)) key true).run Try.prog w = .ok (.tuple #[.int .i64 c, .bool (Maps.has M kl)]) w ∧ M.atKey kl (.lit (.int .i64 0)) = .lit (.int .i64 c) := by
  obtain ⟨v, ps, hrun, hv⟩ := h.look_ok Q ht (zero_int w) (plainElem_int Try.underlying3 (by decide : (Lit.int .i64 0).wf = true)) hkey
  obtain ⟨c, rfl, hc, hwc⟩ := plainElem_int_inv Try.underlying3 hv
  simp only [Prod.mk.injEq] at hc
  exact ⟨c, hrun, hc.1⟩
end Go.Proofs.Ytakelcboamjndaa
