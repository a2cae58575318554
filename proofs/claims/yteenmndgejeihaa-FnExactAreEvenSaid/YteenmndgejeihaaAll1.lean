/- Contract: raAll, all combinations in order. Conditions: n at most 12, k at most 12. -/
import Derived.Test.YteenmndgejeihaaSame
import Derived.Test.YteenmndgejeihaaAt1
import Derived.Deep.AppendLies
namespace Go.Proofs.Yteenmndgejeihaa
open Go.RowKit
set_option linter.unusedVariables false

/-- the lists that begin with f, .., f + m - 1, the rest out of F -/
def outTo (F : Nat → List (List Int)) (f : Nat) : Nat → List (List Int)
  | 0 => []
  | m + 1 => outTo F f m ++ (F (f + m + 1)).map (fun l => ((f + m : Nat) : Int) :: l)
/-- all combinations of the numbers f, .., n - 1 with k elements -/
def allL (n : Nat) : Nat → Nat → List (List Int)
  | 0, _ => [[]]
  | k + 1, f => outTo (allL n k) f (n - f)
theorem binom_sum : ∀ n, n < 14 → ∀ k, k < 14 → binom n k ≤ 2000 := by decide
theorem allL_len (n : Nat) (hn : n ≤ 12) (k : Nat) : ∀ f, k ≤ 12 → (allL n k f).length = binom (n - f) k := by
  induction k with
  | zero => intro f _; cases n - f <;> simp [allL, binom]
  | succ k ih =>
    intro f hk
    rw [allL]
    have : ∀ m, m ≤ n - f → (outTo (allL n k) f m).length + binom (n - f - m) (k + 1) = binom (n - f) (k + 1) := by
      intro m
      induction m with
      | zero => intro _; simp [outTo]
      | succ m ihm =>
        intro hm
        have h1 := ihm (by omega)
        rw [outTo, List.length_append, List.length_map, ih _ (by omega)]
        have e1 : n - f - m = (n - (f + m + 1)) + 1 := by omega
        have e2 : n - f - (m + 1) = n - (f + m + 1) := by omega
        rw [e1, binom] at h1
        rw [e2]
        omega
    have h2 := this (n - f) (Nat.le_refl _)
    have h3 : binom (n - f - (n - f)) (k + 1) = 0 := by rw [Nat.sub_self]; rfl
    omega
theorem allL_bound (n : Nat) (hn : n ≤ 12) (k f : Nat) (hk : k ≤ 12) : (allL n k f).length ≤ 2000 := by
  rw [allL_len n hn k f hk]
  exact binom_sum _ (by omega) _ (by omega)
theorem outTo_bound (n : Nat) (hn : n ≤ 12) (k f m : Nat) (hk : k < 12) (hm : m ≤ 12) : (outTo (allL n k) f m).length ≤ m * 2000 := by
  induction m with
  | zero => simp [outTo]
  | succ m ih =>
    rw [outTo, List.length_append, List.length_map]
    have := ih (by omega)
    have := allL_bound n hn k (f + m + 1) (by omega)
    omega
theorem allL_elem (n k : Nat) : ∀ f, ∀ l ∈ allL n k f, l.length = k := by
  induction k with
  | zero => intro f l h; simp [allL] at h; rw [h]; rfl
  | succ k ih =>
    intro f
    rw [allL]
    generalize n - f = m
    induction m with
    | zero => intro l h; simp [outTo] at h
    | succ m ihm =>
      intro l h
      rw [outTo, List.mem_append] at h
      rcases h with h | h
      · exact ihm l h
      · obtain ⟨t, ht, rfl⟩ := List.mem_map.1 h
        rw [List.length_cons, ih _ t ht]

theorem Lists_push {w w' : World} {base : Nat} {v v' u : Value} {L : List (List Int)} {l : List Int} {vs : List Value} (hl : vs.length = L.length) (h2 : w.ownsRow base 22 1 v L.length vs)
    (h3 : ∀ i (h1 : i < L.length) (h2 : i < vs.length), Own w base vs[i] L[i]) (hu : Own w base u l) (hrow : w'.ownsRow base 22 1 v' (L.length + 1) (vs ++ [u])) (hg : w.grownBy w' v.ownBlock) : Lists w' base v' (L ++ [l]) := by
  have hk : ∀ x : Value, ∀ xs : List Int, Own w base x xs → Own w' base x xs := fun x xs hx => Own.kept_type hx (T := 22) (by decide) h2 hg
  refine ⟨vs ++ [u], by simp [hl], by rw [List.length_append]; exact hrow, fun i a b => ?_⟩
  by_cases hi : i < L.length
  · rw [List.getElem_append_left (by omega), List.getElem_append_left hi]
    exact hk _ _ (h3 i hi (by omega))
  · have e1 : i = vs.length := by simp at b; simp at a; omega
    have e2 : i = L.length := by omega
    rw [List.getElem_append_right (by omega), List.getElem_append_right (by omega)]
    simp only [e1, Nat.sub_self, hl]
    simpa using hk _ _ hu
theorem Own.one {w : World} {base : Nat} {v : Value} {xs : List Int} (h : Own w base v xs) : ∀ u ∈ [v], u.oneCell' = true := by
  intro u hu
  simp at hu
  subst hu
  rcases h.form with ⟨rfl, _⟩ | ⟨g, cap, rfl, _⟩ <;> rfl
theorem new_cellV {u z : Value} {w : World} {T : TypeId} (j : Nat) (hj : [z][j]? = some u) : (w.alloc (.cells #[z] T)).cell? ((⟨w.heap.size, 0, none⟩ : Addr).add j) = some u := by
  match j, hj with
  | 0, hj => simp at hj; subst hj; simp [Addr.add]
theorem Own.shape {w : World} {base : Nat} {v : Value} {xs : List Int} (h : Own w base v xs) (hx : 0 < xs.length) : ∃ g n cap, v = .slice (some ⟨g, 0, none⟩) n cap := by
  rcases h.form with ⟨_, rfl⟩ | ⟨g, cap, rfl, _⟩
  · simp at hx
  · exact ⟨g, _, cap, rfl⟩
theorem size_alloc2 (w : World) (o : Obj) : w.heap.size ≤ (w.alloc o).heap.size := by simp
theorem wpList_append_lies {P : Program} (w : World) {ops : Array Oper} {rest : List Oper} {o : Oper} {a : Act} {Q : Exit → Act → World → Prop} (hgd : o.guard = none) (s x : Operand) (t : TypeId)
    (ho : o.op = .call { callee := .builtin .append, args := #[s, x], argTypes := #[t, t] }) (base : Nat) (e : TypeId) (i : TypeInfo) (z : Value) (size bytes : Nat) (ht : P.underlying t = some (.slice e)) (hi : P.info? e = some i)
    (hz : i.zero = some z) (hsize : i.size = size) (hby : i.bytes = bytes) (hzs : z.cells.size = size) (hsz : 0 < size) (v : Value) (n : Nat) (xs : List Value) (hs : a.eval s = v) (hown : w.ownsRow base e size v n xs) (ad : Addr)
    (m c : Nat) (news : List Value) (hx : a.eval x = .slice (some ad) m c) (hl : news.length = m * size) (hnews : ∀ (j : Nat) (u : Value), news[j]? = some u → w.cell? (ad.add j) = some u) (h1 : ∀ (u : Value), u ∈ news → u.oneCell' = true)
    (hm : 0 < m) (h63 : n + m ≤ maxLen) (hbytes : (n + m) * bytes ≤ 140737488355328) (hbase : base ≤ w.heap.size)
    (h : ∀ (g cap : Nat) (w' : World), w'.ownsRow base e size (.slice (some ⟨g, 0, none⟩) (n + m) cap) (n + m) (xs ++ news) → w.grownBy w' v.ownBlock → v.ownBlock = some g ∨ g = w.heap.size → wpList P ops Q rest (a.put o.dst (.slice (some ⟨g, 0, none⟩) (n + m) cap)) w') :
    wpList P ops Q (o :: rest) a w := by
  refine wpList_plain hgd fun K hK => ?_
  exact wp_append_lies w s x t ho base e i z size bytes ht hi hz hsize hby hzs hsz v n xs hs hown ad m c news hx hl hnews h1 hm h63 hbytes hbase w.heap.size rfl (fun g cap w' a1 a2 a3 _ => hK _ _ (h g cap w' a1 a2 a3))
theorem Lists_kept {w w' : World} {base b0 g n c k : Nat} {ov : Value} {vs : List Value} {L : List (List Int)} (h : Lists w base (.slice (some ⟨g, 0, none⟩) n c) L) (hv : w.ownsRow b0 22 1 ov k vs) (hg : w.grownBy w' ov.ownBlock) (hne : ov.ownBlock ≠ some g) :
    Lists w' base (.slice (some ⟨g, 0, none⟩) n c) L := by
  obtain ⟨us, h1, h2, h3⟩ := h
  exact ⟨us, h1, World.ownsRow.kept h2 hg (.inr (by simp only [Value.ownBlock, ne_eq]; exact fun e => hne e.symm)), fun i a b => Own.kept_type (h3 i a b) (T := 22) (by decide) hv hg⟩
def Apart (lo hi : Nat) (v : Value) : Prop := ∀ q, v.ownBlock = some q → q < lo ∨ hi ≤ q
theorem Lists.low {w : World} {base : Nat} {v : Value} {L : List (List Int)} (h : Lists w base v L) : ∀ q, v.ownBlock = some q → base ≤ q ∧ q < w.heap.size := by
  obtain ⟨vs, _, h2, _⟩ := h
  exact World.ownsRow.lt h2
end Go.Proofs.Yteenmndgejeihaa
