/- Facts and contracts (Take2, Take3, App, Lists, Same, At1, All1, Ch2, DigMath, Perm3, Dig1, Ch5), merged. Conditions: as told at each. -/
import Derived.Deep.RegionHeld3
import Derived.Deep.RegionLaw
import Derived.Deep.QuietTactic
import Derived.BigQuiet
import Derived.Deep.AppendLies
import Derived.Test.YtijjdidljoicfabAdj1

/- Contracts: raUpTo, slices.Delete at one element, takeOut. Conditions: the slices read as lists of at most 2^20 numbers; indexes lie within. -/
namespace Go.Proofs.Ytijjdidljoicfab
open Go.RowKit
set_option linter.unusedVariables false

theorem one_cell (k : IntKind) (x : Int) : ∀ u ∈ [Value.int k x], u.oneCell' = true := by
  intro u hu
  simp at hu
  subst hu
  rfl
theorem raUpTo_any (n : Nat) (w : World) (hn : n ≤ 1048576) :
    Calls Try.prog 51 #[.int .i64 (n : Int)] w fun e w' => ∃ u, e = .returned u ∧ Own w' w.heap.size u (upTo n) ∧ Below w.heap.size w w' := by
  obtain ⟨i0, hi, hz0, hz1, hz2⟩ := info_parts Try.info3
  go_enter Try.func51, Try.ntmps51
  go_wp2_with fail
  go_loopw [3, 4] (fun v i wr => ∃ k : Nat, k ≤ n ∧ i = .int .i64 k ∧ Own wr w.heap.size v (upTo k) ∧ Below w.heap.size w wr) (fun _ i _ => n - (intOf i).toNat)
  case atStart => exact ⟨0, Nat.zero_le _, rfl, Own.nil _ _, Below.refl _ _⟩
  case round =>
    obtain ⟨k, hk, rfl, hown, hbel⟩ := hrel
    by_cases hlt : k < n
    · have hsz := hbel.size
      have hir := hown.row
      rw [upTo_length] at hir
      have HIR := hid hir
      have HBB := hid hbel
      have HI := hid (upTo_succ k)
      clear hir hown hbel
      go_wp2_with (at_builtin; refine wpList_append_own _ rfl _ _ 28 rfl w.heap.size 3 i0 (.int .i64 0) 1 8 Try.underlying28 hi hz0 hz1 hz2 rfl (by decide) _ _ _ rfl (World.ownsRow.alloc HIR.out _) ⟨wr.heap.size, 0, none⟩ 1 1 [.int .i64 (k : Int)] rfl rfl (fun j u hj => new_cell1 j hj) (one_cell _ _) ?c3 ?c4 ?c5 ?_)
      case c3 => unfold maxLen; omega
      case c4 => omega
      case c5 => (try simp); omega
      intro v' w1 hown' hgrow _
      have hown2 : Own w1 w.heap.size v' (upTo (k + 1)) := by
        rw [HI.out]
        refine Own.snoc ?_
        rw [upTo_length]
        exact hown'
      have hbel2 : Below w.heap.size w w1 := (HBB.out.alloc hsz _).grown hgrow (by simp; omega) (fun q hq => (World.ownsRow.lt HIR.out q hq).1)
      clear hown' hgrow
      go_wp2
      go_roundw
      case rel => exact ⟨k + 1, by omega, by go_num, hown2, hbel2⟩
      case measure => simp [intOf]; omega
    · obtain rfl : k = n := by omega
      go_wp2
      go_ret
      exact ⟨_, rfl, hown, hbel⟩
theorem Own_cells {w : World} {lo g n c : Nat} {xs : List Int} (h : Own w lo (.slice (some ⟨g, 0, none⟩) n c) xs) :
    n = xs.length ∧ xs.length ≤ c ∧ c ≤ 9223372036854775807 ∧ g < w.heap.size ∧ lo ≤ g ∧ (∀ i (hi : i < xs.length), w.cell? ⟨g, i, none⟩ = some (.int .i64 xs[i])) ∧ ∀ i, w.frozen? ⟨g, i, none⟩ = false := by
  have hn := h.len
  rcases h.form with ⟨h1, h2⟩ | ⟨g', cap, e, hlo, hlt, h1, h2, hc, hf⟩
  · simp at h1
  · simp only [Value.slice.injEq, Option.some.injEq, Addr.mk.injEq, and_true] at e
    obtain ⟨rfl, _, rfl⟩ := e
    unfold maxLen at h2
    exact ⟨hn, h1, by omega, hlt, hlo, fun i hi => by
      have := hc i hi
      rw [Nat.zero_add, getD_at hi] at this
      exact this, hf⟩

end Go.Proofs.Ytijjdidljoicfab

/- Contract: raWithout. Conditions: the slice is not nil and reads as a list of at most 2^20 numbers; the index lies within. -/
namespace Go.Proofs.Ytijjdidljoicfab
open Go.RowKit
set_option linter.unusedVariables false

/-- The law on append to an owned slice, as a step of a region that draws its order. -/
theorem step_append_any {P : Program} (w : World) {ops : Array Oper} {o : Oper} {a : Act} {K : Act → World → Prop} {Q : Exit → Act → World → Prop} {E : Prop} (hgd : o.guard = none) (s x : Operand) (t : TypeId)
    (ho : o.op = .call { callee := .builtin .append, args := #[s, x], argTypes := #[t, t] }) (base : Nat) (e : TypeId) (i : TypeInfo) (z : Value) (size bytes : Nat) (ht : P.underlying t = some (.slice e))
    (hi : P.info? e = some i) (hz : i.zero = some z) (hsize : i.size = size) (hby : i.bytes = bytes) (hzs : z.cells.size = size) (hsz : 0 < size) (v : Value) (n : Nat) (xs : List Value) (hs : a.eval s = v)
    (hown : w.ownsRow base e size v n xs) (ad : Addr) (m c : Nat) (news : List Value) (hx : a.eval x = .slice (some ad) m c) (hl : news.length = m * size)
    (hnews : ∀ (j : Nat) (u : Value), news[j]? = some u → w.cell? (ad.add j) = some u) (h1 : ∀ (u : Value), u ∈ news → u.oneCell' = true) (h63 : n + m ≤ maxLen) (hbytes : (n + m) * bytes ≤ 140737488355328) (hbase : base ≤ w.heap.size)
    (h : ∀ (v' : Value) (w' : World), w'.ownsRow base e size v' (n + m) (xs ++ news) → w.grownBy w' v.ownBlock → (v' = .slice none 0 0 ↔ v = .slice none 0 0 ∧ m = 0) → K (a.put o.dst v') w') :
    if Region.wanted o (yielded ops a.tmps) = true then Oper.wp P o a w K Q else E := by
  rw [if_pos (by simp [Region.wanted, hgd])]
  exact wp_append_own w s x t ho base e i z size bytes ht hi hz hsize hby hzs hsz v n xs hs hown ad m c news hx hl hnews h1 h63 hbytes hbase h

theorem nil_src {w : World} {ad : Addr} : ∀ (j : Nat) (u : Value), ([] : List Value)[j]? = some u → w.cell? (ad.add j) = some u := by
  intro j u hj
  simp at hj
theorem nil_one : ∀ u ∈ ([] : List Value), u.oneCell' = true := by
  intro u hu
  simp at hu
theorem row_cut {w : World} {B k : Nat} {u : Value} {xs : List Int} (h : Own w B u (xs.take k)) (hl : (xs.take k).length = k) : w.ownsRow B 3 1 u k ((xs.take k).map (Value.int .i64)) := by
  have := h.row
  rwa [hl] at this
end Go.Proofs.Ytijjdidljoicfab

/- The law on append of ints to an owned slice from another owned slice, nil or not, as an operation, in a list of operations, and as a step of a drawn region. No conditions beyond sizes. -/
namespace Go.Proofs.Ytijjdidljoicfab
open Go.RowKit
set_option linter.unusedVariables false

theorem Own.srcs {w : World} {B g c n : Nat} {ys : List Int} (h : Own w B (.slice (some ⟨g, 0, none⟩) n c) ys) : ∀ (j : Nat) (u : Value), (ys.map (Value.int .i64))[j]? = some u → w.cell? ((⟨g, 0, none⟩ : Addr).add j) = some u := by
  obtain ⟨_, _, _, _, _, hc, _⟩ := Own_cells h
  exact Sits.src (n := 0) (c := 0) (fun i hi => by rw [Nat.zero_add]; exact hc i hi)

theorem wp_append_none {P : Program} {w : World} {o : Oper} {a : Act} {K : Act → World → Prop} {Q : Exit → Act → World → Prop} (s x : Operand) (t : TypeId)
    (ho : o.op = .call { callee := .builtin .append, args := #[s, x], argTypes := #[t, t] }) (base : Nat) (e : TypeId) (i : TypeInfo) (size : Nat) (ht : P.underlying t = some (.slice e)) (hi : P.info? e = some i)
    (v : Value) (n : Nat) (xs : List Value) (hs : a.eval s = v) (hown : w.ownsRow base e size v n xs) (hx : a.eval x = .slice none 0 0) (h : K (a.put o.dst v) w) : Oper.wp P o a w K Q := by
  have hrun := run_append_owned_none (P := P) (w := w) base t o.type e i size ht hi v n xs hown
  unfold Oper.wp
  simp [execOp, ho, resolve, invoke, builtin, hs, hx, hrun, Result.andThen]
  exact h

theorem wp_append_src {P : Program} (w : World) {o : Oper} {a : Act} {K : Act → World → Prop} {Q : Exit → Act → World → Prop} (s x : Operand) (t : TypeId)
    (ho : o.op = .call { callee := .builtin .append, args := #[s, x], argTypes := #[t, t] }) (base : Nat) (i : TypeInfo) (ht : P.underlying t = some (.slice 3)) (hi : P.info? 3 = some i) (hz : i.zero = some (.int .i64 0)) (hsize : i.size = 1) (hby : i.bytes = 8)
    (v : Value) (xs : List Int) (hs : a.eval s = v) (hown : Own w base v xs) (u : Value) (B : Nat) (ys : List Int) (hx : a.eval x = u) (hu : Own w B u ys) (hl : xs.length + ys.length ≤ 1048576) (hbase : base ≤ w.heap.size)
    (h : ∀ (v' : Value) (w' : World), Own w' base v' (xs ++ ys) → w.grownBy w' v.ownBlock → K (a.put o.dst v') w') : Oper.wp P o a w K Q := by
  rcases hu.form with ⟨rfl, rfl⟩ | ⟨g, cap, rfl, _, _, h1, h2, _, _⟩
  · exact wp_append_none s x t ho base 3 i 1 ht hi v xs.length _ hs hown hx (h v w (by rw [List.append_nil]; exact hown) (World.grownBy.refl _ _))
  · refine wp_append_own w s x t ho base 3 i (.int .i64 0) 1 8 ht hi hz hsize hby rfl (by decide) v xs.length _ hs hown ⟨g, 0, none⟩ ys.length cap (ys.map (Value.int .i64)) hx (by simp) hu.srcs (ints_one ys) (by unfold maxLen; omega) (by omega) hbase ?_
    intro v' w' h3 h4 _
    refine h v' w' ?_ h4
    unfold Own
    rw [List.length_append, List.map_append]
    exact h3

theorem step_append_src {P : Program} (w : World) {ops : Array Oper} {o : Oper} {a : Act} {K : Act → World → Prop} {Q : Exit → Act → World → Prop} {E : Prop} (hgd : o.guard = none) (s x : Operand) (t : TypeId)
    (ho : o.op = .call { callee := .builtin .append, args := #[s, x], argTypes := #[t, t] }) (base : Nat) (i : TypeInfo) (ht : P.underlying t = some (.slice 3)) (hi : P.info? 3 = some i) (hz : i.zero = some (.int .i64 0)) (hsize : i.size = 1) (hby : i.bytes = 8)
    (v : Value) (xs : List Int) (hs : a.eval s = v) (hown : Own w base v xs) (u : Value) (B : Nat) (ys : List Int) (hx : a.eval x = u) (hu : Own w B u ys) (hl : xs.length + ys.length ≤ 1048576) (hbase : base ≤ w.heap.size)
    (h : ∀ (v' : Value) (w' : World), Own w' base v' (xs ++ ys) → w.grownBy w' v.ownBlock → K (a.put o.dst v') w') : if Region.wanted o (yielded ops a.tmps) = true then Oper.wp P o a w K Q else E := by
  rw [if_pos (by simp [Region.wanted, hgd])]
  exact wp_append_src w s x t ho base i ht hi hz hsize hby v xs hs hown u B ys hx hu hl hbase h

theorem wpList_append_src {P : Program} (w : World) {ops : Array Oper} {rest : List Oper} {o : Oper} {a : Act} {Q : Exit → Act → World → Prop} (hgd : o.guard = none) (s x : Operand) (t : TypeId)
    (ho : o.op = .call { callee := .builtin .append, args := #[s, x], argTypes := #[t, t] }) (base : Nat) (i : TypeInfo) (ht : P.underlying t = some (.slice 3)) (hi : P.info? 3 = some i) (hz : i.zero = some (.int .i64 0)) (hsize : i.size = 1) (hby : i.bytes = 8)
    (v : Value) (xs : List Int) (hs : a.eval s = v) (hown : Own w base v xs) (u : Value) (B : Nat) (ys : List Int) (hx : a.eval x = u) (hu : Own w B u ys) (hl : xs.length + ys.length ≤ 1048576) (hbase : base ≤ w.heap.size)
    (h : ∀ (v' : Value) (w' : World), Own w' base v' (xs ++ ys) → w.grownBy w' v.ownBlock → wpList P ops Q rest (a.put o.dst v') w') : wpList P ops Q (o :: rest) a w := by
  refine wpList_plain hgd fun K hK => ?_
  exact wp_append_src w s x t ho base i ht hi hz hsize hby v xs hs hown u B ys hx hu hl hbase (fun v' w' h1 h2 => hK _ _ (h v' w' h1 h2))
end Go.Proofs.Ytijjdidljoicfab

/- Slices of slices of ints that read as lists of lists, and what append does to them. No conditions. -/
namespace Go.Proofs.Ytijjdidljoicfab
open Go.RowKit
set_option linter.unusedVariables false

theorem Try.infoL : (Try.prog.info? 28).map (fun i => (i.zero, i.size, i.bytes)) = some (some (.slice none 0 0), 1, 24) := by kernel_rfl

/-- v is a slice of slices, its own row from block base on, whose elements are owned slices that read as L. -/
def Lists (w : World) (base : Nat) (v : Value) (L : List (List Int)) : Prop :=
  ∃ vs : List Value, vs.length = L.length ∧ w.ownsRow base 28 1 v L.length vs ∧ ∀ i (h1 : i < L.length) (h2 : i < vs.length), Own w base vs[i] L[i]

theorem ownsRow_below {w w' : World} {base : Nat} {e : TypeId} {size : Nat} {v : Value} {n : Nat} {xs : List Value} (h : w.ownsRow base e size v n xs) (hb : Below w.heap.size w w') : w'.ownsRow base e size v n xs := by
  refine ⟨h.1, ?_⟩
  rcases h.2 with hn | ⟨g, cap, cur, rfl, hg, hgg, rest⟩
  · exact .inl hn
  · refine .inr ⟨g, cap, cur, rfl, hg, ?_, rest⟩
    rw [hb.block g (Array.getElem?_eq_some_iff.1 hgg).1]; exact hgg
theorem ownsRow_mono {w : World} {base base' : Nat} {e : TypeId} {size : Nat} {v : Value} {n : Nat} {xs : List Value} (h : w.ownsRow base e size v n xs) (hb : base' ≤ base) : w.ownsRow base' e size v n xs := by
  refine ⟨h.1, ?_⟩
  rcases h.2 with hn | ⟨g, cap, cur, rfl, hg, rest⟩
  · exact .inl hn
  · exact .inr ⟨g, cap, cur, rfl, Nat.le_trans hb hg, rest⟩
theorem Lists.below {w w' : World} {base : Nat} {v : Value} {L : List (List Int)} (h : Lists w base v L) (hb : Below w.heap.size w w') : Lists w' base v L := by
  obtain ⟨vs, h1, h2, h3⟩ := h
  exact ⟨vs, h1, ownsRow_below h2 hb, fun i a b => (h3 i a b).below hb⟩
theorem Lists.mono {w : World} {base base' : Nat} {v : Value} {L : List (List Int)} (h : Lists w base v L) (hb : base' ≤ base) : Lists w base' v L := by
  obtain ⟨vs, h1, h2, h3⟩ := h
  exact ⟨vs, h1, ownsRow_mono h2 hb, fun i a b => (h3 i a b).mono hb⟩
theorem Lists.nil (w : World) (base : Nat) : Lists w base (.slice none 0 0) [] := ⟨[], rfl, World.ownsRow_nil _ _ _ _, fun i h => absurd h (by simp)⟩

/-- The shape of such a slice: nil and empty, or a row each of whose cells holds an owned slice. -/
theorem Lists.form {w : World} {base : Nat} {v : Value} {L : List (List Int)} (h : Lists w base v L) :
    (v = .slice none 0 0 ∧ L = []) ∨ ∃ g cap, v = .slice (some ⟨g, 0, none⟩) L.length cap ∧ base ≤ g ∧ g < w.heap.size ∧ L.length ≤ cap ∧ cap ≤ 9223372036854775807 ∧
      ∀ i (hi : i < L.length), ∃ u, w.cell? ⟨g, i, none⟩ = some u ∧ Own w base u L[i] := by
  obtain ⟨vs, hl, h2, h3⟩ := h
  have h2' := h2
  rcases h2.2 with ⟨rfl, hn⟩ | ⟨g, cap, cur, rfl, hg, hgg, h4, h5, h6, h7⟩
  · exact .inl ⟨rfl, List.eq_nil_of_length_eq_zero hn⟩
  · refine .inr ⟨g, cap, rfl, hg, (Array.getElem?_eq_some_iff.1 hgg).1, h4, by unfold maxLen at h5; omega, fun i hi => ?_⟩
    have hi2 : i < vs.length := by omega
    refine ⟨vs[i], ?_, h3 i hi hi2⟩
    have := World.ownsRow.cellAt h2' i (by omega)
    rw [this, List.getElem?_eq_getElem hi2]

/-- One slice more at the end. -/
theorem Lists.snoc {w w' : World} {base : Nat} {v v' u : Value} {L : List (List Int)} {l : List Int} (h : Lists w base v L) (hu : Own w base u l) (hg : w.grownBy w' v.ownBlock)
    (hrow : ∀ vs : List Value, vs.length = L.length → w.ownsRow base 28 1 v L.length vs → w'.ownsRow base 28 1 v' (L.length + 1) (vs ++ [u]))
    (hne : ∀ x : Value, ∀ xs : List Int, Own w base x xs → Own w' base x xs) : Lists w' base v' (L ++ [l]) := by
  obtain ⟨vs, hl, h2, h3⟩ := h
  refine ⟨vs ++ [u], by simp [hl], by rw [List.length_append]; exact hrow vs hl h2, fun i a b => ?_⟩
  by_cases hi : i < L.length
  · rw [List.getElem_append_left (by omega), List.getElem_append_left hi]
    exact hne _ _ (h3 i hi (by omega))
  · have e1 : i = vs.length := by simp at b; simp at a; omega
    have e2 : i = L.length := by omega
    rw [List.getElem_append_right (by omega), List.getElem_append_right (by omega)]
    simp only [e1, Nat.sub_self, hl]
    simpa using hne _ _ hu

/-- An owned row of ints stays as it was while a row of another element type grows. -/
theorem Own.kept_type {w w' : World} {base b0 : Nat} {x v : Value} {xs : List Int} {n : Nat} {vs : List Value} {T : TypeId} (h : Own w base x xs) (hT : T ≠ 3) (hv : w.ownsRow b0 T 1 v n vs) (hg : w.grownBy w' v.ownBlock) : Own w' base x xs := by
  refine Own.kept h hg ?_
  rcases h.2 with ⟨rfl, _⟩ | ⟨g, cap, cur, rfl, _, hgg, _⟩
  · exact .inl rfl
  · right
    rcases hv.2 with ⟨rfl, _⟩ | ⟨g', cap', cur', rfl, _, hgg', _⟩
    · simp [Value.ownBlock]
    · simp only [Value.ownBlock, ne_eq, Option.some.injEq]
      intro e
      rw [e, hgg'] at hgg
      simp at hgg
      exact hT hgg.2
end Go.Proofs.Ytijjdidljoicfab

/- Contracts: l1Same and raPlace. Conditions: the slices read as lists. -/
namespace Go.Proofs.Ytijjdidljoicfab
open Go.RowKit
set_option linter.unusedVariables false

theorem l1Same_any (v u : Value) (xs ys : List Int) (w : World) (h : Reads w v xs) (h' : Reads w u ys) :
    Calls Try.prog 71 #[v, u] w fun e w' => e = .returned (.bool (decide (xs = ys))) ∧ Below w.heap.size w w' := by
  obtain ⟨ao, c, rfl, hc1, hm, h⟩ := h
  obtain ⟨bo, d, rfl, hd1, hn, h'⟩ := h'
  unfold maxLen at hm hn
  by_cases hl : xs.length = ys.length
  · rcases h with h | ⟨b, off, rfl, hb, hc⟩
    · obtain rfl : ys = [] := List.eq_nil_of_length_eq_zero (by rw [← hl, h]; rfl)
      subst h
      go_enter Try.func71, Try.ntmps71
      go_wp2
      refine wp_loop_rounds 1 ?_
      rw [rounds_succ]
      go_wp2
      go_ret
      exact ⟨by simp, Below.refl _ _⟩
    · rcases h' with h' | ⟨b', off', rfl, hb', hc'⟩
      · obtain rfl : xs = [] := List.eq_nil_of_length_eq_zero (by rw [hl, h']; rfl)
        subst h'
        go_enter Try.func71, Try.ntmps71
        go_wp2
        refine wp_loop_rounds 1 ?_
        rw [rounds_succ]
        go_wp2
        go_ret
        exact ⟨by simp, Below.refl _ _⟩
      · have hne : ((xs.length : Int) != (ys.length : Int)) = false := by simp [hl]
        have HL := hid hl
        have hl1 : xs.length ≤ ys.length := by omega
        have hl2 : ys.length ≤ xs.length := by omega
        clear hl
        go_enter Try.func71, Try.ntmps71
        go_wp2
        go_loopw [5, 13] (fun _ i wr => ∃ k : Nat, k ≤ xs.length ∧ i = .int .i64 k ∧ xs.take k = ys.take k ∧ Below w.heap.size w wr) (fun _ i _ => xs.length - (intOf i).toNat)
        case atStart => exact ⟨0, Nat.zero_le _, rfl, rfl, Below.refl _ _⟩
        case round =>
          obtain ⟨k, hk, rfl, htake, hbel⟩ := hrel
          have HT := hid htake
          clear htake
          by_cases hlt : k < xs.length
          · have hlt' : k < ys.length := by omega
            have hcx : wr.cell? ⟨b, off + k, none⟩ = some (.int .i64 xs[k]) := by
              have := (hbel.cell (p := ⟨b, off + k, none⟩) (by exact hb)).trans (hc k hlt)
              simpa [List.getD_eq_getElem?_getD, hlt] using this
            have hcy : wr.cell? ⟨b', off' + k, none⟩ = some (.int .i64 ys[k]) := by
              have := (hbel.cell (p := ⟨b', off' + k, none⟩) (by exact hb')).trans (hc' k hlt')
              simpa [List.getD_eq_getElem?_getD, hlt'] using this
            have hk0 : (0 : Int) ≤ (k : Int) := by omega
            have hk1 : (k : Int) < (xs.length : Int) := by omega
            have hk2 : (k : Int) < (ys.length : Int) := by omega
            clear hc hc'
            by_cases he : xs[k] = ys[k]
            · have hbb : (xs[k] != ys[k]) = false := by simp [he]
              have HE := hid he
              clear he
              go_wp2
              go_quiet (fail)
              go_wp2
              go_roundw
              case rel => exact ⟨k + 1, by omega, by go_num, take_succ_eq hlt hlt' HT.out HE.out, below_drewN hbel _⟩
              case measure => simp [intOf]; omega
            · have hbb : (xs[k] != ys[k]) = true := by simp [he]
              have hfin : decide (xs = ys) = false := by
                apply decide_eq_false
                intro e
                subst e
                exact he rfl
              clear he
              have HF := hid hfin
              clear hfin
              go_wp2
              go_quiet (fail)
              go_wp2
              go_ret
              exact ⟨ret_bool HF.out.symm, below_drewN hbel _⟩
          · have HF : Hid (decide (xs = ys) = true) := by
              show decide (xs = ys) = true
              apply decide_eq_true
              have := HT.out
              rwa [List.take_of_length_le (by omega), List.take_of_length_le (by omega)] at this
            go_wp2
            go_ret
            exact ⟨ret_bool HF.out.symm, hbel⟩
  · have hne : ((xs.length : Int) != (ys.length : Int)) = true := by simp; omega
    have hfin : decide (xs = ys) = false := decide_eq_false (fun e => hl (by rw [e]))
    have HF := hid hfin
    clear h h' hl hfin
    go_enter Try.func71, Try.ntmps71
    go_wp2
    go_ret
    exact ⟨ret_bool HF.out.symm, Below.refl _ _⟩
/-- the index of a list in a list of lists, or -1 -/
def placeIn (l : List Int) : List (List Int) → Int
  | [] => -1
  | x :: r => if x = l then 0 else (if placeIn l r < 0 then -1 else placeIn l r + 1)
theorem placeIn_found (l : List Int) : ∀ (L : List (List Int)) (k : Nat) (h : k < L.length), (∀ j (hj : j < k), L[j] ≠ l) → L[k] = l → placeIn l L = k
  | x :: r, 0, _, _, h => by rw [placeIn, if_pos (by simpa using h)]; rfl
  | x :: r, k + 1, hk, hno, h => by
    have h0 : ¬ x = l := by simpa using hno 0 (by omega)
    have ih := placeIn_found l r k (by simpa using hk) (fun j hj => by simpa using hno (j + 1) (by omega)) (by simpa using h)
    rw [placeIn, if_neg h0, ih, if_neg (by omega)]
    rfl
theorem placeIn_none (l : List Int) : ∀ (L : List (List Int)), (∀ j (hj : j < L.length), L[j] ≠ l) → placeIn l L = -1
  | [], _ => rfl
  | x :: r, hno => by
    have h0 : ¬ x = l := hno 0 (by simp)
    have ih := placeIn_none l r (fun j hj => hno (j + 1) (by simpa using hj))
    rw [placeIn, if_neg h0, ih, if_pos (by omega)]
theorem raPlace_any (v u : Value) (L : List (List Int)) (l : List Int) (base : Nat) (w : World) (h : Lists w base v L) (h' : Reads w u l) :
    Calls Try.prog 41 #[v, u] w fun e w' => e = .returned (.int .i64 (placeIn l L)) ∧ Below w.heap.size w w' := by
  have HU := hid h'
  have HV := hid h
  rcases h.form with ⟨rfl, rfl⟩ | ⟨g, cap, rfl, _, hg, hc1, hm, hc⟩
  · go_enter Try.func41, Try.ntmps41
    go_wp2_with fail
    refine wp_loop_rounds 1 ?_
    rw [rounds_succ]
    go_wp2
    go_ret
    exact ⟨rfl, Below.refl _ _⟩
  · have HC := hid hc
    clear hc h h'
    go_enter Try.func41, Try.ntmps41
    go_wp2_with fail
    go_loopw [5, 6, 9] (fun _ _ i wr => ∃ k : Nat, k ≤ L.length ∧ i = .int .i64 k ∧ (∀ j (hj : j < L.length), j < k → L[j] ≠ l) ∧ Below w.heap.size w wr) (fun _ _ i _ => L.length - (intOf i).toNat)
    case atStart => exact ⟨0, Nat.zero_le _, rfl, fun j _ h => by omega, Below.refl _ _⟩
    case round =>
      obtain ⟨k, hk, rfl, hno, hbel⟩ := hrel
      have HNO := hid hno
      have HB := hid hbel
      clear hno
      by_cases hlt : k < L.length
      · obtain ⟨z, hz, hown⟩ := HC.out k hlt
        have hcx : wr.cell? ⟨g, k, none⟩ = some z := (hbel.cell (by exact hg)).trans hz
        have HZ := hid (hown.reads.below hbel)
        have HUU := hid (HU.out.below hbel)
        obtain ⟨zl, hzl⟩ : ∃ zl, zl = L[k] := ⟨_, rfl⟩
        rw [← hzl] at HZ
        have HZL := hid hzl
        clear hz hown hbel hzl
        by_cases he : zl = l
        · have hd : decide (zl = l) = true := by simp [he]
          have HF : Hid (placeIn l L = k) := hid (placeIn_found l L k hlt (fun j hj => HNO.out j (by omega) hj) (by rw [← HZL.out, he]))
          clear he
          go_wp2_with (go_at_call 71; refine (l1Same_any _ _ zl l _ HZ.out HUU.out).mono ?_; rintro e w2 ⟨rfl, hb2⟩)
          go_ret
          exact ⟨ret_int HF.out.symm, Below_chain HB.out (by assumption)⟩
        · have hd : decide (zl = l) = false := by simp [he]
          have HNE := hid he
          clear he
          go_wp2_with (go_at_call 71; refine (l1Same_any _ _ zl l _ HZ.out HUU.out).mono ?_; rintro e w2 ⟨rfl, hb2⟩; have HB2 := hid (Below_chain HB.out hb2))
          go_roundw
          case rel => exact ⟨k + 1, by omega, by go_num, fun j hj h1 => by
            by_cases e : j = k
            · subst e; rw [← HZL.out]; exact HNE.out
            · exact HNO.out j hj (by omega), HB2.out⟩
          case measure => simp [intOf]; omega
      · have HF : Hid (placeIn l L = -1) := hid (placeIn_none l L (fun j hj => HNO.out j hj (by omega)))
        go_wp2_with fail
        go_ret
        exact ⟨ret_int HF.out.symm, HB.out⟩
end Go.Proofs.Ytijjdidljoicfab

/- Contract: raAt, the order with a rank of some numbers. Conditions: at most 12 numbers, the rank below the factorial. -/
namespace Go.Proofs.Ytijjdidljoicfab
open Go.RowKit
set_option linter.unusedVariables false

/-- the order with the rank r of m numbers -/
def atR : Nat → List Int → Nat → List Int
  | 0, _, _ => []
  | m + 1, xs, r => xs.getD (r / fact m) 0 :: atR m (xs.eraseIdx (r / fact m)) (r % fact m)
theorem atR_length (m : Nat) : ∀ (xs : List Int) (r : Nat), (atR m xs r).length = m := by
  induction m with
  | zero => intro xs r; rfl
  | succ m ih => intro xs r; rw [atR, List.length_cons, ih]
theorem at_index {m r : Nat} (h : r < fact (m + 1)) (hm : m < 12) : r / fact m < m + 1 ∧ r % fact m < fact m := by
  have hp := fact_pos m (by omega)
  exact ⟨Nat.div_lt_of_lt_mul (by rw [fact] at h; rw [Nat.mul_comm]; exact h), Nat.mod_lt _ (by omega)⟩

theorem Reads.sits {w : World} {v : Value} {xs : List Int} (h : Reads w v xs) (hx : 0 < xs.length) : Sits w v xs := by
  obtain ⟨ao, c, rfl, hc1, hm, h⟩ := h.view
  rcases h with h | ⟨b, off, rfl, hb, hc⟩
  · rw [h] at hx; simp at hx
  · exact ⟨b, off, c, rfl, hc1, hm, hb, hc⟩
theorem Own.lit1 (w : World) (x : Int) : Own (w.alloc (.cells #[.int .i64 x] 3)) w.heap.size (.slice (some ⟨w.heap.size, 0, none⟩) 1 1) [x] :=
  World.ownsRow_lit w #[.int .i64 x] 1 (Nat.le_refl _) (by unfold maxLen; omega) rfl
theorem own_low {g n c : Nat} : ∀ k, (Value.slice (some ⟨g, 0, none⟩) n c).ownBlock = some k → g ≤ k := by
  intro k hk
  simp [Value.ownBlock] at hk
  omega
theorem alloc_size_le (w : World) (o : Obj) : w.heap.size ≤ (w.alloc o).heap.size := by simp
end Go.Proofs.Ytijjdidljoicfab

/- Contract: raAll, all combinations in order. Conditions: n at most 12, k at most 12. -/
namespace Go.Proofs.Ytijjdidljoicfab
open Go.RowKit
set_option linter.unusedVariables false

/-- the lists that begin with f, .., f + m - 1, the rest out of F -/
def outTo (F : Nat → List (List Int)) (f : Nat) : Nat → List (List Int)
  | 0 => []
  | m + 1 => outTo F f m ++ (F (f + m + 1)).map (fun l => ((f + m : Nat) : Int) :: l)
/-- all combinations of the numbers f, .., n - 1 with k elements -/
def allL (n : Nat) : Nat → Nat → List (List Int)
  | 0, _ => [[]]
  | k + 1, f => outTo (allL n k) f (n - f)
theorem binom_sum : ∀ n, n < 14 → ∀ k, k < 14 → binom n k ≤ 2000 := by decide
theorem allL_len (n : Nat) (hn : n ≤ 12) (k : Nat) : ∀ f, k ≤ 12 → (allL n k f).length = binom (n - f) k := by
  induction k with
  | zero => intro f _; cases n - f <;> simp [allL, binom]
  | succ k ih =>
    intro f hk
    rw [allL]
    have : ∀ m, m ≤ n - f → (outTo (allL n k) f m).length + binom (n - f - m) (k + 1) = binom (n - f) (k + 1) := by
      intro m
      induction m with
      | zero => intro _; simp [outTo]
      | succ m ihm =>
        intro hm
        have h1 := ihm (by omega)
        rw [outTo, List.length_append, List.length_map, ih _ (by omega)]
        have e1 : n - f - m = (n - (f + m + 1)) + 1 := by omega
        have e2 : n - f - (m + 1) = n - (f + m + 1) := by omega
        rw [e1, binom] at h1
        rw [e2]
        omega
    have h2 := this (n - f) (Nat.le_refl _)
    have h3 : binom (n - f - (n - f)) (k + 1) = 0 := by rw [Nat.sub_self]; rfl
    omega
theorem allL_bound (n : Nat) (hn : n ≤ 12) (k f : Nat) (hk : k ≤ 12) : (allL n k f).length ≤ 2000 := by
  rw [allL_len n hn k f hk]
  exact binom_sum _ (by omega) _ (by omega)
theorem outTo_bound (n : Nat) (hn : n ≤ 12) (k f m : Nat) (hk : k < 12) (hm : m ≤ 12) : (outTo (allL n k) f m).length ≤ m * 2000 := by
  induction m with
  | zero => simp [outTo]
  | succ m ih =>
    rw [outTo, List.length_append, List.length_map]
    have := ih (by omega)
    have := allL_bound n hn k (f + m + 1) (by omega)
    omega
theorem allL_elem (n k : Nat) : ∀ f, ∀ l ∈ allL n k f, l.length = k := by
  induction k with
  | zero => intro f l h; simp [allL] at h; rw [h]; rfl
  | succ k ih =>
    intro f
    rw [allL]
    generalize n - f = m
    induction m with
    | zero => intro l h; simp [outTo] at h
    | succ m ihm =>
      intro l h
      rw [outTo, List.mem_append] at h
      rcases h with h | h
      · exact ihm l h
      · obtain ⟨t, ht, rfl⟩ := List.mem_map.1 h
        rw [List.length_cons, ih _ t ht]

theorem Lists_push {w w' : World} {base : Nat} {v v' u : Value} {L : List (List Int)} {l : List Int} {vs : List Value} (hl : vs.length = L.length) (h2 : w.ownsRow base 28 1 v L.length vs)
    (h3 : ∀ i (h1 : i < L.length) (h2 : i < vs.length), Own w base vs[i] L[i]) (hu : Own w base u l) (hrow : w'.ownsRow base 28 1 v' (L.length + 1) (vs ++ [u])) (hg : w.grownBy w' v.ownBlock) : Lists w' base v' (L ++ [l]) := by
  have hk : ∀ x : Value, ∀ xs : List Int, Own w base x xs → Own w' base x xs := fun x xs hx => Own.kept_type hx (T := 28) (by decide) h2 hg
  refine ⟨vs ++ [u], by simp [hl], by rw [List.length_append]; exact hrow, fun i a b => ?_⟩
  by_cases hi : i < L.length
  · rw [List.getElem_append_left (by omega), List.getElem_append_left hi]
    exact hk _ _ (h3 i hi (by omega))
  · have e1 : i = vs.length := by simp at b; simp at a; omega
    have e2 : i = L.length := by omega
    rw [List.getElem_append_right (by omega), List.getElem_append_right (by omega)]
    simp only [e1, Nat.sub_self, hl]
    simpa using hk _ _ hu
theorem Own.one {w : World} {base : Nat} {v : Value} {xs : List Int} (h : Own w base v xs) : ∀ u ∈ [v], u.oneCell' = true := by
  intro u hu
  simp at hu
  subst hu
  rcases h.form with ⟨rfl, _⟩ | ⟨g, cap, rfl, _⟩ <;> rfl
theorem new_cellV {u z : Value} {w : World} {T : TypeId} (j : Nat) (hj : [z][j]? = some u) : (w.alloc (.cells #[z] T)).cell? ((⟨w.heap.size, 0, none⟩ : Addr).add j) = some u := by
  match j, hj with
  | 0, hj => simp at hj; subst hj; simp [Addr.add]
theorem Own.shape {w : World} {base : Nat} {v : Value} {xs : List Int} (h : Own w base v xs) (hx : 0 < xs.length) : ∃ g n cap, v = .slice (some ⟨g, 0, none⟩) n cap := by
  rcases h.form with ⟨_, rfl⟩ | ⟨g, cap, rfl, _⟩
  · simp at hx
  · exact ⟨g, _, cap, rfl⟩
theorem size_alloc2 (w : World) (o : Obj) : w.heap.size ≤ (w.alloc o).heap.size := by simp
theorem wpList_append_lies {P : Program} (w : World) {ops : Array Oper} {rest : List Oper} {o : Oper} {a : Act} {Q : Exit → Act → World → Prop} (hgd : o.guard = none) (s x : Operand) (t : TypeId)
    (ho : o.op = .call { callee := .builtin .append, args := #[s, x], argTypes := #[t, t] }) (base : Nat) (e : TypeId) (i : TypeInfo) (z : Value) (size bytes : Nat) (ht : P.underlying t = some (.slice e)) (hi : P.info? e = some i)
    (hz : i.zero = some z) (hsize : i.size = size) (hby : i.bytes = bytes) (hzs : z.cells.size = size) (hsz : 0 < size) (v : Value) (n : Nat) (xs : List Value) (hs : a.eval s = v) (hown : w.ownsRow base e size v n xs) (ad : Addr)
    (m c : Nat) (news : List Value) (hx : a.eval x = .slice (some ad) m c) (hl : news.length = m * size) (hnews : ∀ (j : Nat) (u : Value), news[j]? = some u → w.cell? (ad.add j) = some u) (h1 : ∀ (u : Value), u ∈ news → u.oneCell' = true)
    (hm : 0 < m) (h63 : n + m ≤ maxLen) (hbytes : (n + m) * bytes ≤ 140737488355328) (hbase : base ≤ w.heap.size)
    (h : ∀ (g cap : Nat) (w' : World), w'.ownsRow base e size (.slice (some ⟨g, 0, none⟩) (n + m) cap) (n + m) (xs ++ news) → w.grownBy w' v.ownBlock → v.ownBlock = some g ∨ g = w.heap.size → wpList P ops Q rest (a.put o.dst (.slice (some ⟨g, 0, none⟩) (n + m) cap)) w') :
    wpList P ops Q (o :: rest) a w := by
  refine wpList_plain hgd fun K hK => ?_
  exact wp_append_lies w s x t ho base e i z size bytes ht hi hz hsize hby hzs hsz v n xs hs hown ad m c news hx hl hnews h1 hm h63 hbytes hbase w.heap.size rfl (fun g cap w' a1 a2 a3 _ => hK _ _ (h g cap w' a1 a2 a3))
theorem Lists_kept {w w' : World} {base b0 g n c k : Nat} {ov : Value} {vs : List Value} {L : List (List Int)} (h : Lists w base (.slice (some ⟨g, 0, none⟩) n c) L) (hv : w.ownsRow b0 28 1 ov k vs) (hg : w.grownBy w' ov.ownBlock) (hne : ov.ownBlock ≠ some g) :
    Lists w' base (.slice (some ⟨g, 0, none⟩) n c) L := by
  obtain ⟨us, h1, h2, h3⟩ := h
  exact ⟨us, h1, World.ownsRow.kept h2 hg (.inr (by simp only [Value.ownBlock, ne_eq]; exact fun e => hne e.symm)), fun i a b => Own.kept_type (h3 i a b) (T := 28) (by decide) hv hg⟩
def Apart (lo hi : Nat) (v : Value) : Prop := ∀ q, v.ownBlock = some q → q < lo ∨ hi ≤ q
theorem Lists.low {w : World} {base : Nat} {v : Value} {L : List (List Int)} (h : Lists w base v L) : ∀ q, v.ownBlock = some q → base ≤ q ∧ q < w.heap.size := by
  obtain ⟨vs, _, h2, _⟩ := h
  exact World.ownsRow.lt h2
set_option maxHeartbeats 1600000 in
theorem raAll_any (n : Nat) (hn : n ≤ 12) (k : Nat) : ∀ (f : Nat) (w : World), k ≤ 12 → f ≤ 13 →
    Calls Try.prog 52 #[.int .i64 (n : Int), .int .i64 (k : Int), .int .i64 (f : Int)] w fun e w' => ∃ u, e = .returned u ∧ Lists w' w.heap.size u (allL n k f) ∧ Below w.heap.size w w' := by
  induction k with
  | zero =>
    intro f w _ _
    go_enter Try.func52, Try.ntmps52
    go_wp2_with fail
    go_ret
    refine ⟨_, rfl, ⟨[.slice none 0 0], rfl, World.ownsRow_lit w #[.slice none 0 0] 1 (Nat.le_refl _) (by unfold maxLen; omega) rfl, fun i h1 h2 => ?_⟩, (Below.refl _ _).alloc (Nat.le_refl _) _⟩
    have : i = 0 := by simpa using h2
    subst this
    exact Own.nil _ _
  | succ k ih =>
    intro f w hk hf
    obtain ⟨i0, hi, hz0, hz1, hz2⟩ := info_parts Try.info3
    obtain ⟨j0, hj, hy0, hy1, hy2⟩ := info_parts Try.infoL
    have hne : ((k : Int) + 1 == 0) = false := beq_eq_false_iff_ne.2 (by omega)
    go_enter Try.func52, Try.ntmps52
    go_wp2_with fail
    go_loopw [7, 8, 10, 25, 26, 27] (fun ov x _ _ _ _ wr => ∃ m : Nat, m ≤ n - f ∧ x = .int .i64 ((f : Int) + m) ∧ Lists wr w.heap.size ov (outTo (allL n k) f m) ∧ Below w.heap.size w wr) (fun _ x _ _ _ _ _ => (n + 20) - (intOf x).toNat)
    case atStart => exact ⟨0, Nat.zero_le _, by simp, Lists.nil _ _, Below.refl _ _⟩
    case round =>
      obtain ⟨m, hm, rfl, hli, hbel⟩ := hrel
      obtain ⟨wo, rfl⟩ : ∃ wo : World, wo = wr := ⟨_, rfl⟩
      have HLI := hid hli
      have HBEL := hid hbel
      clear hli hbel
      by_cases hlt : f + m < n
      · have E1 := hid (show ((f : Int) + (m : Int) + 1) = ((f + m + 1 : Nat) : Int) by omega)
        have EX := hid (show ((f : Int) + (m : Int)) = ((f + m : Nat) : Int) by omega)
        have hob := outTo_bound n hn k f m (by omega) (by omega)
        have HIH := hid (ih (f + m + 1) wo (by omega) (by omega))
        have hab := allL_bound n hn k (f + m + 1) (by omega)
        go_wp2_with fail
        rw [E1.out]
        refine HIH.out.mono ?_
        rintro e w1 ⟨u1, rfl, hu1, hb1⟩
        have HL1 := hid (HLI.out.below hb1)
        have HLOW := hid (HLI.out.low)
        have HS1 := hid hb1.size
        have HB1 := hid (Below_chain HBEL.out hb1)
        have HU1 := hid hu1
        obtain ⟨Lk, hLk⟩ : ∃ Lk, Lk = allL n k (f + m + 1) := ⟨_, rfl⟩
        rw [← hLk] at hu1 hab
        have HLK := hid hLk
        have hel := allL_elem n k (f + m + 1)
        rw [← hLk] at hel
        have HEL := hid hel
        have HOT := hid (show outTo (allL n k) f (m + 1) = outTo (allL n k) f m ++ Lk.map (fun l => ((f + m : Nat) : Int) :: l) by rw [outTo, hLk])
        clear hb1 hLk hel
        rcases hu1.form with ⟨rfl, hnil⟩ | ⟨g, cap, rfl, hgl, hg, hc1, hmx, hcl⟩
        · have HN := hid hnil
          clear hu1 hnil
          go_wp2_with fail
          refine wp_loop_rounds 1 ?_
          rw [rounds_succ]
          go_wp2_with fail
          go_roundw
          case rel => first | exact ⟨m + 1, by omega, by go_num, by rw [HOT.out, HN.out, List.map_nil, List.append_nil]; exact HL1.out, HB1.out⟩ | ((repeat apply Exists.intro); exact ⟨⟨m + 1, by omega, by go_num, by rw [HOT.out, HN.out, List.map_nil, List.append_nil]; exact HL1.out, HB1.out⟩, rfl⟩)
          case measure => simp [intOf]; omega
        · have HUL := hid hu1
          clear hu1 hcl
          go_wp2_with fail
          go_loopw [7, 10, 27] (fun ov _ i wr => ∃ t : Nat, t ≤ Lk.length ∧ i = .int .i64 t ∧ Lists wr w.heap.size ov (outTo (allL n k) f m ++ (Lk.take t).map (fun l => ((f + m : Nat) : Int) :: l)) ∧ Lists wr wo.heap.size (.slice (some ⟨g, 0, none⟩) Lk.length cap) Lk ∧ Apart wo.heap.size w1.heap.size ov ∧ w1.heap.size ≤ wr.heap.size ∧ Below w.heap.size w wr) (fun _ _ i _ => Lk.length - (intOf i).toNat)
          case atStart => exact ⟨0, Nat.zero_le _, rfl, by simpa using HL1.out, HUL.out, fun q hq => .inl (HLOW.out q hq).2, Nat.le_refl _, HB1.out⟩
          case round =>
            obtain ⟨t, ht, rfl, hlt2, hul, hap, hsw, hb2⟩ := hrel
            have HLT := hid hlt2
            have HUL2 := hid hul
            have HAP := hid hap
            have HB2 := hid hb2
            clear hlt2 hap hb2
            by_cases hlt3 : t < Lk.length
            · have hzz : ∃ z, wr.cell? ⟨g, t, none⟩ = some z ∧ Own wr wo.heap.size z Lk[t] := by
                rcases hul.form with ⟨h1, _⟩ | ⟨g', cap', e, _, _, _, _, hcl⟩
                · simp at h1
                · simp only [Value.slice.injEq, Option.some.injEq, Addr.mk.injEq, and_true] at e
                  obtain ⟨rfl, _⟩ := e
                  exact hcl t hlt3
              obtain ⟨z, hcz, hzo⟩ := hzz
              obtain ⟨l, hl⟩ : ∃ l, l = Lk[t] := ⟨_, rfl⟩
              rw [← hl] at hzo
              have HZO := hid hzo
              have hll : l.length = k := by
                rw [hl]; exact HEL.out _ (List.getElem_mem _)
              have HLEN := hid (show [((f : Int) + (m : Int))].length + l.length ≤ 1048576 by simp; omega)
              have HTS := hid (show Lk.take (t + 1) = Lk.take t ++ [l] by rw [List.take_succ_eq_append_getElem hlt3, hl])
              have HLIT := hid (Own.lit1 wr ((f : Int) + (m : Int)))
              obtain ⟨L, hLd⟩ : ∃ L, L = outTo (allL n k) f m ++ (Lk.take t).map (fun l => ((f + m : Nat) : Int) :: l) := ⟨_, rfl⟩
              have hLl : L.length ≤ 30000 := by
                rw [hLd, List.length_append, List.length_map]
                have h1 : (Lk.take t).length ≤ t := List.length_take_le _ _
                have h2 : m * 2000 ≤ 24000 := by omega
                omega
              rw [← hLd] at HLT
              have HNEXT := hid (show outTo (allL n k) f m ++ (Lk.take (t + 1)).map (fun l => ((f + m : Nat) : Int) :: l) = L ++ [[((f : Int) + (m : Int))] ++ l] by
                rw [HTS.out, List.map_append, ← List.append_assoc, ← hLd, ← EX.out]; rfl)
              have hsz := HB2.out.size
              have hgl2 := hgl
              clear hul hzo hl hLd hll
              go_wp2_with (first
                | (at_builtin; refine wpList_append_src _ rfl (.tmp 33) (.tmp 34) 28 rfl wr.heap.size i0 Try.underlying28 hi hz0 hz1 hz2 (.slice (some ⟨wr.heap.size, 0, none⟩) 1 1) [((f : Int) + (m : Int))] rfl HLIT.out z _ l rfl (HZO.out.below ((Below.refl _ _).alloc (Nat.le_refl _) _)) HLEN.out (size_alloc2 wr _) ?_; intro v3 w3 hown3 hgrow3; obtain ⟨g3, n3, cap3, rfl⟩ := Own.shape hown3 (by simp); have HB3 := hid (((Below.refl wr.heap.size wr).alloc (Nat.le_refl _) (.cells #[.int .i64 ((f : Int) + (m : Int))] 3)).grown hgrow3 (size_alloc2 wr _) own_low); have HB3A := hid (HB3.out.alloc HB3.out.size (.cells #[(.slice (some ⟨g3, 0, none⟩) n3 cap3)] 28)); have HO3 := hid (hown3.below ((Below.refl _ _).alloc (Nat.le_refl _) (.cells #[(.slice (some ⟨g3, 0, none⟩) n3 cap3)] 28))); have HLA := HLT.out.below HB3A.out; obtain ⟨vs, hvl, hvr, hve⟩ := HLA; have HVR := hid hvr; have HVE := hid hve; have HVL := hid hvl; have hs3 := HB3.out.size; have HV3 := hid hown3.one; clear hown3 hgrow3 hvr hve hvl)
                | (at_builtin; refine wpList_append_lies _ rfl (.tmp 31) (.tmp 36) 22 rfl w.heap.size 28 j0 (.slice none 0 0) 1 24 Try.underlying22 hj hy0 hy1 hy2 rfl (by decide) _ _ _ rfl HVR.out ⟨w3.heap.size, 0, none⟩ 1 1 [(.slice (some ⟨g3, 0, none⟩) n3 cap3)] rfl rfl (fun j u hj => new_cellV j hj) HV3.out (Nat.zero_lt_one) ?c3 ?c4 ?c5 ?_)
                | fail)
              case c3 => unfold maxLen; omega
              case c4 => omega
              case c5 => (try simp); omega
              intro g4 cap4 w4 hown4 hgrow4 hor
              have hbase : wr.heap.size ≤ (w3.alloc (.cells #[(.slice (some ⟨g3, 0, none⟩) n3 cap3)] 28)).heap.size := Nat.le_trans hs3 (size_alloc2 _ _)
              have HPU := hid (show Lists w4 w.heap.size (.slice (some ⟨g4, 0, none⟩) (L.length + 1) cap4) (L ++ [[((f : Int) + (m : Int))] ++ l]) from Lists_push HVL.out HVR.out HVE.out (HO3.out.mono hsz) hown4 hgrow4)
              have HB4 := hid (((Below_chain HB2.out HB3.out).alloc (Nat.le_trans hsz hs3) (.cells #[(.slice (some ⟨g3, 0, none⟩) n3 cap3)] 28)).grown hgrow4 (Nat.le_trans hsz hbase) (fun q hq => (World.ownsRow.lt HVR.out q hq).1))
              have HU4 := hid (Lists_kept (HUL2.out.below HB3A.out) HVR.out hgrow4 (fun e => by
                rcases HAP.out g e with h | h <;> omega))
              have HA4 := hid (show Apart wo.heap.size w1.heap.size (.slice (some ⟨g4, 0, none⟩) (L.length + 1) cap4) from fun q hq => by
                simp only [Value.ownBlock, Option.some.injEq] at hq
                subst hq
                rcases hor with h | h
                · exact HAP.out g4 h
                · right; omega)
              have hs4 : w1.heap.size ≤ w4.heap.size := Nat.le_trans hsw (Nat.le_trans hbase hgrow4.size)
              clear hown4 hgrow4 hor
              go_wp2_with fail
              go_roundw
              case rel => first | exact ⟨t + 1, by omega, by go_num, by rw [HNEXT.out]; exact HPU.out, HU4.out, HA4.out, hs4, HB4.out⟩ | ((repeat apply Exists.intro); exact ⟨⟨t + 1, by omega, by go_num, by rw [HNEXT.out]; exact HPU.out, HU4.out, HA4.out, hs4, HB4.out⟩, rfl⟩)
              case measure => simp [intOf]; omega
            · obtain rfl : t = Lk.length := by omega
              clear hul
              go_wp2_with fail
              go_roundw
              case rel => first | exact ⟨m + 1, by omega, by go_num, by rw [HOT.out]; simpa using HLT.out, HB2.out⟩ | ((repeat apply Exists.intro); exact ⟨⟨m + 1, by omega, by go_num, by rw [HOT.out]; simpa using HLT.out, HB2.out⟩, rfl⟩)
              case measure => simp [intOf]; omega
      · have HE : Hid (allL n (k + 1) f = outTo (allL n k) f m) := by
          show allL n (k + 1) f = outTo (allL n k) f m
          rw [allL, show n - f = m by omega]
        go_wp2_with fail
        go_ret
        exact ⟨_, rfl, by rw [HE.out]; exact HLI.out, HBEL.out⟩
end Go.Proofs.Ytijjdidljoicfab

/- Contracts: spec.ExchangeOf, chLists, chNear and chAll. Conditions: the slices read as lists (of lists). -/
namespace Go.Proofs.Ytijjdidljoicfab
open Go.RowKit
set_option linter.unusedVariables false

def absW (d : Int) : Int := if 0 ≤ d then d else -d
theorem l1MostW (a b : Int) (w : World) : Calls Try.prog 79 #[.int .i64 a, .int .i64 b] w fun e w' => e = .returned (.int .i64 (if b < a then a else b)) ∧ w = w' := by
  rcases Int.lt_trichotomy a b with h1 | h1 | h1
  · have h2 : ¬ b < a := by omega
    have h3 : ¬ b ≤ a := by omega
    have h4 : a ≤ b := by omega
    go_enter Try.func79, Try.ntmps79
    go_wp2
    go_ret
    exact ⟨rfl, rfl⟩
  · subst h1
    have h2 : ¬ a < a := by omega
    go_enter Try.func79, Try.ntmps79
    go_wp2
    go_ret
    exact ⟨ret_int (by first | rfl | simp), rfl⟩
  · have h2 : ¬ a < b := by omega
    have h3 : ¬ a ≤ b := by omega
    go_enter Try.func79, Try.ntmps79
    go_wp2
    go_ret
    exact ⟨rfl, rfl⟩
theorem l1AbsW_any (d : Int) (w : World) (h1 : -100000 ≤ d) (h2 : d ≤ 100000) : Calls Try.prog 49 #[.int .i64 d] w fun e w' => e = .returned (.int .i64 (absW d)) ∧ w = w' := by
  have hww : IntKind.i64.wrap (-d) = -d := IntWalk.i64_in _ (by omega)
  have hm : (if -d < d then d else -d) = absW d := by unfold absW; split <;> split <;> omega
  go_enter Try.func49, Try.ntmps49
  go_wp2_with (first | (go_at_call 79; refine (l1MostW _ _ _).mono ?_; rintro e w' ⟨rfl, rfl⟩; rw [hm]) | fail)
  go_ret
  exact ⟨rfl, rfl⟩
theorem combB_elem {n : Int} {xs : List Int} (h : combB n xs = true) : 0 ≤ n ∧ n ≤ 12 ∧ xs.length ≤ 12 ∧ ∀ x ∈ xs, 0 ≤ x ∧ x < n := by
  simp only [combB, Bool.and_eq_true, decide_eq_true_eq] at h
  obtain ⟨⟨h1, h2⟩, h3⟩ := h
  have h4 := inB_iff.1 h1
  refine ⟨h4.1, h4.2, by omega, fun x hx => ?_⟩
  obtain ⟨i, hi, rfl⟩ := List.mem_iff_getElem.1 hx
  have h5 := (allTo_iff _ _).1 h3 i hi
  rw [riseAt, Bool.and_eq_true, getD_at hi] at h5
  have h6 := inB_iff.1 h5.1
  omega
/-- what ExchangeOf is asked of -/
def xoOk (n : Int) (a b : List Int) : Bool := combB n a && (combB n b && decide (a.length = b.length))
def xoB (n : Int) (a b : List Int) : Bool := xoOk n a b && exB a b
def xoO (n : Int) (a b : List Int) : Int := if xoOk n a b = true then exO a b else 0
def xoI (n : Int) (a b : List Int) : Int := if xoOk n a b = true then exI a b else 0
theorem xo_no {n : Int} {a b : List Int} (h : xoOk n a b = false) : xoB n a b = false ∧ xoO n a b = 0 ∧ xoI n a b = 0 := by
  unfold xoB xoO xoI
  rw [h]
  exact ⟨rfl, by simp, by simp⟩
theorem xo_yes {n : Int} {a b : List Int} (h : xoOk n a b = true) : xoB n a b = exB a b ∧ xoO n a b = exO a b ∧ xoI n a b = exI a b := by
  unfold xoB xoO xoI
  rw [h]
  exact ⟨by simp, by simp, by simp⟩
theorem getDL2 {L : List (List Int)} {i : Nat} (h : i < L.length) : L.getD i [] = L[i] := by simp [List.getD_eq_getElem?_getD, h]
/-- are lists combinations of n, at most MaxList -/
def combAt (n : Int) (L : List (List Int)) (i : Nat) : Bool := combB n (L.getD i [])
def chlB (n : Int) (L : List (List Int)) : Bool := allTo L.length (combAt n L) && (inB n 0 12 && decide (L.length ≤ 1100))
set_option maxHeartbeats 1000000 in
theorem chLists_any (n : Int) (v : Value) (L : List (List Int)) (base : Nat) (w : World) (h : Lists w base v L) :
    Calls Try.prog 61 #[.int .i64 n, v] w fun e w' => e = .returned (.bool (chlB n L)) ∧ w = w' := by
  cases hin : inB n 0 12 with
  | true =>
    have HIN := hid hin
    rcases h.form with ⟨rfl, rfl⟩ | ⟨g, cap, rfl, _, hg, hc1, hm, hc⟩
    · have HV := hid (show chlB n [] = true by rw [chlB, hin]; rfl)
      clear hin
      go_enter Try.func61, Try.ntmps61
      go_wp2_with fail
      refine wp_loop_rounds 1 ?_
      rw [rounds_succ]
      go_wp2_with (first | (go_at_call 68; refine (raItems_any _ _).mono ?_; rintro e w' ⟨rfl, rfl⟩; rw [HIN.out]) | fail)
      go_ret
      exact ⟨ret_bool HV.out.symm, rfl⟩
    · have HC := hid hc
      have HCHL := hid (show ∀ q, allTo L.length (combAt n L) = q → chlB n L = (q && decide (L.length ≤ 1100)) from fun q hq => by rw [chlB, hq, hin, Bool.true_and])
      clear hc h hin
      go_enter Try.func61, Try.ntmps61
      go_wp2_with fail
      go_loop [6, 9] (fun _ i => ∃ k : Nat, k ≤ L.length ∧ i = .int .i64 k ∧ allTo k (combAt n L) = true) (fun _ i => L.length - (intOf i).toNat)
      case atStart => exact ⟨0, Nat.zero_le _, rfl, rfl⟩
      case round =>
        obtain ⟨k, hk, rfl, hall⟩ := hrel
        have HA := hid hall
        clear hall
        by_cases hlt : k < L.length
        · obtain ⟨z, hz, hown⟩ := HC.out k hlt
          have HZ := hid hown.reads
          obtain ⟨l, hl⟩ : ∃ l, l = L[k] := ⟨_, rfl⟩
          have HK := hid (show combAt n L k = combB n l by rw [combAt, getDL2 hlt, hl])
          rw [← hl] at HZ
          clear hown hl
          cases hcb : combB n l with
          | true =>
            have HCB := hid hcb
            clear hcb
            go_wp2_with (first | (go_at_call 83; refine (raCombination_any n _ l _ HZ.out).mono ?_; rintro e w1 ⟨rfl, rfl⟩; rw [HCB.out]) | fail)
            go_round
            case rel => exact ⟨k + 1, by omega, by go_num, allTo_next HA.out (by rw [HK.out]; exact HCB.out)⟩
            case measure => simp [intOf]; omega
          | false =>
            have HCB := hid hcb
            have HV := hid (show chlB n L = false by rw [HCHL.out false (allTo_no hlt (by rw [HK.out]; exact hcb))]; rfl)
            clear hcb
            go_wp2_with (first | (go_at_call 83; refine (raCombination_any n _ l _ HZ.out).mono ?_; rintro e w1 ⟨rfl, rfl⟩; rw [HCB.out]) | fail)
            go_ret
            exact ⟨ret_bool HV.out.symm, rfl⟩
        · obtain rfl : k = L.length := by omega
          have HV := hid (show chlB n L = decide (L.length ≤ 1100) by rw [HCHL.out true HA.out]; rfl)
          by_cases h11 : L.length ≤ 1100
          · have HV2 := hid (show chlB n L = true by rw [HV.out, decide_eq_true h11])
            go_wp2_with (first | (go_at_call 68; refine (raItems_any _ _).mono ?_; rintro e w' ⟨rfl, rfl⟩; rw [HIN.out]) | fail)
            go_ret
            exact ⟨ret_bool (by rw [HV2.out]; first | rfl | exact decide_eq_true (by omega)), rfl⟩
          · have HV2 := hid (show chlB n L = false by rw [HV.out, decide_eq_false h11])
            go_wp2_with (first | (go_at_call 68; refine (raItems_any _ _).mono ?_; rintro e w' ⟨rfl, rfl⟩; rw [HIN.out]) | fail)
            go_ret
            exact ⟨ret_bool (by rw [HV2.out]; first | rfl | exact decide_eq_false (by omega)), rfl⟩
  | false =>
    have HIN := hid hin
    have HV := hid (show chlB n L = false by rw [chlB, hin]; simp)
    have HNC := hid (show ∀ l, combB n l = false from fun l => by rw [combB, hin]; rfl)
    rcases h.form with ⟨rfl, rfl⟩ | ⟨g, cap, rfl, _, hg, hc1, hm, hc⟩
    · clear hin h
      go_enter Try.func61, Try.ntmps61
      go_wp2_with fail
      refine wp_loop_rounds 1 ?_
      rw [rounds_succ]
      go_wp2_with (first | (go_at_call 68; refine (raItems_any _ _).mono ?_; rintro e w' ⟨rfl, rfl⟩; rw [HIN.out]) | fail)
      go_ret
      exact ⟨ret_bool HV.out.symm, rfl⟩
    · have HC := hid hc
      clear hc h hin
      cases L with
      | nil =>
        go_enter Try.func61, Try.ntmps61
        go_wp2_with fail
        refine wp_loop_rounds 1 ?_
        rw [rounds_succ]
        go_wp2_with (first | (go_at_call 68; refine (raItems_any _ _).mono ?_; rintro e w' ⟨rfl, rfl⟩; rw [HIN.out]) | fail)
        go_ret
        exact ⟨ret_bool HV.out.symm, rfl⟩
      | cons l t =>
        obtain ⟨z, hz, hown⟩ := HC.out 0 (by simp)
        have HZ := hid (show Reads w z l from hown.reads)
        have hpos : (0 : Int) < ((l :: t).length : Int) := by rw [List.length_cons]; omega
        obtain ⟨m, hm2⟩ : ∃ m, m = (l :: t).length := ⟨_, rfl⟩
        rw [← hm2] at hpos hc1 ⊢
        have hm3 : 0 < m := by omega
        clear hown hm2
        go_enter Try.func61, Try.ntmps61
        go_wp2_with fail
        refine wp_loop_rounds 1 ?_
        rw [rounds_succ]
        go_wp2_with (first | (go_at_call 83; refine (raCombination_any n _ l _ HZ.out).mono ?_; rintro e w1 ⟨rfl, rfl⟩; rw [HNC.out l]) | fail)
        go_ret
        exact ⟨ret_bool HV.out.symm, rfl⟩
end Go.Proofs.Ytijjdidljoicfab

/- Plain facts on bases, their products, digits and ranks. No conditions beyond the stated ones. -/
namespace Go.Proofs.Ytijjdidljoicfab
set_option linter.unusedVariables false

def prodTo (xs : List Int) : Nat → Int
  | 0 => 1
  | k + 1 => prodTo xs k * xs.getD k 0
def baseAt (xs : List Int) (i : Nat) : Bool := inB (xs.getD i 0) 2 12
def allBases (xs : List Int) : Bool := allTo xs.length (baseAt xs)
/-- xs are bases -/
def basesB (xs : List Int) : Bool := decide (xs.length ≤ 12) && allBases xs && decide (prodTo xs xs.length ≤ 1000000)

theorem base_range {xs : List Int} (h : allBases xs = true) {i : Nat} (hi : i < xs.length) : 2 ≤ xs.getD i 0 ∧ xs.getD i 0 ≤ 12 :=
  inB_iff.1 ((allTo_iff _ _).1 h i hi)
theorem prodTo_pos {xs : List Int} {k : Nat} (h : allTo k (baseAt xs) = true) : 1 ≤ prodTo xs k := by
  induction k with
  | zero => simp [prodTo]
  | succ k ih =>
    rw [allTo_succ, Bool.and_eq_true] at h
    have h1 := ih h.1
    have h2 := (inB_iff.1 h.2).1
    have := Int.mul_le_mul h1 h2 (by omega) (by omega)
    rw [prodTo]
    omega
theorem prodTo_le {xs : List Int} {k : Nat} (h : allTo k (baseAt xs) = true) : prodTo xs k ≤ 12 ^ k := by
  induction k with
  | zero => simp [prodTo]
  | succ k ih =>
    have hp := prodTo_pos h
    rw [allTo_succ, Bool.and_eq_true] at h
    have h1 := ih h.1
    have h2 := (inB_iff.1 h.2).2
    have h3 := prodTo_pos h.1
    have h4 := (inB_iff.1 h.2).1
    have := Int.mul_le_mul h1 h2 (by omega) (by exact Int.le_trans (by omega) h1)
    rw [prodTo, Int.pow_succ]
    exact this
theorem pow12 : ∀ k, k < 13 → (12 : Int) ^ k ≤ 8916100448256 := by decide
theorem prodTo_bound {xs : List Int} {k : Nat} (h : allTo k (baseAt xs) = true) (hk : k ≤ 12) : prodTo xs k ≤ 8916100448256 := Int.le_trans (prodTo_le h) (pow12 k (by omega))
theorem allTo_mono {n k : Nat} {f : Nat → Bool} (h : allTo n f = true) (hk : k ≤ n) : allTo k f = true := (allTo_iff _ _).2 (fun i hi => (allTo_iff _ _).1 h i (by omega))
theorem prodTo_step {xs : List Int} {k : Nat} (h : allTo (k + 1) (baseAt xs) = true) : prodTo xs k ≤ prodTo xs (k + 1) := by
  have h1 := prodTo_pos (allTo_mono h (Nat.le_succ k))
  rw [allTo_succ, Bool.and_eq_true] at h
  have h4 := (inB_iff.1 h.2).1
  have := Int.mul_le_mul (Int.le_refl (prodTo xs k)) (show 1 ≤ xs.getD k 0 by omega) (by omega) (by omega)
  rw [prodTo]
  omega
theorem prodTo_mono {xs : List Int} {k n : Nat} (h : allTo n (baseAt xs) = true) (hk : k ≤ n) : prodTo xs k ≤ prodTo xs n := by
  induction n with
  | zero =>
    obtain rfl : k = 0 := by omega
    exact Int.le_refl _
  | succ n ih =>
    by_cases e : k = n + 1
    · rw [e]; exact Int.le_refl _
    · exact Int.le_trans (ih (allTo_mono h (Nat.le_succ n)) (by omega)) (prodTo_step h)

theorem basesB_iff {xs : List Int} : basesB xs = true ↔ xs.length ≤ 12 ∧ allBases xs = true ∧ prodTo xs xs.length ≤ 1000000 := by
  simp only [basesB, Bool.and_eq_true, decide_eq_true_eq]
  exact ⟨fun h => ⟨h.1.1, h.1.2, h.2⟩, fun h => ⟨⟨h.1, h.2.1⟩, h.2.2⟩⟩

/-- what is left of r behind the last d digits -/
def remD (xs : List Int) (r : Int) : Nat → Int
  | 0 => r
  | d + 1 => remD xs r d / xs.getD (xs.length - 1 - d) 0
def digitsL (xs : List Int) (r : Int) : List Int := (List.range xs.length).map (fun i : Nat => remD xs r (xs.length - 1 - i) % xs.getD i 0)
theorem digitsL_length (xs : List Int) (r : Int) : (digitsL xs r).length = xs.length := by simp [digitsL]
theorem digitsL_getD {xs : List Int} {r : Int} {i : Nat} (h : i < xs.length) : (digitsL xs r).getD i 0 = remD xs r (xs.length - 1 - i) % xs.getD i 0 := by simp [digitsL, h]
theorem remD_range {xs : List Int} {r : Int} (h : allBases xs = true) (hr : 0 ≤ r) (d : Nat) (hd : d ≤ xs.length) : 0 ≤ remD xs r d ∧ remD xs r d ≤ r := by
  induction d with
  | zero => exact ⟨hr, Int.le_refl _⟩
  | succ d ih =>
    have h1 := ih (by omega)
    have h2 := (base_range h (show xs.length - 1 - d < xs.length by omega)).1
    rw [remD]
    exact ⟨Int.ediv_nonneg h1.1 (by omega), Int.le_trans (Int.ediv_le_self _ h1.1) h1.2⟩
/-- digits with a rank -/
def digB (xs : List Int) (r : Int) : Bool := basesB xs && inB r 0 (prodTo xs xs.length - 1)
def digRes (xs : List Int) (r : Int) : List Int := if digB xs r = true then digitsL xs r else []
theorem digRes_yes {xs : List Int} {r : Int} (h : digB xs r = true) : digRes xs r = digitsL xs r := by unfold digRes; rw [if_pos h]
theorem digRes_no {xs : List Int} {r : Int} (h : digB xs r = false) : digRes xs r = [] := by unfold digRes; rw [if_neg (by rw [h]; simp)]
theorem bound_DigitsAt (xs : List Int) (r : Int) : (digRes xs r).length ≤ 1048576 := by
  by_cases h : digB xs r = true
  · rw [digRes_yes h, digitsL_length]
    simp only [digB, Bool.and_eq_true] at h
    have := (basesB_iff.1 h.1).1
    omega
  · rw [digRes_no (by simpa using h)]; simp

/-- ys are digits for xs -/
def areDig (xs ys : List Int) : Bool := decide (ys.length = xs.length) && allTo ys.length (fun i => inB (ys.getD i 0) 0 (xs.getD i 0 - 1))
def numTo (xs ys : List Int) : Nat → Int
  | 0 => 0
  | k + 1 => numTo xs ys k * xs.getD k 0 + ys.getD k 0
theorem numTo_range {xs ys : List Int} (h : allBases xs = true) (hd : areDig xs ys = true) (k : Nat) (hk : k ≤ xs.length) : 0 ≤ numTo xs ys k ∧ numTo xs ys k < prodTo xs k := by
  simp only [areDig, Bool.and_eq_true, decide_eq_true_eq] at hd
  induction k with
  | zero => simp [numTo, prodTo]
  | succ k ih =>
    have h1 := ih (by omega)
    have h2 := base_range h (show k < xs.length by omega)
    have h3 := inB_iff.1 ((allTo_iff _ _).1 hd.2 k (by omega))
    have h4 := Int.mul_le_mul (show numTo xs ys k + 1 ≤ prodTo xs k by omega) (Int.le_refl (xs.getD k 0)) (by omega) (by omega)
    have h5 := Int.mul_nonneg h1.1 (show 0 ≤ xs.getD k 0 by omega)
    rw [Int.add_mul] at h4
    rw [numTo, prodTo]
    omega
def rankB (xs ys : List Int) : Bool := basesB xs && areDig xs ys
def rankRes (xs ys : List Int) : Int := if rankB xs ys = true then numTo xs ys ys.length else 0
end Go.Proofs.Ytijjdidljoicfab

/- Contracts: isGreater, countRelated at isGreater, raInversions, and both InversionsOf functions. Conditions: the slice reads as a list of at most 2^20 numbers. -/
namespace Go.Proofs.Ytijjdidljoicfab
open Go.RowKit
set_option linter.unusedVariables false

theorem one_cell1 (k : IntKind) (x : Int) : ∀ u ∈ [Value.int k x], u.oneCell' = true := by
  intro u hu
  simp at hu
  subst hu
  rfl
theorem ret_sb {u : Value} {b b' : Bool} (h : b = b') : Ending.returned (.tuple #[u, .bool b]) = .returned (.tuple #[u, .bool b']) := by rw [h]
theorem ret_nb {n n' : Int} {b b' : Bool} (hn : n = n') (h : b = b') : Ending.returned (.tuple #[.int .i64 n, .bool b]) = .returned (.tuple #[.int .i64 n', .bool b']) := by rw [h, hn]

/-- the inversions of a permutation, nothing of another list -/
def invRes (xs : List Int) : List Int := if permB xs = true then invsTo xs xs.length else []
theorem invRes_yes {xs : List Int} (h : permB xs = true) : invRes xs = invsTo xs xs.length := by unfold invRes; rw [if_pos h]
theorem invRes_no {xs : List Int} (h : permB xs = false) : invRes xs = [] := by unfold invRes; rw [if_neg (by rw [h]; simp)]
theorem bound_InversionsOf (xs : List Int) : (invRes xs).length ≤ 1048576 := by
  by_cases h : permB xs = true
  · rw [invRes_yes h, invsTo_length]; have := permB_len h; omega
  · rw [invRes_no (by simpa using h)]; simp
end Go.Proofs.Ytijjdidljoicfab

/- Contracts: l1All, raProduct, raBases, raDigits, productOf and both DigitsAt functions. Conditions: the slice reads as a list of at most 2^20 numbers. -/
namespace Go.Proofs.Ytijjdidljoicfab
open Go.RowKit
set_option linter.unusedVariables false

theorem l1All_any (v : Value) (xs : List Int) (lo hi : Int) (w : World) (h : Sits w v xs) :
    Calls Try.prog 75 #[v, .int .i64 lo, .int .i64 hi] w fun e w' => e = .returned (.bool (allTo xs.length (fun i => inB (xs.getD i 0) lo hi))) ∧ w = w' := by
  obtain ⟨b, off, c, rfl, hc1, hm, hb, hc⟩ := h
  go_enter Try.func75, Try.ntmps75
  go_wp2
  go_loop [8, 11] (fun _ i => ∃ k : Nat, k ≤ xs.length ∧ i = .int .i64 k ∧ allTo k (fun i => inB (xs.getD i 0) lo hi) = true) (fun _ i => xs.length - (intOf i).toNat)
  case atStart => exact ⟨0, Nat.zero_le _, rfl, rfl⟩
  case round =>
    obtain ⟨k, hk, rfl, hall⟩ := hrel
    have HA := hid hall
    clear hall
    by_cases hlt : k < xs.length
    · have hcx := hc k hlt
      clear hc
      by_cases hin : inB xs[k] lo hi = true
      · have HF : Hid (inB (xs.getD k 0) lo hi = true) := by
          show inB (xs.getD k 0) lo hi = true
          rw [getD_at hlt, hin]
        go_wp2_with (go_at_call 48; refine (l1In_any _ _ _ _).mono ?_; rintro e w' ⟨rfl, rfl⟩)
        go_round
        case rel => exact ⟨k + 1, by omega, by go_num, allTo_next (f := fun i => inB (xs.getD i 0) lo hi) HA.out HF.out⟩
        case measure => simp [intOf]; omega
      · have hin : inB xs[k] lo hi = false := by simpa using hin
        have HF : Hid (inB (xs.getD k 0) lo hi = false) := by
          show inB (xs.getD k 0) lo hi = false
          rw [getD_at hlt, hin]
        go_wp2_with (go_at_call 48; refine (l1In_any _ _ _ _).mono ?_; rintro e w' ⟨rfl, rfl⟩)
        go_ret
        exact ⟨ret_bool (allTo_no (f := fun i => inB (xs.getD i 0) lo hi) hlt HF.out).symm, rfl⟩
    · obtain rfl : k = xs.length := by omega
      go_wp2
      go_ret
      exact ⟨ret_bool HA.out.symm, rfl⟩
def ProdIs (xs : List Int) (p : Int) : Prop := (prodTo xs xs.length ≤ 1000000 ∧ p = prodTo xs xs.length) ∨ (1000000 < prodTo xs xs.length ∧ 1000000 < p)
theorem ProdIs.dec {xs : List Int} {p : Int} (h : ProdIs xs p) : decide (p ≤ 1000000) = decide (prodTo xs xs.length ≤ 1000000) := by
  rcases h with ⟨h1, rfl⟩ | ⟨h1, h2⟩
  · rfl
  · rw [decide_eq_false (by omega), decide_eq_false (by omega)]
def ProdEnd (xs : List Int) (w : World) (e : Ending) (w' : World) : Prop := ∃ p, e = .returned (.int .i64 p) ∧ ProdIs xs p ∧ w = w'
theorem prod_facts {xs : List Int} (hall : allBases xs = true) {k : Nat} (hlt : k < xs.length) (hle : prodTo xs k ≤ 8916100448256) :
    0 ≤ prodTo xs k * xs[k] ∧ prodTo xs k * xs[k] ≤ 106993205379072 ∧ prodTo xs (k + 1) = prodTo xs k * xs[k] ∧ 2 ≤ xs[k] ∧ xs[k] ≤ 12 ∧ 1 ≤ prodTo xs k := by
  have h1 := base_range hall hlt
  rw [getD_at hlt] at h1
  have h2 := prodTo_pos (allTo_mono hall (show k ≤ xs.length by omega))
  have h3 := Int.mul_nonneg (show 0 ≤ prodTo xs k by omega) (show 0 ≤ xs[k] by omega)
  have h4 := Int.mul_le_mul hle h1.2 (by omega) (by omega)
  refine ⟨h3, by omega, ?_, h1.1, h1.2, h2⟩
  rw [prodTo, getD_at hlt]
def prodRes (xs : List Int) : Int := if basesB xs = true then prodTo xs xs.length else 0
theorem prodRes_yes {xs : List Int} (h : basesB xs = true) : prodRes xs = prodTo xs xs.length := by unfold prodRes; rw [if_pos h]
theorem prodRes_no {xs : List Int} (h : basesB xs = false) : prodRes xs = 0 := by unfold prodRes; rw [if_neg (by rw [h]; simp)]
end Go.Proofs.Ytijjdidljoicfab

/- Contracts: chBits, spec.BitsOf, chAreBits and spec.FromBits. Conditions: the slice reads as a list of at most 2^20 numbers. -/
namespace Go.Proofs.Ytijjdidljoicfab
open Go.RowKit
set_option linter.unusedVariables false

/-- the bits of a combination -/
def bitAt (xs : List Int) (i : Nat) : Int := if hasB xs (i : Int) = true then 1 else 0
def bitsL (n : Nat) (xs : List Int) : List Int := (List.range n).map (bitAt xs)
theorem bitsL_length (n : Nat) (xs : List Int) : (bitsL n xs).length = n := by simp [bitsL]
theorem bitsL_getD {n i : Nat} (xs : List Int) (h : i < n) : (bitsL n xs).getD i 0 = bitAt xs i := by simp [bitsL, h]
theorem ret_sb4 {u : Value} {b b' : Bool} (h : b = b') : Ending.returned (.tuple #[u, .bool b]) = .returned (.tuple #[u, .bool b']) := by rw [h]
set_option maxHeartbeats 1000000 in
theorem chBits_any (n : Nat) (v : Value) (xs : List Int) (w : World) (h : Reads w v xs) (hn : n ≤ 1048576) (hx : ∀ x ∈ xs, 0 ≤ x ∧ x < (n : Int)) :
    Calls Try.prog 69 #[.int .i64 (n : Int), v] w fun e w' => e = .returned (.slice (some ⟨w.heap.size, 0, none⟩) n n) ∧ Own w' w.heap.size (.slice (some ⟨w.heap.size, 0, none⟩) n n) (bitsL n xs) ∧ Below w.heap.size w w' := by
  obtain ⟨ao, c, rfl, hc1, hm, h⟩ := h.view
  have hmk := run_make_ints n hn w
  have HR0 := hid (World.rowIs_made w (.int .i64 0) n 3)
  have HB0 := hid ((Below.refl w.heap.size w).alloc (Nat.le_refl _) (.cells (madeCells #[.int .i64 0] n) 3))
  have hS0 : w.heap.size < (w.alloc (.cells (madeCells #[.int .i64 0] n) 3)).heap.size := by simp
  obtain ⟨wm, hwm⟩ : ∃ wm, wm = w.alloc (.cells (madeCells #[.int .i64 0] n) 3) := ⟨_, rfl⟩
  rw [← hwm] at hmk HR0 HB0 hS0
  have HX := hid hx
  have HFIN := hid (show ∀ w', w'.rowIs w.heap.size 3 n (fun j => .int .i64 (bitAt xs j)) → Own w' w.heap.size (.slice (some ⟨w.heap.size, 0, none⟩) n n) (bitsL n xs) from fun w' hr =>
    Own.of_rowIs (hr.congr (fun i hi => by rw [bitsL_getD xs hi])) (bitsL_length n xs) (by unfold maxLen; omega))
  clear hwm hx
  rcases h with h | ⟨g, off, rfl, hb, hc⟩
  · have H := hid h
    have HZ := hid (show ∀ j, bitAt xs j = 0 from fun j => by rw [h]; rfl)
    clear h
    go_enter Try.func69, Try.ntmps69
    go_wp2_with fail
    go_loopw [7, 12] (fun _ i wr => i = .int .i64 0 ∧ wr = wm) (fun _ i _ => xs.length - (intOf i).toNat)
    case atStart => exact ⟨rfl, rfl⟩
    case round =>
      obtain ⟨rfl, rfl⟩ := hrel
      have hlt : ¬ (0 : Int) < (xs.length : Int) := by rw [H.out]; simp
      go_wp2_with fail
      go_ret
      exact ⟨rfl, HFIN.out _ (HR0.out.congr (fun i hi => by rw [HZ.out])), HB0.out⟩
  · have HC := hid hc
    clear hc
    go_enter Try.func69, Try.ntmps69
    go_wp2_with fail
    clear hmk
    go_loopw [7, 12] (fun _ i wr => ∃ k : Nat, k ≤ xs.length ∧ i = .int .i64 k ∧ wr.rowIs w.heap.size 3 n (fun j => .int .i64 (bitAt (xs.take k) j)) ∧ Below w.heap.size w wr) (fun _ i _ => xs.length - (intOf i).toNat)
    case atStart => exact ⟨0, Nat.zero_le _, rfl, HR0.out.congr (fun i hi => by simp [bitAt, hasB]), HB0.out⟩
    case round =>
      obtain ⟨k, hk, rfl, hrow, hbel⟩ := hrel
      have HR := hid hrow
      have HB := hid hbel
      by_cases hlt : k < xs.length
      · have hcx : wr.cell? ⟨g, off + k, none⟩ = some (.int .i64 xs[k]) := (hbel.cell (by exact hb)).trans (HC.out k hlt)
        have hxr := HX.out xs[k] (List.getElem_mem _)
        obtain ⟨q, hq⟩ : ∃ q : Nat, xs[k] = (q : Int) := ⟨xs[k].toNat, by omega⟩
        rw [hq] at hcx hxr
        have hqn : q < n := by omega
        have hcz := hrow.cell hqn
        have hfz := hrow.frozen q
        obtain ⟨zz, hzz⟩ : ∃ zz, wr.cell? ⟨w.heap.size, q, none⟩ = some zz := ⟨_, hcz⟩
        have HR2 := hid (show (wr.setCell ⟨w.heap.size, q, none⟩ (.int .i64 1)).rowIs w.heap.size 3 n (fun j => .int .i64 (bitAt (xs.take (k + 1)) j)) from (hrow.set q (.int .i64 1)).congr (fun j hj => by
          unfold bitAt
          rw [hasB_take_succ xs k hlt, hq]
          by_cases e : j = q
          · subst e; simp
          · rw [if_neg e]
            have : decide ((j : Int) = (q : Int)) = false := decide_eq_false (by omega)
            rw [this, Bool.or_false]))
        have HB2 := hid (hbel.setCell (p := ⟨w.heap.size, q, none⟩) (Nat.le_refl _) (.int .i64 1))
        clear hcz hrow hbel hq
        go_wp2_with fail
        go_roundw
        case rel => exact ⟨k + 1, by omega, by go_num, HR2.out, HB2.out⟩
        case measure => simp [intOf]; omega
      · obtain rfl : k = xs.length := by omega
        rw [List.take_length] at HR
        clear hrow hbel
        go_wp2_with fail
        go_ret
        exact ⟨rfl, HFIN.out _ HR.out, HB.out⟩
def boRes (n : Int) (xs : List Int) : List Int := if combB n xs = true then bitsL n.toNat xs else []
theorem bound_BitsOf (n : Int) (xs : List Int) : (boRes n xs).length ≤ 1048576 := by
  unfold boRes; split
  · rename_i h
    have := combB_elem h
    rw [bitsL_length]; omega
  · simp
/-- are xs bits -/
def isBits (xs : List Int) : Bool := decide (xs.length ≤ 12) && allTo xs.length (fun i => inB (xs.getD i 0) 0 1)
theorem chAreBits_any (v : Value) (xs : List Int) (w : World) (h : Sits w v xs) : Calls Try.prog 40 #[v] w fun e w' => e = .returned (.bool (isBits xs)) ∧ w = w' := by
  have HS := hid h
  obtain ⟨b, off, c, rfl, hc1, hm, hb, hc⟩ := h
  clear hc
  by_cases h12 : xs.length ≤ 12
  · have HV := hid (show isBits xs = allTo xs.length (fun i => inB (xs.getD i 0) 0 1) by rw [isBits, decide_eq_true h12]; rfl)
    have h12' : (xs.length : Int) ≤ 12 := by omega
    go_enter Try.func40, Try.ntmps40
    go_wp2_with (first | (go_at_call 75; refine (l1All_any _ xs _ _ _ HS.out).mono ?_; rintro e w1 ⟨rfl, rfl⟩) | fail)
    go_ret
    exact ⟨ret_bool HV.out.symm, rfl⟩
  · have HV := hid (show isBits xs = false by rw [isBits, decide_eq_false h12]; rfl)
    have h12' : ¬ (xs.length : Int) ≤ 12 := by omega
    go_enter Try.func40, Try.ntmps40
    go_wp2_with fail
    go_ret
    exact ⟨ret_bool HV.out.symm, rfl⟩
/-- the combination whose bits are given -/
def fromL (xs : List Int) (k : Nat) : List Int := ((List.range k).filter (fun i => xs.getD i 0 == 1)).map (fun i : Nat => (i : Int))
theorem fromL_yes {xs : List Int} {k : Nat} (h : (xs.getD k 0 == 1) = true) : fromL xs (k + 1) = fromL xs k ++ [(k : Int)] := by
  unfold fromL
  rw [List.range_succ, List.filter_append, List.map_append, List.filter_cons_of_pos (by exact h)]
  rfl
theorem fromL_no {xs : List Int} {k : Nat} (h : (xs.getD k 0 == 1) = false) : fromL xs (k + 1) = fromL xs k := by
  unfold fromL
  rw [List.range_succ, List.filter_append, List.map_append, List.filter_cons_of_neg (by simpa using h)]
  simp
theorem fromL_len (xs : List Int) (k : Nat) : (fromL xs k).length ≤ k := by
  unfold fromL
  rw [List.length_map]
  have := List.length_filter_le (fun i => xs.getD i 0 == 1) (List.range k)
  simpa using this
def fbRes (xs : List Int) : List Int := if isBits xs = true then fromL xs xs.length else []
theorem bound_FromBits (xs : List Int) : (fbRes xs).length ≤ 1048576 := by
  unfold fbRes; split
  · rename_i h
    rw [isBits, Bool.and_eq_true, decide_eq_true_eq] at h
    have := fromL_len xs xs.length
    omega
  · simp
end Go.Proofs.Ytijjdidljoicfab
