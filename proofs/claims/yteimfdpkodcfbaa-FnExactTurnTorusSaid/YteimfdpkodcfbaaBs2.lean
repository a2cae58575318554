/- Facts and contracts (Perm3, Perm4, Sign, App, Lists, Same, Rank1, At1, All1, DigMath, Dig1), merged. Conditions: as told at each. -/
import Derived.Test.YteimfdpkodcfbaaBs1
import Derived.Deep.QuietTactic
import Derived.BigQuiet
import Derived.Deep.AppendLies

/- Contracts: isGreater, countRelated at isGreater, raInversions, and both InversionsOf functions. Conditions: the slice reads as a list of at most 2^20 numbers. -/
namespace Go.Proofs.Yteimfdpkodcfbaa
open Go.RowKit
set_option linter.unusedVariables false

theorem one_cell1 (k : IntKind) (x : Int) : ∀ u ∈ [Value.int k x], u.oneCell' = true := by
  intro u hu
  simp at hu
  subst hu
  rfl
theorem ret_sb {u : Value} {b b' : Bool} (h : b = b') : Ending.returned (.tuple #[u, .bool b]) = .returned (.tuple #[u, .bool b']) := by rw [h]
theorem ret_nb {n n' : Int} {b b' : Bool} (hn : n = n') (h : b = b') : Ending.returned (.tuple #[.int .i64 n, .bool b]) = .returned (.tuple #[.int .i64 n', .bool b']) := by rw [h, hn]

/-- the inversions of a permutation, nothing of another list -/
def invRes (xs : List Int) : List Int := if permB xs = true then invsTo xs xs.length else []
theorem invRes_yes {xs : List Int} (h : permB xs = true) : invRes xs = invsTo xs xs.length := by unfold invRes; rw [if_pos h]
theorem invRes_no {xs : List Int} (h : permB xs = false) : invRes xs = [] := by unfold invRes; rw [if_neg (by rw [h]; simp)]
theorem bound_InversionsOf (xs : List Int) : (invRes xs).length ≤ 1048576 := by
  by_cases h : permB xs = true
  · rw [invRes_yes h, invsTo_length]; have := permB_len h; omega
  · rw [invRes_no (by simpa using h)]; simp
end Go.Proofs.Yteimfdpkodcfbaa

/- Contracts: spec.InversionsOf, raInverse and both InverseOf functions. Conditions: the slice reads as a list of at most 2^20 numbers. -/
namespace Go.Proofs.Yteimfdpkodcfbaa
open Go.RowKit
set_option linter.unusedVariables false


/-- the inverse as far as the first k elements tell it -/
def inverseTo (xs : List Int) : Nat → List Int
  | 0 => List.replicate xs.length 0
  | k + 1 => (inverseTo xs k).set (xs.getD k 0).toNat k
theorem inverseTo_length (xs : List Int) (k : Nat) : (inverseTo xs k).length = xs.length := by
  induction k with
  | zero => simp [inverseTo]
  | succ k ih => rw [inverseTo, List.length_set, ih]
def inverseRes (xs : List Int) : List Int := if permB xs = true then inverseTo xs xs.length else []
theorem inverseRes_yes {xs : List Int} (h : permB xs = true) : inverseRes xs = inverseTo xs xs.length := by unfold inverseRes; rw [if_pos h]
theorem inverseRes_no {xs : List Int} (h : permB xs = false) : inverseRes xs = [] := by unfold inverseRes; rw [if_neg (by rw [h]; simp)]
theorem bound_InverseOf (xs : List Int) : (inverseRes xs).length ≤ 1048576 := by
  by_cases h : permB xs = true
  · rw [inverseRes_yes h, inverseTo_length]; have := permB_len h; omega
  · rw [inverseRes_no (by simpa using h)]; simp

theorem rowIs_setD {w : World} {g n : Nat} {xs : List Int} (x : Nat) (u : Int) (hx : x < n) (hl : xs.length = n) (h : w.rowIs g 3 n (fun i => .int .i64 (xs.getD i 0))) :
    (w.setCell ⟨g, x, none⟩ (.int .i64 u)).rowIs g 3 n (fun i => .int .i64 ((xs.set x u).getD i 0)) := by
  refine (h.set x (.int .i64 u)).congr (fun i hi => ?_)
  by_cases e : i = x
  · subst e
    simp [hl, hi]
  · rw [if_neg e]
    simp [List.getD_eq_getElem?_getD, List.getElem?_set_ne (fun h => e h.symm)]

end Go.Proofs.Yteimfdpkodcfbaa

/- Contracts: raSign and both SignOf functions. Conditions: the slice reads as a list of at most 2^20 numbers. -/
namespace Go.Proofs.Yteimfdpkodcfbaa
open Go.RowKit
set_option linter.unusedVariables false

def sumTo (ys : List Int) : Nat → Int
  | 0 => 0
  | k + 1 => sumTo ys k + ys.getD k 0
def signSum (s : Int) : Int := if s % 2 = 1 then -1 else 1
def signRes (xs : List Int) : Int := if permB xs = true then signSum (sumTo (invsTo xs xs.length) xs.length) else 0
theorem signRes_yes {xs : List Int} (h : permB xs = true) : signRes xs = signSum (sumTo (invsTo xs xs.length) xs.length) := by unfold signRes; rw [if_pos h]
theorem signRes_no {xs : List Int} (h : permB xs = false) : signRes xs = 0 := by unfold signRes; rw [if_neg (by rw [h]; simp)]
theorem signSum_odd {s c : Int} (h : c % 2 = 1) : signSum (s + c) = - signSum s := by
  unfold signSum
  by_cases h1 : s % 2 = 1
  · rw [if_pos h1, if_neg (by omega)]; rfl
  · rw [if_neg h1, if_pos (by omega)]
theorem signSum_even {s c : Int} (h : ¬ c % 2 = 1) : signSum (s + c) = signSum s := by
  unfold signSum
  by_cases h1 : s % 2 = 1
  · rw [if_pos h1, if_pos (by omega)]
  · rw [if_neg h1, if_neg (by omega)]
theorem signSum_range (s : Int) : -1 ≤ signSum s ∧ signSum s ≤ 1 := by unfold signSum; split <;> omega
theorem invs_range {xs : List Int} (n k : Nat) (h : k < n) : 0 ≤ (invsTo xs n).getD k 0 ∧ (invsTo xs n).getD k 0 ≤ k := by
  rw [invsTo_getD _ _ _ h]
  have := countGt_le (xs.take k) (xs.getD k 0)
  have h2 : (xs.take k).length ≤ k := List.length_take_le _ _
  omega
theorem sum_range {xs : List Int} (n k : Nat) (h : k ≤ n) (hn : n ≤ 12) : 0 ≤ sumTo (invsTo xs n) k ∧ sumTo (invsTo xs n) k ≤ 12 * k := by
  induction k with
  | zero => simp [sumTo]
  | succ k ih =>
    have := ih (by omega)
    have h2 := invs_range (xs := xs) n k (by omega)
    rw [sumTo]
    omega

end Go.Proofs.Yteimfdpkodcfbaa

/- The law on append of ints to an owned slice from another owned slice, nil or not, as an operation, in a list of operations, and as a step of a drawn region. No conditions beyond sizes. -/
namespace Go.Proofs.Yteimfdpkodcfbaa
open Go.RowKit
set_option linter.unusedVariables false

theorem Own.srcs {w : World} {B g c n : Nat} {ys : List Int} (h : Own w B (.slice (some ⟨g, 0, none⟩) n c) ys) : ∀ (j : Nat) (u : Value), (ys.map (Value.int .i64))[j]? = some u → w.cell? ((⟨g, 0, none⟩ : Addr).add j) = some u := by
  obtain ⟨_, _, _, _, _, hc, _⟩ := Own_cells h
  exact Sits.src (n := 0) (c := 0) (fun i hi => by rw [Nat.zero_add]; exact hc i hi)

theorem wp_append_none {P : Program} {w : World} {o : Oper} {a : Act} {K : Act → World → Prop} {Q : Exit → Act → World → Prop} (s x : Operand) (t : TypeId)
    (ho : o.op = .call { callee := .builtin .append, args := #[s, x], argTypes := #[t, t] }) (base : Nat) (e : TypeId) (i : TypeInfo) (size : Nat) (ht : P.underlying t = some (.slice e)) (hi : P.info? e = some i)
    (v : Value) (n : Nat) (xs : List Value) (hs : a.eval s = v) (hown : w.ownsRow base e size v n xs) (hx : a.eval x = .slice none 0 0) (h : K (a.put o.dst v) w) : Oper.wp P o a w K Q := by
  have hrun := run_append_owned_none (P := P) (w := w) base t o.type e i size ht hi v n xs hown
  unfold Oper.wp
  simp [execOp, ho, resolve, invoke, builtin, hs, hx, hrun, Result.andThen]
  exact h

theorem wp_append_src {P : Program} (w : World) {o : Oper} {a : Act} {K : Act → World → Prop} {Q : Exit → Act → World → Prop} (s x : Operand) (t : TypeId)
    (ho : o.op = .call { callee := .builtin .append, args := #[s, x], argTypes := #[t, t] }) (base : Nat) (i : TypeInfo) (ht : P.underlying t = some (.slice 3)) (hi : P.info? 3 = some i) (hz : i.zero = some (.int .i64 0)) (hsize : i.size = 1) (hby : i.bytes = 8)
    (v : Value) (xs : List Int) (hs : a.eval s = v) (hown : Own w base v xs) (u : Value) (B : Nat) (ys : List Int) (hx : a.eval x = u) (hu : Own w B u ys) (hl : xs.length + ys.length ≤ 1048576) (hbase : base ≤ w.heap.size)
    (h : ∀ (v' : Value) (w' : World), Own w' base v' (xs ++ ys) → w.grownBy w' v.ownBlock → K (a.put o.dst v') w') : Oper.wp P o a w K Q := by
  rcases hu.form with ⟨rfl, rfl⟩ | ⟨g, cap, rfl, _, _, h1, h2, _, _⟩
  · exact wp_append_none s x t ho base 3 i 1 ht hi v xs.length _ hs hown hx (h v w (by rw [List.append_nil]; exact hown) (World.grownBy.refl _ _))
  · refine wp_append_own w s x t ho base 3 i (.int .i64 0) 1 8 ht hi hz hsize hby rfl (by decide) v xs.length _ hs hown ⟨g, 0, none⟩ ys.length cap (ys.map (Value.int .i64)) hx (by simp) hu.srcs (ints_one ys) (by unfold maxLen; omega) (by omega) hbase ?_
    intro v' w' h3 h4 _
    refine h v' w' ?_ h4
    unfold Own
    rw [List.length_append, List.map_append]
    exact h3

theorem step_append_src {P : Program} (w : World) {ops : Array Oper} {o : Oper} {a : Act} {K : Act → World → Prop} {Q : Exit → Act → World → Prop} {E : Prop} (hgd : o.guard = none) (s x : Operand) (t : TypeId)
    (ho : o.op = .call { callee := .builtin .append, args := #[s, x], argTypes := #[t, t] }) (base : Nat) (i : TypeInfo) (ht : P.underlying t = some (.slice 3)) (hi : P.info? 3 = some i) (hz : i.zero = some (.int .i64 0)) (hsize : i.size = 1) (hby : i.bytes = 8)
    (v : Value) (xs : List Int) (hs : a.eval s = v) (hown : Own w base v xs) (u : Value) (B : Nat) (ys : List Int) (hx : a.eval x = u) (hu : Own w B u ys) (hl : xs.length + ys.length ≤ 1048576) (hbase : base ≤ w.heap.size)
    (h : ∀ (v' : Value) (w' : World), Own w' base v' (xs ++ ys) → w.grownBy w' v.ownBlock → K (a.put o.dst v') w') : if Region.wanted o (yielded ops a.tmps) = true then Oper.wp P o a w K Q else E := by
  rw [if_pos (by simp [Region.wanted, hgd])]
  exact wp_append_src w s x t ho base i ht hi hz hsize hby v xs hs hown u B ys hx hu hl hbase h

theorem wpList_append_src {P : Program} (w : World) {ops : Array Oper} {rest : List Oper} {o : Oper} {a : Act} {Q : Exit → Act → World → Prop} (hgd : o.guard = none) (s x : Operand) (t : TypeId)
    (ho : o.op = .call { callee := .builtin .append, args := #[s, x], argTypes := #[t, t] }) (base : Nat) (i : TypeInfo) (ht : P.underlying t = some (.slice 3)) (hi : P.info? 3 = some i) (hz : i.zero = some (.int .i64 0)) (hsize : i.size = 1) (hby : i.bytes = 8)
    (v : Value) (xs : List Int) (hs : a.eval s = v) (hown : Own w base v xs) (u : Value) (B : Nat) (ys : List Int) (hx : a.eval x = u) (hu : Own w B u ys) (hl : xs.length + ys.length ≤ 1048576) (hbase : base ≤ w.heap.size)
    (h : ∀ (v' : Value) (w' : World), Own w' base v' (xs ++ ys) → w.grownBy w' v.ownBlock → wpList P ops Q rest (a.put o.dst v') w') : wpList P ops Q (o :: rest) a w := by
  refine wpList_plain hgd fun K hK => ?_
  exact wp_append_src w s x t ho base i ht hi hz hsize hby v xs hs hown u B ys hx hu hl hbase (fun v' w' h1 h2 => hK _ _ (h v' w' h1 h2))
end Go.Proofs.Yteimfdpkodcfbaa

/- Slices of slices of ints that read as lists of lists, and what append does to them. No conditions. -/
namespace Go.Proofs.Yteimfdpkodcfbaa
open Go.RowKit
set_option linter.unusedVariables false

theorem Try.infoL : (Try.prog.info? 22).map (fun i => (i.zero, i.size, i.bytes)) = some (some (.slice none 0 0), 1, 24) := by kernel_rfl

/-- v is a slice of slices, its own row from block base on, whose elements are owned slices that read as L. -/
def Lists (w : World) (base : Nat) (v : Value) (L : List (List Int)) : Prop :=
  ∃ vs : List Value, vs.length = L.length ∧ w.ownsRow base 22 1 v L.length vs ∧ ∀ i (h1 : i < L.length) (h2 : i < vs.length), Own w base vs[i] L[i]

theorem ownsRow_below {w w' : World} {base : Nat} {e : TypeId} {size : Nat} {v : Value} {n : Nat} {xs : List Value} (h : w.ownsRow base e size v n xs) (hb : Below w.heap.size w w') : w'.ownsRow base e size v n xs := by
  refine ⟨h.1, ?_⟩
  rcases h.2 with hn | ⟨g, cap, cur, rfl, hg, hgg, rest⟩
  · exact .inl hn
  · refine .inr ⟨g, cap, cur, rfl, hg, ?_, rest⟩
    rw [hb.block g (Array.getElem?_eq_some_iff.1 hgg).1]; exact hgg
theorem ownsRow_mono {w : World} {base base' : Nat} {e : TypeId} {size : Nat} {v : Value} {n : Nat} {xs : List Value} (h : w.ownsRow base e size v n xs) (hb : base' ≤ base) : w.ownsRow base' e size v n xs := by
  refine ⟨h.1, ?_⟩
  rcases h.2 with hn | ⟨g, cap, cur, rfl, hg, rest⟩
  · exact .inl hn
  · exact .inr ⟨g, cap, cur, rfl, Nat.le_trans hb hg, rest⟩
theorem Lists.below {w w' : World} {base : Nat} {v : Value} {L : List (List Int)} (h : Lists w base v L) (hb : Below w.heap.size w w') : Lists w' base v L := by
  obtain ⟨vs, h1, h2, h3⟩ := h
  exact ⟨vs, h1, ownsRow_below h2 hb, fun i a b => (h3 i a b).below hb⟩
theorem Lists.mono {w : World} {base base' : Nat} {v : Value} {L : List (List Int)} (h : Lists w base v L) (hb : base' ≤ base) : Lists w base' v L := by
  obtain ⟨vs, h1, h2, h3⟩ := h
  exact ⟨vs, h1, ownsRow_mono h2 hb, fun i a b => (h3 i a b).mono hb⟩
theorem Lists.nil (w : World) (base : Nat) : Lists w base (.slice none 0 0) [] := ⟨[], rfl, World.ownsRow_nil _ _ _ _, fun i h => absurd h (by simp)⟩

/-- The shape of such a slice: nil and empty, or a row each of whose cells holds an owned slice. -/
theorem Lists.form {w : World} {base : Nat} {v : Value} {L : List (List Int)} (h : Lists w base v L) :
    (v = .slice none 0 0 ∧ L = []) ∨ ∃ g cap, v = .slice (some ⟨g, 0, none⟩) L.length cap ∧ base ≤ g ∧ g < w.heap.size ∧ L.length ≤ cap ∧ cap ≤ 9223372036854775807 ∧
      ∀ i (hi : i < L.length), ∃ u, w.cell? ⟨g, i, none⟩ = some u ∧ Own w base u L[i] := by
  obtain ⟨vs, hl, h2, h3⟩ := h
  have h2' := h2
  rcases h2.2 with ⟨rfl, hn⟩ | ⟨g, cap, cur, rfl, hg, hgg, h4, h5, h6, h7⟩
  · exact .inl ⟨rfl, List.eq_nil_of_length_eq_zero hn⟩
  · refine .inr ⟨g, cap, rfl, hg, (Array.getElem?_eq_some_iff.1 hgg).1, h4, by unfold maxLen at h5; omega, fun i hi => ?_⟩
    have hi2 : i < vs.length := by omega
    refine ⟨vs[i], ?_, h3 i hi hi2⟩
    have := World.ownsRow.cellAt h2' i (by omega)
    rw [this, List.getElem?_eq_getElem hi2]

/-- One slice more at the end. -/
theorem Lists.snoc {w w' : World} {base : Nat} {v v' u : Value} {L : List (List Int)} {l : List Int} (h : Lists w base v L) (hu : Own w base u l) (hg : w.grownBy w' v.ownBlock)
    (hrow : ∀ vs : List Value, vs.length = L.length → w.ownsRow base 22 1 v L.length vs → w'.ownsRow base 22 1 v' (L.length + 1) (vs ++ [u]))
    (hne : ∀ x : Value, ∀ xs : List Int, Own w base x xs → Own w' base x xs) : Lists w' base v' (L ++ [l]) := by
  obtain ⟨vs, hl, h2, h3⟩ := h
  refine ⟨vs ++ [u], by simp [hl], by rw [List.length_append]; exact hrow vs hl h2, fun i a b => ?_⟩
  by_cases hi : i < L.length
  · rw [List.getElem_append_left (by omega), List.getElem_append_left hi]
    exact hne _ _ (h3 i hi (by omega))
  · have e1 : i = vs.length := by simp at b; simp at a; omega
    have e2 : i = L.length := by omega
    rw [List.getElem_append_right (by omega), List.getElem_append_right (by omega)]
    simp only [e1, Nat.sub_self, hl]
    simpa using hne _ _ hu

/-- An owned row of ints stays as it was while a row of another element type grows. -/
theorem Own.kept_type {w w' : World} {base b0 : Nat} {x v : Value} {xs : List Int} {n : Nat} {vs : List Value} {T : TypeId} (h : Own w base x xs) (hT : T ≠ 3) (hv : w.ownsRow b0 T 1 v n vs) (hg : w.grownBy w' v.ownBlock) : Own w' base x xs := by
  refine Own.kept h hg ?_
  rcases h.2 with ⟨rfl, _⟩ | ⟨g, cap, cur, rfl, _, hgg, _⟩
  · exact .inl rfl
  · right
    rcases hv.2 with ⟨rfl, _⟩ | ⟨g', cap', cur', rfl, _, hgg', _⟩
    · simp [Value.ownBlock]
    · simp only [Value.ownBlock, ne_eq, Option.some.injEq]
      intro e
      rw [e, hgg'] at hgg
      simp at hgg
      exact hT hgg.2
end Go.Proofs.Yteimfdpkodcfbaa

/- Contracts: l1Same and raPlace. Conditions: the slices read as lists. -/
namespace Go.Proofs.Yteimfdpkodcfbaa
open Go.RowKit
set_option linter.unusedVariables false

theorem l1Same_any (v u : Value) (xs ys : List Int) (w : World) (h : Reads w v xs) (h' : Reads w u ys) :
    Calls Try.prog 111 #[v, u] w fun e w' => e = .returned (.bool (decide (xs = ys))) ∧ Below w.heap.size w w' := by
  obtain ⟨ao, c, rfl, hc1, hm, h⟩ := h
  obtain ⟨bo, d, rfl, hd1, hn, h'⟩ := h'
  unfold maxLen at hm hn
  by_cases hl : xs.length = ys.length
  · rcases h with h | ⟨b, off, rfl, hb, hc⟩
    · obtain rfl : ys = [] := List.eq_nil_of_length_eq_zero (by rw [← hl, h]; rfl)
      subst h
      go_enter Try.func111, Try.ntmps111
      go_wp2
      refine wp_loop_rounds 1 ?_
      rw [rounds_succ]
      go_wp2
      go_ret
      exact ⟨by simp, Below.refl _ _⟩
    · rcases h' with h' | ⟨b', off', rfl, hb', hc'⟩
      · obtain rfl : xs = [] := List.eq_nil_of_length_eq_zero (by rw [hl, h']; rfl)
        subst h'
        go_enter Try.func111, Try.ntmps111
        go_wp2
        refine wp_loop_rounds 1 ?_
        rw [rounds_succ]
        go_wp2
        go_ret
        exact ⟨by simp, Below.refl _ _⟩
      · have hne : ((xs.length : Int) != (ys.length : Int)) = false := by simp [hl]
        have HL := hid hl
        have hl1 : xs.length ≤ ys.length := by omega
        have hl2 : ys.length ≤ xs.length := by omega
        clear hl
        go_enter Try.func111, Try.ntmps111
        go_wp2
        go_loopw [5, 13] (fun _ i wr => ∃ k : Nat, k ≤ xs.length ∧ i = .int .i64 k ∧ xs.take k = ys.take k ∧ Below w.heap.size w wr) (fun _ i _ => xs.length - (intOf i).toNat)
        case atStart => exact ⟨0, Nat.zero_le _, rfl, rfl, Below.refl _ _⟩
        case round =>
          obtain ⟨k, hk, rfl, htake, hbel⟩ := hrel
          have HT := hid htake
          clear htake
          by_cases hlt : k < xs.length
          · have hlt' : k < ys.length := by omega
            have hcx : wr.cell? ⟨b, off + k, none⟩ = some (.int .i64 xs[k]) := by
              have := (hbel.cell (p := ⟨b, off + k, none⟩) (by exact hb)).trans (hc k hlt)
              simpa [List.getD_eq_getElem?_getD, hlt] using this
            have hcy : wr.cell? ⟨b', off' + k, none⟩ = some (.int .i64 ys[k]) := by
              have := (hbel.cell (p := ⟨b', off' + k, none⟩) (by exact hb')).trans (hc' k hlt')
              simpa [List.getD_eq_getElem?_getD, hlt'] using this
            have hk0 : (0 : Int) ≤ (k : Int) := by omega
            have hk1 : (k : Int) < (xs.length : Int) := by omega
            have hk2 : (k : Int) < (ys.length : Int) := by omega
            clear hc hc'
            by_cases he : xs[k] = ys[k]
            · have hbb : (xs[k] != ys[k]) = false := by simp [he]
              have HE := hid he
              clear he
              go_wp2
              go_quiet (fail)
              go_wp2
              go_roundw
              case rel => exact ⟨k + 1, by omega, by go_num, take_succ_eq hlt hlt' HT.out HE.out, below_drewN hbel _⟩
              case measure => simp [intOf]; omega
            · have hbb : (xs[k] != ys[k]) = true := by simp [he]
              have hfin : decide (xs = ys) = false := by
                apply decide_eq_false
                intro e
                subst e
                exact he rfl
              clear he
              have HF := hid hfin
              clear hfin
              go_wp2
              go_quiet (fail)
              go_wp2
              go_ret
              exact ⟨ret_bool HF.out.symm, below_drewN hbel _⟩
          · have HF : Hid (decide (xs = ys) = true) := by
              show decide (xs = ys) = true
              apply decide_eq_true
              have := HT.out
              rwa [List.take_of_length_le (by omega), List.take_of_length_le (by omega)] at this
            go_wp2
            go_ret
            exact ⟨ret_bool HF.out.symm, hbel⟩
  · have hne : ((xs.length : Int) != (ys.length : Int)) = true := by simp; omega
    have hfin : decide (xs = ys) = false := decide_eq_false (fun e => hl (by rw [e]))
    have HF := hid hfin
    clear h h' hl hfin
    go_enter Try.func111, Try.ntmps111
    go_wp2
    go_ret
    exact ⟨ret_bool HF.out.symm, Below.refl _ _⟩
/-- the index of a list in a list of lists, or -1 -/
def placeIn (l : List Int) : List (List Int) → Int
  | [] => -1
  | x :: r => if x = l then 0 else (if placeIn l r < 0 then -1 else placeIn l r + 1)
theorem placeIn_found (l : List Int) : ∀ (L : List (List Int)) (k : Nat) (h : k < L.length), (∀ j (hj : j < k), L[j] ≠ l) → L[k] = l → placeIn l L = k
  | x :: r, 0, _, _, h => by rw [placeIn, if_pos (by simpa using h)]; rfl
  | x :: r, k + 1, hk, hno, h => by
    have h0 : ¬ x = l := by simpa using hno 0 (by omega)
    have ih := placeIn_found l r k (by simpa using hk) (fun j hj => by simpa using hno (j + 1) (by omega)) (by simpa using h)
    rw [placeIn, if_neg h0, ih, if_neg (by omega)]
    rfl
theorem placeIn_none (l : List Int) : ∀ (L : List (List Int)), (∀ j (hj : j < L.length), L[j] ≠ l) → placeIn l L = -1
  | [], _ => rfl
  | x :: r, hno => by
    have h0 : ¬ x = l := hno 0 (by simp)
    have ih := placeIn_none l r (fun j hj => hno (j + 1) (by simpa using hj))
    rw [placeIn, if_neg h0, ih, if_pos (by omega)]
theorem raPlace_any (v u : Value) (L : List (List Int)) (l : List Int) (base : Nat) (w : World) (h : Lists w base v L) (h' : Reads w u l) :
    Calls Try.prog 147 #[v, u] w fun e w' => e = .returned (.int .i64 (placeIn l L)) ∧ Below w.heap.size w w' := by
  have HU := hid h'
  have HV := hid h
  rcases h.form with ⟨rfl, rfl⟩ | ⟨g, cap, rfl, _, hg, hc1, hm, hc⟩
  · go_enter Try.func147, Try.ntmps147
    go_wp2_with fail
    refine wp_loop_rounds 1 ?_
    rw [rounds_succ]
    go_wp2
    go_ret
    exact ⟨rfl, Below.refl _ _⟩
  · have HC := hid hc
    clear hc h h'
    go_enter Try.func147, Try.ntmps147
    go_wp2_with fail
    go_loopw [5, 6, 9] (fun _ _ i wr => ∃ k : Nat, k ≤ L.length ∧ i = .int .i64 k ∧ (∀ j (hj : j < L.length), j < k → L[j] ≠ l) ∧ Below w.heap.size w wr) (fun _ _ i _ => L.length - (intOf i).toNat)
    case atStart => exact ⟨0, Nat.zero_le _, rfl, fun j _ h => by omega, Below.refl _ _⟩
    case round =>
      obtain ⟨k, hk, rfl, hno, hbel⟩ := hrel
      have HNO := hid hno
      have HB := hid hbel
      clear hno
      by_cases hlt : k < L.length
      · obtain ⟨z, hz, hown⟩ := HC.out k hlt
        have hcx : wr.cell? ⟨g, k, none⟩ = some z := (hbel.cell (by exact hg)).trans hz
        have HZ := hid (hown.reads.below hbel)
        have HUU := hid (HU.out.below hbel)
        obtain ⟨zl, hzl⟩ : ∃ zl, zl = L[k] := ⟨_, rfl⟩
        rw [← hzl] at HZ
        have HZL := hid hzl
        clear hz hown hbel hzl
        by_cases he : zl = l
        · have hd : decide (zl = l) = true := by simp [he]
          have HF : Hid (placeIn l L = k) := hid (placeIn_found l L k hlt (fun j hj => HNO.out j (by omega) hj) (by rw [← HZL.out, he]))
          clear he
          go_wp2_with (go_at_call 111; refine (l1Same_any _ _ zl l _ HZ.out HUU.out).mono ?_; rintro e w2 ⟨rfl, hb2⟩)
          go_ret
          exact ⟨ret_int HF.out.symm, Below_chain HB.out (by assumption)⟩
        · have hd : decide (zl = l) = false := by simp [he]
          have HNE := hid he
          clear he
          go_wp2_with (go_at_call 111; refine (l1Same_any _ _ zl l _ HZ.out HUU.out).mono ?_; rintro e w2 ⟨rfl, hb2⟩; have HB2 := hid (Below_chain HB.out hb2))
          go_roundw
          case rel => exact ⟨k + 1, by omega, by go_num, fun j hj h1 => by
            by_cases e : j = k
            · subst e; rw [← HZL.out]; exact HNE.out
            · exact HNO.out j hj (by omega), HB2.out⟩
          case measure => simp [intOf]; omega
      · have HF : Hid (placeIn l L = -1) := hid (placeIn_none l L (fun j hj => HNO.out j hj (by omega)))
        go_wp2_with fail
        go_ret
        exact ⟨ret_int HF.out.symm, HB.out⟩
end Go.Proofs.Yteimfdpkodcfbaa

/- Contracts: isLess, countRelated at isLess, raRank. Conditions: the slice reads as a list, of at most 12 numbers for raRank. -/
namespace Go.Proofs.Yteimfdpkodcfbaa
open Go.RowKit
set_option linter.unusedVariables false

/-- the rank of a list among all orders of its numbers -/
def rankR : List Int → Nat
  | [] => 0
  | x :: t => countLt (x :: t) x * fact t.length + rankR t
theorem countLt_cons (x : Int) (t : List Int) : countLt (x :: t) x = countLt t x := by simp [countLt]
theorem rankR_lt (xs : List Int) : rankR xs < fact xs.length := by
  induction xs with
  | nil => simp [rankR, fact]
  | cons x t ih =>
    have h1 := countLt_le t x
    rw [rankR, countLt_cons]
    have h2 : countLt t x * fact t.length ≤ t.length * fact t.length := Nat.mul_le_mul_right _ h1
    have h3 : fact (x :: t).length = t.length * fact t.length + fact t.length := by
      show (t.length + 1) * fact t.length = _
      rw [Nat.add_mul]; omega
    omega

theorem isLess_any (a b : Int) (w : World) : Calls Try.prog 167 #[.int .i64 a, .int .i64 b] w fun e w' => e = .returned (.bool (decide (a < b))) ∧ w = w' := by
  by_cases h : a < b
  all_goals
    go_enter Try.func167, Try.ntmps167
    go_wp2
    go_ret
    exact ⟨by simp; omega, rfl⟩
theorem countRelated_lt (v : Value) (xs : List Int) (x : Int) (w : World) (h : Sits w v xs) :
    Calls Try.prog 166 #[v, .int .i64 x, .func (.func 167) #[] #[]] w fun e w' => e = .returned (.int .i64 (countLt xs x)) ∧ w = w' := by
  obtain ⟨b, off, c, rfl, hc1, hm, hb, hc⟩ := h
  go_enter Try.func166, Try.ntmps166
  go_wp2
  go_loop [7, 9, 12] (fun n _ i => ∃ k : Nat, k ≤ xs.length ∧ i = .int .i64 k ∧ n = .int .i64 (countLt (xs.take k) x)) (fun _ _ i => xs.length - (intOf i).toNat)
  case atStart => exact ⟨0, Nat.zero_le _, rfl, rfl⟩
  case round =>
    obtain ⟨k, hk, rfl, rfl⟩ := hrel
    by_cases hlt : k < xs.length
    · have hcx := hc k hlt
      clear hc
      have hcl : countLt (xs.take k) x ≤ k := Nat.le_trans (countLt_le _ _) (List.length_take_le _ _)
      by_cases hx : xs[k] < x
      · have hb1 : decide (xs[k] < x) = true := by simpa using hx
        have HC := hid (countLt_yes hlt hx)
        clear hx
        go_wp2_with (go_at_call 167; refine (isLess_any _ _ _).mono ?_; rintro e w' ⟨rfl, rfl⟩)
        go_round
        case rel => exact ⟨k + 1, by omega, by go_num, by rw [HC.out]; go_num⟩
        case measure => simp [intOf]; omega
      · have hb1 : decide (xs[k] < x) = false := by simpa using hx
        have HC := hid (countLt_no hlt hx)
        clear hx
        go_wp2_with (go_at_call 167; refine (isLess_any _ _ _).mono ?_; rintro e w' ⟨rfl, rfl⟩)
        go_round
        case rel => exact ⟨k + 1, by omega, by go_num, by rw [HC.out]⟩
        case measure => simp [intOf]; omega
    · obtain rfl : k = xs.length := by omega
      go_wp2
      go_ret
      exact ⟨rfl, rfl⟩
theorem raRank_any (xs : List Int) : ∀ (v : Value) (w : World), xs.length ≤ 12 → Sits w v xs →
    Calls Try.prog 142 #[v] w fun e w' => e = .returned (.int .i64 (rankR xs)) ∧ ∃ q, w' = w.drewN q := by
  induction xs with
  | nil =>
    rintro v w _ ⟨b, off, c, rfl, hc1, hm, hb, hc⟩
    go_enter Try.func142, Try.ntmps142
    go_wp2_with fail
    go_ret
    exact ⟨rfl, 0, rfl⟩
  | cons x t ih =>
    rintro v w hl ⟨b, off, c, rfl, hc1, hm, hb, hc⟩
    have HC := hid hc
    have hl1 : t.length ≤ 11 := by simpa using hl
    have hc0 : w.cell? ⟨b, off, none⟩ = some (.int .i64 x) := by
      have h0 := hc 0 (by simp)
      rw [Nat.add_zero] at h0
      exact h0
    have hlen : (x :: t).length = t.length + 1 := rfl
    rw [hlen] at hc1 ⊢
    clear hc hl hlen
    have hne : ((t.length : Int) + 1 == 0) = false := by simp; omega
    have hcl := countLt_le (x :: t) x
    have hf1 := fact_pos t.length (by omega)
    have hf2 := fact_le t.length (by omega)
    go_enter Try.func142, Try.ntmps142
    go_wp2_with fail
    go_loop [3, 5, 11] (fun n _ i => ∃ k : Nat, k ≤ t.length + 1 ∧ i = .int .i64 k ∧ n = .int .i64 (countLt ((x :: t).take k) x)) (fun _ _ i => t.length + 1 - (intOf i).toNat)
    case atStart => exact ⟨0, Nat.zero_le _, rfl, rfl⟩
    case round =>
      obtain ⟨k, hk, rfl, rfl⟩ := hrel
      by_cases hlt : k < t.length + 1
      · have hcx : w.cell? ⟨b, off + k, none⟩ = some (.int .i64 (x :: t)[k]) := HC.out k hlt
        have hcl2 : countLt ((x :: t).take k) x ≤ k := Nat.le_trans (countLt_le _ _) (List.length_take_le _ _)
        by_cases hx : (x :: t)[k] < x
        · have HY := hid (countLt_yes (show k < (x :: t).length from hlt) hx)
          obtain ⟨y, hy⟩ : ∃ y, y = (x :: t)[k] := ⟨_, rfl⟩
          rw [← hy] at hcx hx
          clear hy
          obtain ⟨m, hm2⟩ : ∃ m, m = countLt ((x :: t).take k) x := ⟨_, rfl⟩
          rw [← hm2] at hcl2 ⊢
          have HM := hid hm2
          clear hm2
          by_cases hk0 : k = 0
          · subst hk0
            rw [Nat.add_zero] at hcx
            have e : y = x := by
              rw [hc0] at hcx
              simpa using hcx.symm
            exact absurd hx (by rw [e]; omega)
          · go_wp2_with fail
            go_round
            case rel => exact ⟨k + 1, by omega, by go_num, by rw [HY.out, ← HM.out]; go_num⟩
            case measure => simp [intOf]; omega
        · have HY := hid (countLt_no (show k < (x :: t).length from hlt) hx)
          obtain ⟨y, hy⟩ : ∃ y, y = (x :: t)[k] := ⟨_, rfl⟩
          rw [← hy] at hcx hx
          clear hy
          obtain ⟨m, hm2⟩ : ∃ m, m = countLt ((x :: t).take k) x := ⟨_, rfl⟩
          rw [← hm2] at hcl2 ⊢
          have HM := hid hm2
          clear hm2
          by_cases hk0 : k = 0
          · subst hk0
            rw [Nat.add_zero] at hcx
            have e : y = x := by
              rw [hc0] at hcx
              simpa using hcx.symm
            subst e
            go_wp2_with fail
            go_round
            case rel => exact ⟨0 + 1, by omega, by go_num, by rw [HY.out, ← HM.out]⟩
            case measure => simp [intOf]
          · go_wp2_with fail
            go_round
            case rel => exact ⟨k + 1, by omega, by go_num, by rw [HY.out, ← HM.out]⟩
            case measure => simp [intOf]; omega
      · obtain rfl : k = t.length + 1 := by omega
        have hA : (x :: t).take (t.length + 1) = x :: t := List.take_length (l := x :: t)
        rw [hA]
        obtain ⟨A, hAd⟩ : ∃ A, A = countLt (x :: t) x := ⟨_, rfl⟩
        have hr := rankR_lt (x :: t)
        have HR : Hid (rankR (x :: t) = A * fact t.length + rankR t) := by
          show rankR (x :: t) = A * fact t.length + rankR t
          rw [rankR, hAd]
        have hfx := fact_le (x :: t).length (by simp; omega)
        rw [HR.out] at hr
        have hmul : (A : Int) * (fact t.length : Int) ≤ 479001600 := cast_mul_le (c := 479001600) (by omega)
        have hmul0 : 0 ≤ (A : Int) * (fact t.length : Int) := Int.mul_nonneg (by omega) (by omega)
        have hsum : (A : Int) * (fact t.length : Int) + (rankR t : Int) ≤ 479001600 := by
          have : A * fact t.length + rankR t ≤ 479001600 := by omega
          have h2 := Int.ofNat_le.2 this
          rw [Int.natCast_add, Int.natCast_mul] at h2
          exact h2
        rw [← hAd]
        have HAA := hid hAd
        clear hAd hr hfx hA hcl
        have p1 : IntKind.i64.wrap ((t.length : Int) + 1 - 1) = (t.length : Int) := by rw [IntWalk.i64_in _ (by omega)]; omega
        have p2 : IntKind.i64.wrap (t.length : Int) = (t.length : Int) := IntWalk.i64_in _ (by omega)
        have p3 : IntKind.i64.wrap ((A : Int) * (fact t.length : Int)) = (A : Int) * (fact t.length : Int) := IntWalk.i64_in _ (by omega)
        have p4 : IntKind.i64.wrap ((A : Int) * (fact t.length : Int) + (rankR t : Int)) = (A : Int) * (fact t.length : Int) + (rankR t : Int) := IntWalk.i64_in _ (by omega)
        by_cases hcap : c = 1
        · have ht : t = [] := List.eq_nil_of_length_eq_zero (by omega)
          subst ht
          subst hcap
          have hS : Sits w (.slice (some ⟨b, off, none⟩) 0 0) [] := ⟨b, off, 0, rfl, Nat.le_refl _, by omega, hb, fun i hi => absurd hi (by simp)⟩
          have HS := hid hS
          have hf0 : ∀ w, Calls Try.prog 101 #[.int .i64 0] w fun e w' => e = .returned (.int .i64 1) ∧ w = w' := fun w => raFactorial_any 0 w (by omega)
          have HF0 := hid hf0
          have HR2 : Hid (rankR [x] = A) := by
            show rankR [x] = A
            rw [HR.out]; simp [fact, rankR]
          have hA12 : A ≤ 1 := by
            have h1 := countLt_le [x] x
            rw [← HAA.out] at h1
            simpa using h1
          have p5 : IntKind.i64.wrap (A : Int) = (A : Int) := IntWalk.i64_in _ (by omega)
          clear hS hf0 p1 p2 p3 p4 hmul hmul0 hsum
          go_wp2_with fail
          go_quiet ((first | (go_at_call 101; exact Calls.quiet_of_same ((HF0.out _).mono fun _ _ h => ⟨h.1, h.2.symm⟩)) | (go_at_call 142; exact Calls.quiet_of (ih _ _ (by omega) (HS.out.below (below_drewN (Below.refl _ _) _))))))
          go_wp2_with fail
          go_ret
          exact ⟨ret_int (by rw [HR2.out]; simp [rankR]; exact IntWalk.wrap64_in _ ⟨by omega, by omega⟩), nq, rfl⟩
        · have hS : Sits w (.slice (some ⟨b, off + 1, none⟩) t.length (c - 1)) t := by
            have := Sits_drop (xs := x :: t) (w := w) (off := off) 1 (by simp) hc1 hm hb HC.out
            simpa using this
          have HS := hid hS
          clear hS
          go_wp2_with fail
          go_quiet ((first | (go_at_call 101; exact Calls.quiet_of_same ((raFactorial_any t.length _ (by omega)).mono fun _ _ h => ⟨h.1, h.2.symm⟩)) | (go_at_call 142; exact Calls.quiet_of (ih _ _ (by omega) (HS.out.below (below_drewN (Below.refl _ _) _))))))
          go_wp2_with fail
          go_ret
          exact ⟨ret_int (by rw [HR.out, Int.natCast_add, Int.natCast_mul]), nq, rfl⟩
end Go.Proofs.Yteimfdpkodcfbaa

/- Contract: raAt, the order with a rank of some numbers. Conditions: at most 12 numbers, the rank below the factorial. -/
namespace Go.Proofs.Yteimfdpkodcfbaa
open Go.RowKit
set_option linter.unusedVariables false
set_option maxRecDepth 4000

/-- the order with the rank r of m numbers -/
def atR : Nat → List Int → Nat → List Int
  | 0, _, _ => []
  | m + 1, xs, r => xs.getD (r / fact m) 0 :: atR m (xs.eraseIdx (r / fact m)) (r % fact m)
theorem atR_length (m : Nat) : ∀ (xs : List Int) (r : Nat), (atR m xs r).length = m := by
  induction m with
  | zero => intro xs r; rfl
  | succ m ih => intro xs r; rw [atR, List.length_cons, ih]
theorem at_index {m r : Nat} (h : r < fact (m + 1)) (hm : m < 12) : r / fact m < m + 1 ∧ r % fact m < fact m := by
  have hp := fact_pos m (by omega)
  exact ⟨Nat.div_lt_of_lt_mul (by rw [fact] at h; rw [Nat.mul_comm]; exact h), Nat.mod_lt _ (by omega)⟩

theorem Reads.sits {w : World} {v : Value} {xs : List Int} (h : Reads w v xs) (hx : 0 < xs.length) : Sits w v xs := by
  obtain ⟨ao, c, rfl, hc1, hm, h⟩ := h.view
  rcases h with h | ⟨b, off, rfl, hb, hc⟩
  · rw [h] at hx; simp at hx
  · exact ⟨b, off, c, rfl, hc1, hm, hb, hc⟩
theorem Own.lit1 (w : World) (x : Int) : Own (w.alloc (.cells #[.int .i64 x] 3)) w.heap.size (.slice (some ⟨w.heap.size, 0, none⟩) 1 1) [x] :=
  World.ownsRow_lit w #[.int .i64 x] 1 (Nat.le_refl _) (by unfold maxLen; omega) rfl
theorem own_low {g n c : Nat} : ∀ k, (Value.slice (some ⟨g, 0, none⟩) n c).ownBlock = some k → g ≤ k := by
  intro k hk
  simp [Value.ownBlock] at hk
  omega
theorem alloc_size_le (w : World) (o : Obj) : w.heap.size ≤ (w.alloc o).heap.size := by simp
end Go.Proofs.Yteimfdpkodcfbaa

/- Contract: raAll, all combinations in order. Conditions: n at most 12, k at most 12. -/
namespace Go.Proofs.Yteimfdpkodcfbaa
open Go.RowKit
set_option linter.unusedVariables false

/-- the lists that begin with f, .., f + m - 1, the rest out of F -/
def outTo (F : Nat → List (List Int)) (f : Nat) : Nat → List (List Int)
  | 0 => []
  | m + 1 => outTo F f m ++ (F (f + m + 1)).map (fun l => ((f + m : Nat) : Int) :: l)
/-- all combinations of the numbers f, .., n - 1 with k elements -/
def allL (n : Nat) : Nat → Nat → List (List Int)
  | 0, _ => [[]]
  | k + 1, f => outTo (allL n k) f (n - f)
theorem binom_sum : ∀ n, n < 14 → ∀ k, k < 14 → binom n k ≤ 2000 := by decide
theorem allL_len (n : Nat) (hn : n ≤ 12) (k : Nat) : ∀ f, k ≤ 12 → (allL n k f).length = binom (n - f) k := by
  induction k with
  | zero => intro f _; cases n - f <;> simp [allL, binom]
  | succ k ih =>
    intro f hk
    rw [allL]
    have : ∀ m, m ≤ n - f → (outTo (allL n k) f m).length + binom (n - f - m) (k + 1) = binom (n - f) (k + 1) := by
      intro m
      induction m with
      | zero => intro _; simp [outTo]
      | succ m ihm =>
        intro hm
        have h1 := ihm (by omega)
        rw [outTo, List.length_append, List.length_map, ih _ (by omega)]
        have e1 : n - f - m = (n - (f + m + 1)) + 1 := by omega
        have e2 : n - f - (m + 1) = n - (f + m + 1) := by omega
        rw [e1, binom] at h1
        rw [e2]
        omega
    have h2 := this (n - f) (Nat.le_refl _)
    have h3 : binom (n - f - (n - f)) (k + 1) = 0 := by rw [Nat.sub_self]; rfl
    omega
theorem allL_bound (n : Nat) (hn : n ≤ 12) (k f : Nat) (hk : k ≤ 12) : (allL n k f).length ≤ 2000 := by
  rw [allL_len n hn k f hk]
  exact binom_sum _ (by omega) _ (by omega)
theorem outTo_bound (n : Nat) (hn : n ≤ 12) (k f m : Nat) (hk : k < 12) (hm : m ≤ 12) : (outTo (allL n k) f m).length ≤ m * 2000 := by
  induction m with
  | zero => simp [outTo]
  | succ m ih =>
    rw [outTo, List.length_append, List.length_map]
    have := ih (by omega)
    have := allL_bound n hn k (f + m + 1) (by omega)
    omega
theorem allL_elem (n k : Nat) : ∀ f, ∀ l ∈ allL n k f, l.length = k := by
  induction k with
  | zero => intro f l h; simp [allL] at h; rw [h]; rfl
  | succ k ih =>
    intro f
    rw [allL]
    generalize n - f = m
    induction m with
    | zero => intro l h; simp [outTo] at h
    | succ m ihm =>
      intro l h
      rw [outTo, List.mem_append] at h
      rcases h with h | h
      · exact ihm l h
      · obtain ⟨t, ht, rfl⟩ := List.mem_map.1 h
        rw [List.length_cons, ih _ t ht]

theorem Lists_push {w w' : World} {base : Nat} {v v' u : Value} {L : List (List Int)} {l : List Int} {vs : List Value} (hl : vs.length = L.length) (h2 : w.ownsRow base 22 1 v L.length vs)
    (h3 : ∀ i (h1 : i < L.length) (h2 : i < vs.length), Own w base vs[i] L[i]) (hu : Own w base u l) (hrow : w'.ownsRow base 22 1 v' (L.length + 1) (vs ++ [u])) (hg : w.grownBy w' v.ownBlock) : Lists w' base v' (L ++ [l]) := by
  have hk : ∀ x : Value, ∀ xs : List Int, Own w base x xs → Own w' base x xs := fun x xs hx => Own.kept_type hx (T := 22) (by decide) h2 hg
  refine ⟨vs ++ [u], by simp [hl], by rw [List.length_append]; exact hrow, fun i a b => ?_⟩
  by_cases hi : i < L.length
  · rw [List.getElem_append_left (by omega), List.getElem_append_left hi]
    exact hk _ _ (h3 i hi (by omega))
  · have e1 : i = vs.length := by simp at b; simp at a; omega
    have e2 : i = L.length := by omega
    rw [List.getElem_append_right (by omega), List.getElem_append_right (by omega)]
    simp only [e1, Nat.sub_self, hl]
    simpa using hk _ _ hu
theorem Own.one {w : World} {base : Nat} {v : Value} {xs : List Int} (h : Own w base v xs) : ∀ u ∈ [v], u.oneCell' = true := by
  intro u hu
  simp at hu
  subst hu
  rcases h.form with ⟨rfl, _⟩ | ⟨g, cap, rfl, _⟩ <;> rfl
theorem new_cellV {u z : Value} {w : World} {T : TypeId} (j : Nat) (hj : [z][j]? = some u) : (w.alloc (.cells #[z] T)).cell? ((⟨w.heap.size, 0, none⟩ : Addr).add j) = some u := by
  match j, hj with
  | 0, hj => simp at hj; subst hj; simp [Addr.add]
theorem Own.shape {w : World} {base : Nat} {v : Value} {xs : List Int} (h : Own w base v xs) (hx : 0 < xs.length) : ∃ g n cap, v = .slice (some ⟨g, 0, none⟩) n cap := by
  rcases h.form with ⟨_, rfl⟩ | ⟨g, cap, rfl, _⟩
  · simp at hx
  · exact ⟨g, _, cap, rfl⟩
theorem size_alloc2 (w : World) (o : Obj) : w.heap.size ≤ (w.alloc o).heap.size := by simp
theorem wpList_append_lies {P : Program} (w : World) {ops : Array Oper} {rest : List Oper} {o : Oper} {a : Act} {Q : Exit → Act → World → Prop} (hgd : o.guard = none) (s x : Operand) (t : TypeId)
    (ho : o.op = .call { callee := .builtin .append, args := #[s, x], argTypes := #[t, t] }) (base : Nat) (e : TypeId) (i : TypeInfo) (z : Value) (size bytes : Nat) (ht : P.underlying t = some (.slice e)) (hi : P.info? e = some i)
    (hz : i.zero = some z) (hsize : i.size = size) (hby : i.bytes = bytes) (hzs : z.cells.size = size) (hsz : 0 < size) (v : Value) (n : Nat) (xs : List Value) (hs : a.eval s = v) (hown : w.ownsRow base e size v n xs) (ad : Addr)
    (m c : Nat) (news : List Value) (hx : a.eval x = .slice (some ad) m c) (hl : news.length = m * size) (hnews : ∀ (j : Nat) (u : Value), news[j]? = some u → w.cell? (ad.add j) = some u) (h1 : ∀ (u : Value), u ∈ news → u.oneCell' = true)
    (hm : 0 < m) (h63 : n + m ≤ maxLen) (hbytes : (n + m) * bytes ≤ 140737488355328) (hbase : base ≤ w.heap.size)
    (h : ∀ (g cap : Nat) (w' : World), w'.ownsRow base e size (.slice (some ⟨g, 0, none⟩) (n + m) cap) (n + m) (xs ++ news) → w.grownBy w' v.ownBlock → v.ownBlock = some g ∨ g = w.heap.size → wpList P ops Q rest (a.put o.dst (.slice (some ⟨g, 0, none⟩) (n + m) cap)) w') :
    wpList P ops Q (o :: rest) a w := by
  refine wpList_plain hgd fun K hK => ?_
  exact wp_append_lies w s x t ho base e i z size bytes ht hi hz hsize hby hzs hsz v n xs hs hown ad m c news hx hl hnews h1 hm h63 hbytes hbase w.heap.size rfl (fun g cap w' a1 a2 a3 _ => hK _ _ (h g cap w' a1 a2 a3))
theorem Lists_kept {w w' : World} {base b0 g n c k : Nat} {ov : Value} {vs : List Value} {L : List (List Int)} (h : Lists w base (.slice (some ⟨g, 0, none⟩) n c) L) (hv : w.ownsRow b0 22 1 ov k vs) (hg : w.grownBy w' ov.ownBlock) (hne : ov.ownBlock ≠ some g) :
    Lists w' base (.slice (some ⟨g, 0, none⟩) n c) L := by
  obtain ⟨us, h1, h2, h3⟩ := h
  exact ⟨us, h1, World.ownsRow.kept h2 hg (.inr (by simp only [Value.ownBlock, ne_eq]; exact fun e => hne e.symm)), fun i a b => Own.kept_type (h3 i a b) (T := 22) (by decide) hv hg⟩
def Apart (lo hi : Nat) (v : Value) : Prop := ∀ q, v.ownBlock = some q → q < lo ∨ hi ≤ q
theorem Lists.low {w : World} {base : Nat} {v : Value} {L : List (List Int)} (h : Lists w base v L) : ∀ q, v.ownBlock = some q → base ≤ q ∧ q < w.heap.size := by
  obtain ⟨vs, _, h2, _⟩ := h
  exact World.ownsRow.lt h2
end Go.Proofs.Yteimfdpkodcfbaa

/- Plain facts on bases, their products, digits and ranks. No conditions beyond the stated ones. -/
namespace Go.Proofs.Yteimfdpkodcfbaa
set_option linter.unusedVariables false

def prodTo (xs : List Int) : Nat → Int
  | 0 => 1
  | k + 1 => prodTo xs k * xs.getD k 0
def baseAt (xs : List Int) (i : Nat) : Bool := inB (xs.getD i 0) 2 12
def allBases (xs : List Int) : Bool := allTo xs.length (baseAt xs)
/-- xs are bases -/
def basesB (xs : List Int) : Bool := decide (xs.length ≤ 12) && allBases xs && decide (prodTo xs xs.length ≤ 1000000)

theorem base_range {xs : List Int} (h : allBases xs = true) {i : Nat} (hi : i < xs.length) : 2 ≤ xs.getD i 0 ∧ xs.getD i 0 ≤ 12 :=
  inB_iff.1 ((allTo_iff _ _).1 h i hi)
theorem prodTo_pos {xs : List Int} {k : Nat} (h : allTo k (baseAt xs) = true) : 1 ≤ prodTo xs k := by
  induction k with
  | zero => simp [prodTo]
  | succ k ih =>
    rw [allTo_succ, Bool.and_eq_true] at h
    have h1 := ih h.1
    have h2 := (inB_iff.1 h.2).1
    have := Int.mul_le_mul h1 h2 (by omega) (by omega)
    rw [prodTo]
    omega
theorem prodTo_le {xs : List Int} {k : Nat} (h : allTo k (baseAt xs) = true) : prodTo xs k ≤ 12 ^ k := by
  induction k with
  | zero => simp [prodTo]
  | succ k ih =>
    have hp := prodTo_pos h
    rw [allTo_succ, Bool.and_eq_true] at h
    have h1 := ih h.1
    have h2 := (inB_iff.1 h.2).2
    have h3 := prodTo_pos h.1
    have h4 := (inB_iff.1 h.2).1
    have := Int.mul_le_mul h1 h2 (by omega) (by exact Int.le_trans (by omega) h1)
    rw [prodTo, Int.pow_succ]
    exact this
theorem pow12 : ∀ k, k < 13 → (12 : Int) ^ k ≤ 8916100448256 := by decide
theorem prodTo_bound {xs : List Int} {k : Nat} (h : allTo k (baseAt xs) = true) (hk : k ≤ 12) : prodTo xs k ≤ 8916100448256 := Int.le_trans (prodTo_le h) (pow12 k (by omega))
theorem allTo_mono {n k : Nat} {f : Nat → Bool} (h : allTo n f = true) (hk : k ≤ n) : allTo k f = true := (allTo_iff _ _).2 (fun i hi => (allTo_iff _ _).1 h i (by omega))
theorem prodTo_step {xs : List Int} {k : Nat} (h : allTo (k + 1) (baseAt xs) = true) : prodTo xs k ≤ prodTo xs (k + 1) := by
  have h1 := prodTo_pos (allTo_mono h (Nat.le_succ k))
  rw [allTo_succ, Bool.and_eq_true] at h
  have h4 := (inB_iff.1 h.2).1
  have := Int.mul_le_mul (Int.le_refl (prodTo xs k)) (show 1 ≤ xs.getD k 0 by omega) (by omega) (by omega)
  rw [prodTo]
  omega
theorem prodTo_mono {xs : List Int} {k n : Nat} (h : allTo n (baseAt xs) = true) (hk : k ≤ n) : prodTo xs k ≤ prodTo xs n := by
  induction n with
  | zero =>
    obtain rfl : k = 0 := by omega
    exact Int.le_refl _
  | succ n ih =>
    by_cases e : k = n + 1
    · rw [e]; exact Int.le_refl _
    · exact Int.le_trans (ih (allTo_mono h (Nat.le_succ n)) (by omega)) (prodTo_step h)

theorem basesB_iff {xs : List Int} : basesB xs = true ↔ xs.length ≤ 12 ∧ allBases xs = true ∧ prodTo xs xs.length ≤ 1000000 := by
  simp only [basesB, Bool.and_eq_true, decide_eq_true_eq]
  exact ⟨fun h => ⟨h.1.1, h.1.2, h.2⟩, fun h => ⟨⟨h.1, h.2.1⟩, h.2.2⟩⟩

/-- what is left of r behind the last d digits -/
def remD (xs : List Int) (r : Int) : Nat → Int
  | 0 => r
  | d + 1 => remD xs r d / xs.getD (xs.length - 1 - d) 0
def digitsL (xs : List Int) (r : Int) : List Int := (List.range xs.length).map (fun i : Nat => remD xs r (xs.length - 1 - i) % xs.getD i 0)
theorem digitsL_length (xs : List Int) (r : Int) : (digitsL xs r).length = xs.length := by simp [digitsL]
theorem digitsL_getD {xs : List Int} {r : Int} {i : Nat} (h : i < xs.length) : (digitsL xs r).getD i 0 = remD xs r (xs.length - 1 - i) % xs.getD i 0 := by simp [digitsL, h]
theorem remD_range {xs : List Int} {r : Int} (h : allBases xs = true) (hr : 0 ≤ r) (d : Nat) (hd : d ≤ xs.length) : 0 ≤ remD xs r d ∧ remD xs r d ≤ r := by
  induction d with
  | zero => exact ⟨hr, Int.le_refl _⟩
  | succ d ih =>
    have h1 := ih (by omega)
    have h2 := (base_range h (show xs.length - 1 - d < xs.length by omega)).1
    rw [remD]
    exact ⟨Int.ediv_nonneg h1.1 (by omega), Int.le_trans (Int.ediv_le_self _ h1.1) h1.2⟩
/-- digits with a rank -/
def digB (xs : List Int) (r : Int) : Bool := basesB xs && inB r 0 (prodTo xs xs.length - 1)
def digRes (xs : List Int) (r : Int) : List Int := if digB xs r = true then digitsL xs r else []
theorem digRes_yes {xs : List Int} {r : Int} (h : digB xs r = true) : digRes xs r = digitsL xs r := by unfold digRes; rw [if_pos h]
theorem digRes_no {xs : List Int} {r : Int} (h : digB xs r = false) : digRes xs r = [] := by unfold digRes; rw [if_neg (by rw [h]; simp)]
theorem bound_DigitsAt (xs : List Int) (r : Int) : (digRes xs r).length ≤ 1048576 := by
  by_cases h : digB xs r = true
  · rw [digRes_yes h, digitsL_length]
    simp only [digB, Bool.and_eq_true] at h
    have := (basesB_iff.1 h.1).1
    omega
  · rw [digRes_no (by simpa using h)]; simp

/-- ys are digits for xs -/
def areDig (xs ys : List Int) : Bool := decide (ys.length = xs.length) && allTo ys.length (fun i => inB (ys.getD i 0) 0 (xs.getD i 0 - 1))
def numTo (xs ys : List Int) : Nat → Int
  | 0 => 0
  | k + 1 => numTo xs ys k * xs.getD k 0 + ys.getD k 0
theorem numTo_range {xs ys : List Int} (h : allBases xs = true) (hd : areDig xs ys = true) (k : Nat) (hk : k ≤ xs.length) : 0 ≤ numTo xs ys k ∧ numTo xs ys k < prodTo xs k := by
  simp only [areDig, Bool.and_eq_true, decide_eq_true_eq] at hd
  induction k with
  | zero => simp [numTo, prodTo]
  | succ k ih =>
    have h1 := ih (by omega)
    have h2 := base_range h (show k < xs.length by omega)
    have h3 := inB_iff.1 ((allTo_iff _ _).1 hd.2 k (by omega))
    have h4 := Int.mul_le_mul (show numTo xs ys k + 1 ≤ prodTo xs k by omega) (Int.le_refl (xs.getD k 0)) (by omega) (by omega)
    have h5 := Int.mul_nonneg h1.1 (show 0 ≤ xs.getD k 0 by omega)
    rw [Int.add_mul] at h4
    rw [numTo, prodTo]
    omega
def rankB (xs ys : List Int) : Bool := basesB xs && areDig xs ys
def rankRes (xs ys : List Int) : Int := if rankB xs ys = true then numTo xs ys ys.length else 0
end Go.Proofs.Yteimfdpkodcfbaa

/- Contracts: l1All, raProduct, raBases, raDigits, productOf and both DigitsAt functions. Conditions: the slice reads as a list of at most 2^20 numbers. -/
namespace Go.Proofs.Yteimfdpkodcfbaa
open Go.RowKit
set_option linter.unusedVariables false

theorem l1All_any (v : Value) (xs : List Int) (lo hi : Int) (w : World) (h : Sits w v xs) :
    Calls Try.prog 110 #[v, .int .i64 lo, .int .i64 hi] w fun e w' => e = .returned (.bool (allTo xs.length (fun i => inB (xs.getD i 0) lo hi))) ∧ w = w' := by
  obtain ⟨b, off, c, rfl, hc1, hm, hb, hc⟩ := h
  go_enter Try.func110, Try.ntmps110
  go_wp2
  go_loop [8, 11] (fun _ i => ∃ k : Nat, k ≤ xs.length ∧ i = .int .i64 k ∧ allTo k (fun i => inB (xs.getD i 0) lo hi) = true) (fun _ i => xs.length - (intOf i).toNat)
  case atStart => exact ⟨0, Nat.zero_le _, rfl, rfl⟩
  case round =>
    obtain ⟨k, hk, rfl, hall⟩ := hrel
    have HA := hid hall
    clear hall
    by_cases hlt : k < xs.length
    · have hcx := hc k hlt
      clear hc
      by_cases hin : inB xs[k] lo hi = true
      · have HF : Hid (inB (xs.getD k 0) lo hi = true) := by
          show inB (xs.getD k 0) lo hi = true
          rw [getD_at hlt, hin]
        go_wp2_with (go_at_call 96; refine (l1In_any _ _ _ _).mono ?_; rintro e w' ⟨rfl, rfl⟩)
        go_round
        case rel => exact ⟨k + 1, by omega, by go_num, allTo_next (f := fun i => inB (xs.getD i 0) lo hi) HA.out HF.out⟩
        case measure => simp [intOf]; omega
      · have hin : inB xs[k] lo hi = false := by simpa using hin
        have HF : Hid (inB (xs.getD k 0) lo hi = false) := by
          show inB (xs.getD k 0) lo hi = false
          rw [getD_at hlt, hin]
        go_wp2_with (go_at_call 96; refine (l1In_any _ _ _ _).mono ?_; rintro e w' ⟨rfl, rfl⟩)
        go_ret
        exact ⟨ret_bool (allTo_no (f := fun i => inB (xs.getD i 0) lo hi) hlt HF.out).symm, rfl⟩
    · obtain rfl : k = xs.length := by omega
      go_wp2
      go_ret
      exact ⟨ret_bool HA.out.symm, rfl⟩
def ProdIs (xs : List Int) (p : Int) : Prop := (prodTo xs xs.length ≤ 1000000 ∧ p = prodTo xs xs.length) ∨ (1000000 < prodTo xs xs.length ∧ 1000000 < p)
theorem ProdIs.dec {xs : List Int} {p : Int} (h : ProdIs xs p) : decide (p ≤ 1000000) = decide (prodTo xs xs.length ≤ 1000000) := by
  rcases h with ⟨h1, rfl⟩ | ⟨h1, h2⟩
  · rfl
  · rw [decide_eq_false (by omega), decide_eq_false (by omega)]
def ProdEnd (xs : List Int) (w : World) (e : Ending) (w' : World) : Prop := ∃ p, e = .returned (.int .i64 p) ∧ ProdIs xs p ∧ w = w'
theorem prod_facts {xs : List Int} (hall : allBases xs = true) {k : Nat} (hlt : k < xs.length) (hle : prodTo xs k ≤ 8916100448256) :
    0 ≤ prodTo xs k * xs[k] ∧ prodTo xs k * xs[k] ≤ 106993205379072 ∧ prodTo xs (k + 1) = prodTo xs k * xs[k] ∧ 2 ≤ xs[k] ∧ xs[k] ≤ 12 ∧ 1 ≤ prodTo xs k := by
  have h1 := base_range hall hlt
  rw [getD_at hlt] at h1
  have h2 := prodTo_pos (allTo_mono hall (show k ≤ xs.length by omega))
  have h3 := Int.mul_nonneg (show 0 ≤ prodTo xs k by omega) (show 0 ≤ xs[k] by omega)
  have h4 := Int.mul_le_mul hle h1.2 (by omega) (by omega)
  refine ⟨h3, by omega, ?_, h1.1, h1.2, h2⟩
  rw [prodTo, getD_at hlt]
def prodRes (xs : List Int) : Int := if basesB xs = true then prodTo xs xs.length else 0
theorem prodRes_yes {xs : List Int} (h : basesB xs = true) : prodRes xs = prodTo xs xs.length := by unfold prodRes; rw [if_pos h]
theorem prodRes_no {xs : List Int} (h : basesB xs = false) : prodRes xs = 0 := by unfold prodRes; rw [if_neg (by rw [h]; simp)]
theorem productOf_any (v : Value) (xs : List Int) (w : World) (h : Sits w v xs) :
    Calls Try.prog 160 #[v] w fun e w' => e = .returned (.tuple #[.int .i64 (prodRes xs), .bool (basesB xs)]) ∧ w = w' := by
  obtain ⟨b, off, c, rfl, hc1, hm, hb, hc⟩ := h
  by_cases h1 : xs.length ≤ 12
  · go_enter Try.func160, Try.ntmps160
    go_wp2
    go_loop [4, 6, 12] (fun p _ i => ∃ k : Nat, k ≤ xs.length ∧ i = .int .i64 k ∧ p = .int .i64 (prodTo xs k) ∧ allTo k (baseAt xs) = true) (fun _ _ i => xs.length - (intOf i).toNat)
    case atStart => exact ⟨0, Nat.zero_le _, rfl, rfl, rfl⟩
    case round =>
      obtain ⟨k, hk, rfl, rfl, hall⟩ := hrel
      have hp1 := prodTo_pos hall
      have hp2 := prodTo_bound hall (by omega)
      have HA := hid hall
      clear hall
      by_cases hlt : k < xs.length
      · have hcx := hc k hlt
        clear hc
        by_cases h2 : xs[k] < 2
        · have HF : Hid (basesB xs = false) := by
            show basesB xs = false
            have : allBases xs = false := allTo_no hlt (by rw [baseAt, getD_at hlt]; simp [inB]; omega)
            rw [basesB, this]; simp
          go_wp2
          go_ret2
          exact ⟨ret_nb (prodRes_no HF.out).symm HF.out.symm, rfl⟩
        · by_cases h3 : 12 < xs[k]
          · have HF : Hid (basesB xs = false) := by
              show basesB xs = false
              have : allBases xs = false := allTo_no hlt (by rw [baseAt, getD_at hlt]; simp [inB]; omega)
              rw [basesB, this]; simp
            go_wp2
            go_ret2
            exact ⟨ret_nb (prodRes_no HF.out).symm HF.out.symm, rfl⟩
          · have m0 := Int.mul_nonneg (show 0 ≤ prodTo xs k by omega) (show 0 ≤ xs[k] by omega)
            have m1 := Int.mul_le_mul hp2 (show xs[k] ≤ 12 by omega) (by omega) (by omega)
            have m2 : prodTo xs k * xs[k] ≤ 106993205379072 := by omega
            have HN := hid (allTo_next HA.out (show baseAt xs k = true by rw [baseAt, getD_at hlt]; simp [inB]; omega))
            clear m1
            go_wp2
            go_round
            case rel => exact ⟨k + 1, by omega, by go_num, by rw [prodTo, getD_at hlt], HN.out⟩
            case measure => simp [intOf]; omega
      · obtain rfl : k = xs.length := by omega
        have h12 := hid h1
        by_cases hbig : 1000000 < prodTo xs xs.length
        · have HF : Hid (basesB xs = false) := by
            show basesB xs = false
            rw [basesB, decide_eq_false (show ¬ prodTo xs xs.length ≤ 1000000 by omega)]; simp
          go_wp2
          go_ret2
          exact ⟨ret_nb (prodRes_no HF.out).symm HF.out.symm, rfl⟩
        · have HF : Hid (basesB xs = true) := hid (basesB_iff.2 ⟨h12.out, HA.out, by omega⟩)
          go_wp2
          go_ret2
          exact ⟨ret_nb (prodRes_yes HF.out).symm HF.out.symm, rfl⟩
  · have HF : Hid (basesB xs = false) := by
      show basesB xs = false
      rw [basesB, decide_eq_false h1]; rfl
    go_enter Try.func160, Try.ntmps160
    go_wp2_with fail
    go_ret2
    exact ⟨ret_nb (prodRes_no HF.out).symm HF.out.symm, rfl⟩
end Go.Proofs.Yteimfdpkodcfbaa
