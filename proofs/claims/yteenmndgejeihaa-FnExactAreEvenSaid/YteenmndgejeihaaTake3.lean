/- Contract: raWithout. Conditions: the slice is not nil and reads as a list of at most 2^20 numbers; the index lies within. -/
import Derived.Test.YteenmndgejeihaaTake2
import Derived.Deep.RegionHeld3
import Derived.Deep.RegionLaw
namespace Go.Proofs.Yteenmndgejeihaa
open Go.RowKit
set_option linter.unusedVariables false

/-- The law on append to an owned slice, as a step of a region that draws its order. -/
theorem step_append_any {P : Program} (w : World) {ops : Array Oper} {o : Oper} {a : Act} {K : Act → World → Prop} {Q : Exit → Act → World → Prop} {E : Prop} (hgd : o.guard = none) (s x : Operand) (t : TypeId)
    (ho : o.op = .call { callee := .builtin .append, args := #[s, x], argTypes := #[t, t] }) (base : Nat) (e : TypeId) (i : TypeInfo) (z : Value) (size bytes : Nat) (ht : P.underlying t = some (.slice e))
    (hi : P.info? e = some i) (hz : i.zero = some z) (hsize : i.size = size) (hby : i.bytes = bytes) (hzs : z.cells.size = size) (hsz : 0 < size) (v : Value) (n : Nat) (xs : List Value) (hs : a.eval s = v)
    (hown : w.ownsRow base e size v n xs) (ad : Addr) (m c : Nat) (news : List Value) (hx : a.eval x = .slice (some ad) m c) (hl : news.length = m * size)
    (hnews : ∀ (j : Nat) (u : Value), news[j]? = some u → w.cell? (ad.add j) = some u) (h1 : ∀ (u : Value), u ∈ news → u.oneCell' = true) (h63 : n + m ≤ maxLen) (hbytes : (n + m) * bytes ≤ 140737488355328) (hbase : base ≤ w.heap.size)
    (h : ∀ (v' : Value) (w' : World), w'.ownsRow base e size v' (n + m) (xs ++ news) → w.grownBy w' v.ownBlock → (v' = .slice none 0 0 ↔ v = .slice none 0 0 ∧ m = 0) → K (a.put o.dst v') w') :
    if Region.wanted o (yielded ops a.tmps) = true then Oper.wp P o a w K Q else E := by
  rw [if_pos (by simp [Region.wanted, hgd])]
  exact wp_append_own w s x t ho base e i z size bytes ht hi hz hsize hby hzs hsz v n xs hs hown ad m c news hx hl hnews h1 h63 hbytes hbase h

theorem nil_src {w : World} {ad : Addr} : ∀ (j : Nat) (u : Value), ([] : List Value)[j]? = some u → w.cell? (ad.add j) = some u := by
  intro j u hj
  simp at hj
theorem nil_one : ∀ u ∈ ([] : List Value), u.oneCell' = true := by
  intro u hu
  simp at hu
theorem row_cut {w : World} {B k : Nat} {u : Value} {xs : List Int} (h : Own w B u (xs.take k)) (hl : (xs.take k).length = k) : w.ownsRow B 3 1 u k ((xs.take k).map (Value.int .i64)) := by
  have := h.row
  rwa [hl] at this
set_option maxRecDepth 4000 in
theorem raWithout_any (v : Value) (xs : List Int) (k : Nat) (w : World) (h : Sits w v xs) (hk : k < xs.length) (hl : xs.length ≤ 1048576) :
    Calls Try.prog 116 #[v, .int .i64 (k : Int)] w fun e w' => ∃ u, e = .returned u ∧ Own w' w.heap.size u (xs.eraseIdx k) ∧ Below w.heap.size w w' ∧ u ≠ .slice none 0 0 := by
  obtain ⟨b, off, c, rfl, hc1, hm, hb, hc⟩ := h
  obtain ⟨i0, hi, hz0, hz1, hz2⟩ := info_parts Try.info3
  have HT := hid (Sits_take (w := w) (off := off) k (by omega) hc1 hm hb hc)
  have HC := hid hc
  have q1 : IntKind.i64.wrap ((k : Int) + 1) = (k : Int) + 1 := IntWalk.i64_in _ (by omega)
  have q2 : (0 : Int) ≤ (k : Int) + 1 := by omega
  have q3 : ((k : Int) + 1).toNat = k + 1 := by omega
  have p1 : (0 : Int) ≤ (k : Int) := by omega
  have p2 : (k : Int) ≤ (c : Int) := by omega
  have p3 : (k : Int) ≤ (xs.length : Int) := by omega
  have p4 : (k : Int) + 1 ≤ (xs.length : Int) := by omega
  have p5 : (xs.length : Int) ≤ (c : Int) := by omega
  have p6 : k ≤ c := by omega
  have p7 : k + 1 ≤ xs.length := by omega
  have hlt : (xs.take k).length = k := by simp; omega
  have HLT := hid hlt
  have hld : (xs.drop (k + 1)).length = xs.length - (k + 1) := by simp
  have HLD := hid hld
  have HE := hid (List.eraseIdx_eq_take_drop_succ xs k)
  have HSR := hid (show ∀ i (hi : i < (xs.drop (k + 1)).length), w.cell? ⟨b, off + (k + 1) + i, none⟩ = some (.int .i64 (xs.drop (k + 1))[i]) from fun i hi => by
    rw [hld] at hi
    rw [Nat.add_assoc, hc (k + 1 + i) (by omega)]
    simp)
  have HA := hid (show k + (xs.length - (k + 1)) ≤ maxLen by unfold maxLen; omega)
  have HB := hid (show (k + (xs.length - (k + 1))) * 8 ≤ 140737488355328 by omega)
  have HN := hid (show ((xs.drop (k + 1)).map (Value.int .i64)).length = (xs.length - (k + 1)) * 1 by simp)
  have HTL := hid (show (xs.take k).length ≤ 1048576 by simp; omega)
  clear hc hlt hld
  by_cases hcap : c = k + 1
  · have HA0 := hid (show k + 0 ≤ maxLen by unfold maxLen; omega)
    have HB0 := hid (show (k + 0) * 8 ≤ 140737488355328 by omega)
    have HDR := hid (show xs.drop (k + 1) = [] from List.drop_eq_nil_of_le (by omega))
    subst hcap
    have p8 : (k : Int) ≤ (k : Int) + 1 := by omega
    have p9 : (xs.length : Int) ≤ (k : Int) + 1 := by omega
    have p10 : xs.length ≤ k + 1 := hc1
    go_enter Try.func116, Try.ntmps116
    go_wp2_with fail
    go_region_held3 (fun _ => True) (trivial)
      (first
        | (go_at_call 111; refine (l1Own_any _ (xs.take k) _ ?_ HTL.out).mono ?_; exact HT.out.below (Below.drew (Below.refl _ _)); rintro e w1 ⟨u, rfl, hou, hb1, hn1⟩; have hrow : w1.ownsRow w.heap.size 3 1 u k ((xs.take k).map (Value.int .i64)) := row_cut hou HLT.out; have HROW := hid hrow; have HBS := hid (show w.heap.size ≤ w1.heap.size from hb1.size); have HB1 := hid hb1; have HN1 := hid hn1; clear hrow hou hb1 hn1)
        | (refine step_append_any _ rfl _ _ _ rfl w.heap.size 3 i0 _ 1 8 Try.underlying22 hi hz0 hz1 hz2 rfl (Nat.zero_lt_one) u k ((xs.take k).map (Value.int .i64)) rfl HROW.out ⟨b, off, none⟩ 0 0 [] rfl rfl nil_src nil_one HA0.out HB0.out HBS.out ?_; intro v' w2 hown' hgrow hnil))
    have hfin : Own w2 w.heap.size v' (xs.eraseIdx k) := by
      unfold Own
      rw [HE.out, HDR.out, List.append_nil, HLT.out]
      simpa using hown'
    have hbf : Below w.heap.size w w2 := (Below.trans (Below.drew (Below.refl _ _)) HB1.out).grown hgrow HBS.out (fun q hq => (World.ownsRow.lt HROW.out q hq).1)
    have HNF := hid (show v' ≠ .slice none 0 0 from fun e => HN1.out (hnil.1 e).1)
    clear hown' hgrow hnil
    go_wp2
    go_ret
    exact ⟨_, rfl, hfin, hbf, HNF.out⟩
  · go_enter Try.func116, Try.ntmps116
    go_wp2_with fail
    go_region_held3 (fun _ => True) (trivial)
      (first
        | (go_at_call 111; refine (l1Own_any _ (xs.take k) _ ?_ HTL.out).mono ?_; exact HT.out.below (Below.drew (Below.refl _ _)); rintro e w1 ⟨u, rfl, hou, hb1, hn1⟩; have hrow : w1.ownsRow w.heap.size 3 1 u k ((xs.take k).map (Value.int .i64)) := row_cut hou HLT.out; have HROW := hid hrow; have HSRC := hid (show ∀ (j : Nat) (u : Value), ((xs.drop (k + 1)).map (Value.int .i64))[j]? = some u → w1.cell? ((⟨b, off + (k + 1), none⟩ : Addr).add j) = some u from Sits.src (n := 0) (c := 0) (fun i hi => (hb1.cell (by exact hb)).trans (HSR.out i hi))); have HBS := hid (show w.heap.size ≤ w1.heap.size from hb1.size); have HB1 := hid hb1; have HN1 := hid hn1; clear hrow hou hb1 hn1)
        | (refine step_append_any _ rfl _ _ _ rfl w.heap.size 3 i0 _ 1 8 Try.underlying22 hi hz0 hz1 hz2 rfl (Nat.zero_lt_one) u k ((xs.take k).map (Value.int .i64)) rfl HROW.out ⟨b, off + (k + 1), none⟩ (xs.length - (k + 1)) (c - (k + 1)) ((xs.drop (k + 1)).map (Value.int .i64)) rfl HN.out HSRC.out (ints_one _) HA.out HB.out HBS.out ?_; intro v' w2 hown' hgrow hnil))
    have hfin : Own w2 w.heap.size v' (xs.eraseIdx k) := by
      have e1 : (xs.eraseIdx k).length = k + (xs.length - (k + 1)) := by rw [List.length_eraseIdx_of_lt hk]; omega
      unfold Own
      rw [e1, HE.out, List.map_append]
      exact hown'
    have hbf : Below w.heap.size w w2 := (Below.trans (Below.drew (Below.refl _ _)) HB1.out).grown hgrow HBS.out (fun q hq => (World.ownsRow.lt HROW.out q hq).1)
    have HNF := hid (show v' ≠ .slice none 0 0 from fun e => HN1.out (hnil.1 e).1)
    clear hown' hgrow hnil
    go_wp2
    go_ret
    exact ⟨_, rfl, hfin, hbf, HNF.out⟩
end Go.Proofs.Yteenmndgejeihaa
