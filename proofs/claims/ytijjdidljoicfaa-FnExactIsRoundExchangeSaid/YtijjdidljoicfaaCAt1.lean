/- Contracts: l1Own at an owned slice, raOf, spec.CombinationAt. Conditions: the slices read as lists. -/
import Derived.Test.YtijjdidljoicfaaAll1
namespace Go.Proofs.Ytijjdidljoicfaa
open Go.RowKit
set_option linter.unusedVariables false

theorem ret_sb6 {u : Value} {b b' : Bool} (h : b = b') : Ending.returned (.tuple #[u, .bool b]) = .returned (.tuple #[u, .bool b']) := by rw [h]
theorem inB_nat3 {n : Int} (h : inB n 0 12 = true) : ∃ k : Nat, n = k ∧ k ≤ 12 := by
  have := inB_iff.1 h
  exact ⟨n.toNat, by omega, by omega⟩
theorem Own.lit0 (w : World) : Own (w.alloc (.cells #[] 3)) w.heap.size (.slice (some ⟨w.heap.size, 0, none⟩) 0 0) [] :=
  World.ownsRow_made w #[] 0 (Nat.le_refl _) (by unfold maxLen; omega) rfl
theorem append_src_below {w w3 : World} {o : Obj} {n c : Nat} (hg : (w.alloc o).grownBy w3 (Value.slice (some ⟨w.heap.size, 0, none⟩) n c).ownBlock) : Below w.heap.size w w3 :=
  ((Below.refl w.heap.size w).alloc (Nat.le_refl _) o).grown hg (size_alloc2 w o) own_low
theorem l1Own_own (v : Value) (xs : List Int) (base : Nat) (w : World) (h : Own w base v xs) (hl : xs.length ≤ 1048576) :
    Calls Try.prog 92 #[v] w fun e w' => ∃ u, e = .returned u ∧ Own w' w.heap.size u xs ∧ Below w.heap.size w w' := by
  obtain ⟨i0, hi, hz0, hz1, hz2⟩ := info_parts Try.info3
  have HS := hid (h.below ((Below.refl _ _).alloc (Nat.le_refl _) (.cells #[] 3)))
  have HLEN := hid (show ([] : List Int).length + xs.length ≤ 1048576 by simp; omega)
  clear h
  go_enter Try.func92, Try.ntmps92
  go_wp2_with (first
    | (at_builtin; refine wpList_append_src _ rfl _ _ 22 rfl w.heap.size i0 Try.underlying22 hi hz0 hz1 hz2 (.slice (some ⟨w.heap.size, 0, none⟩) 0 0) [] rfl (Own.lit0 w) v _ xs rfl HS.out HLEN.out (size_alloc2 w _) ?_; intro v3 w3 hown3 hgrow3; have HO := hid hown3; have HB := hid (append_src_below hgrow3); clear hown3 hgrow3)
    | fail)
  go_ret
  exact ⟨_, rfl, HO.out, HB.out⟩
def ofB (L : List (List Int)) (i : Int) : Bool := inB i 0 ((L.length : Int) - 1)
def ofRes (L : List (List Int)) (i : Int) : List Int := if ofB L i = true then L.getD i.toNat [] else []
theorem ofRes_yes {L : List (List Int)} {i : Int} (h : ofB L i = true) : ofRes L i = L.getD i.toNat [] := by unfold ofRes; rw [if_pos h]
theorem ofRes_no {L : List (List Int)} {i : Int} (h : ofB L i = false) : ofRes L i = [] := by unfold ofRes; rw [if_neg (by rw [h]; simp)]
theorem raOf_any (v : Value) (L : List (List Int)) (i : Int) (base : Nat) (w : World) (h : Lists w base v L) (hL : L.length ≤ 100000) (hel : ∀ l ∈ L, l.length ≤ 12) :
    Calls Try.prog 63 #[v, .int .i64 i] w fun e w' => ∃ u, e = .returned (.tuple #[u, .bool (ofB L i)]) ∧ Own w' w.heap.size u (ofRes L i) ∧ Below w.heap.size w w' := by
  have HEL := hid hel
  clear hel
  by_cases hp : ofB L i = true
  · have hin := inB_iff.1 hp
    obtain ⟨k, rfl⟩ := Int.eq_ofNat_of_zero_le hin.1
    have hk : k < L.length := by omega
    have HX := hid (ofRes_yes hp)
    have HP := hid hp
    have hp2 : inB (k : Int) 0 ((L.length : Int) - 1) = true := hp
    rcases h.form with ⟨rfl, e2⟩ | ⟨g, cap, rfl, _, hg, hc1, hm, hc⟩
    · rw [e2] at hk; simp at hk
    · obtain ⟨z, hz, hzo⟩ := hc k hk
      have HZ := hid hzo
      have HLL := hid (HEL.out L[k] (List.getElem_mem _))
      have HG := hid (show L.getD k [] = L[k] by simp [List.getD_eq_getElem?_getD, hk])
      have HL12 := hid (Nat.le_trans HLL.out (show 12 ≤ 1048576 by omega))
      clear hc hzo hin h hp
      go_enter Try.func63, Try.ntmps63
      go_wp2_with (first
        | (go_at_call 89; refine (l1In_any _ _ _ _).mono ?_; rintro e w' ⟨rfl, rfl⟩)
        | (go_at_call 92; refine (l1Own_own _ L[k] _ _ HZ.out HL12.out).mono ?_; rintro e w2 ⟨u, rfl, hu, hb⟩; have HU := hid hu; have HB := hid hb; clear hu hb)
        | fail)
      go_ret2
      exact ⟨_, ret_sb6 HP.out.symm, by rw [HX.out, Int.toNat_natCast, HG.out]; exact HU.out, HB.out⟩
  · have hp : ofB L i = false := by simpa using hp
    have hp2 : inB i 0 ((L.length : Int) - 1) = false := hp
    have HX := hid (ofRes_no hp)
    have HP := hid hp
    clear hp
    rcases h.form with ⟨rfl, rfl⟩ | ⟨g, cap, rfl, _, hg, hc1, hm, hc⟩
    · have hp3 : inB i 0 (-1) = false := hp2
      clear h hp2
      go_enter Try.func63, Try.ntmps63
      go_wp2_with (first | (go_at_call 89; refine (l1In_any _ _ _ _).mono ?_; rintro e w' ⟨rfl, rfl⟩) | fail)
      go_ret2
      exact ⟨_, ret_sb6 HP.out.symm, by rw [HX.out]; exact Own.nil _ _, Below.refl _ _⟩
    · clear hc h
      go_enter Try.func63, Try.ntmps63
      go_wp2_with (first | (go_at_call 89; refine (l1In_any _ _ _ _).mono ?_; rintro e w' ⟨rfl, rfl⟩) | fail)
      go_ret2
      exact ⟨_, ret_sb6 HP.out.symm, by rw [HX.out]; exact Own.nil _ _, Below.refl _ _⟩
/-- is there a combination of n with k elements and the rank r, and which -/
def catB (n k r : Int) : Bool := inB n 0 12 && inB k 0 12 && ofB (allL n.toNat k.toNat 0) r
def catRes (n k r : Int) : List Int := if catB n k r = true then (allL n.toNat k.toNat 0).getD r.toNat [] else []
theorem catRes_yes {n k r : Int} (h : catB n k r = true) : catRes n k r = (allL n.toNat k.toNat 0).getD r.toNat [] := by unfold catRes; rw [if_pos h]
theorem catRes_no {n k r : Int} (h : catB n k r = false) : catRes n k r = [] := by unfold catRes; rw [if_neg (by rw [h]; simp)]
theorem bound_CombinationAt (n k r : Int) : (catRes n k r).length ≤ 1048576 := by
  by_cases h : catB n k r = true
  · rw [catRes_yes h]
    simp only [catB, Bool.and_eq_true, ofB, inB_iff] at h
    have hlt : r.toNat < (allL n.toNat k.toNat 0).length := by omega
    have := allL_elem n.toNat k.toNat 0 ((allL n.toNat k.toNat 0)[r.toNat]) (List.getElem_mem _)
    rw [List.getD_eq_getElem?_getD, List.getElem?_eq_getElem hlt, Option.getD_some, this]
    omega
  · rw [catRes_no (by simpa using h)]; simp
end Go.Proofs.Ytijjdidljoicfaa
