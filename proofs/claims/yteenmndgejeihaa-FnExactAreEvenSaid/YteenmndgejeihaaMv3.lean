/- Contracts: spec.ApplyMove, moSign, spec.MoveSign and spec.MoveOrder. Conditions: the slice reads as a list. -/
import Derived.Test.YteenmndgejeihaaMv2
import Derived.Test.YteenmndgejeihaaSign
import Derived.Test.YteenmndgejeihaaSame
import Derived.Test.YteenmndgejeihaaTake2
namespace Go.Proofs.Yteenmndgejeihaa
open Go.RowKit
set_option linter.unusedVariables false

def apB (l : List Int) (k i j : Int) : Bool := permB l && mvB l.length k i j
def apRes (l : List Int) (k i j : Int) : List Int := if apB l k i j = true then mvL k i j l else []
theorem apRes_yes {l : List Int} {k i j : Int} (h : apB l k i j = true) : apRes l k i j = mvL k i j l := by unfold apRes; rw [if_pos h]
theorem apRes_no {l : List Int} {k i j : Int} (h : apB l k i j = false) : apRes l k i j = [] := by unfold apRes; rw [if_neg (by rw [h]; simp)]
theorem bound_ApplyMove (l : List Int) (k i j : Int) : (apRes l k i j).length ≤ 1048576 := by
  cases h : apB l k i j with
  | false => rw [apRes_no h]; simp
  | true =>
    rw [apRes_yes h, mvL_len]
    rw [apB, Bool.and_eq_true] at h
    have := permB_len h.1
    omega
theorem ret_sbA {u : Value} {b b' : Bool} (h : b = b') : Ending.returned (.tuple #[u, .bool b]) = .returned (.tuple #[u, .bool b']) := by rw [h]
theorem ret_nbA {a b : Int} {c d : Bool} (h : a = b) (h' : c = d) : Ending.returned (.tuple #[.int .i64 a, .bool c]) = .returned (.tuple #[.int .i64 b, .bool d]) := by rw [h, h']
theorem spec_ApplyMove_any (v : Value) (l : List Int) (k i j : Int) (w : World) (h : Sits w v l) :
    Calls Try.prog 31 #[v, .agg #[.int .i64 k, .int .i64 i, .int .i64 j]] w fun e w' => ∃ u, e = .returned (.tuple #[u, .bool (apB l k i j)]) ∧ Own w' w.heap.size u (apRes l k i j) ∧ Below w.heap.size w w' := by
  have hba := (Below.refl w.heap.size w).alloc (Nat.le_refl _) (mvObj k i j)
  have HBA := hid hba
  obtain ⟨x0, x1, x2⟩ := mv_box w k i j
  have HX0 := hid x0
  have HX1 := hid x1
  have HX2 := hid x2
  have HR := hid (h.reads.below hba)
  obtain ⟨b, off, c, rfl, hc1, hm, hb, hc⟩ := h
  clear hc hba x0 x1 x2
  cases hp : permB l with
  | false =>
    have HP := hid hp
    have HN := hid (show apB l k i j = false by rw [apB, hp]; rfl)
    clear hp
    go_enter Try.func31, Try.ntmps31
    go_wp2_with (first | (go_at_call 70; refine (raPermutation_any _ l _ HR.out).mono ?_; rintro e w' ⟨rfl, rfl⟩; rw [HP.out]) | fail)
    go_ret2
    exact ⟨_, ret_sbA HN.out.symm, by rw [apRes_no HN.out]; exact Own.nil _ _, HBA.out⟩
  | true =>
    have HP := hid hp
    have hlen := permB_len hp
    cases hg : mvB l.length k i j with
    | false =>
      have HG := hid hg
      have HN := hid (show apB l k i j = false by rw [apB, hg, Bool.and_false])
      clear hp hg
      go_enter Try.func31, Try.ntmps31
      go_wp2_with (first | (go_at_call 70; refine (raPermutation_any _ l _ HR.out).mono ?_; rintro e w' ⟨rfl, rfl⟩; rw [HP.out]) | (go_at_call 77; refine (moGood_any _ k i j _ (by omega) (by omega)).mono ?_; rintro e w1 ⟨rfl, hb1⟩; rw [HG.out]; have HB1 := hid (Below_chain HBA.out hb1); clear hb1) | fail)
      go_ret2
      exact ⟨_, ret_sbA HN.out.symm, by rw [apRes_no HN.out]; exact Own.nil _ _, HB1.out⟩
    | true =>
      have HG := hid hg
      have HN := hid (show apB l k i j = true by rw [apB, hp, hg]; rfl)
      clear hp hg
      go_enter Try.func31, Try.ntmps31
      go_wp2_with (first | (go_at_call 70; refine (raPermutation_any _ l _ HR.out).mono ?_; rintro e w' ⟨rfl, rfl⟩; rw [HP.out]) | (go_at_call 77; refine (moGood_any _ k i j _ (by omega) (by omega)).mono ?_; rintro e w1 ⟨rfl, hb1⟩; rw [HG.out]; have HB1 := hid (Below_chain HBA.out hb1); have HR1 := hid (HR.out.below hb1); have hx0 := cell_below2 HX0.out hb1; have hx1 := cell_below2 HX1.out hb1; have hx2 := cell_below2 HX2.out hb1; clear hb1) | (go_at_call 79; refine (moApply_any _ l k i j _ HR1.out (by omega) HG.out).mono ?_; rintro e w2 ⟨u, rfl, ho2, hb2⟩; have HO2 := hid ho2; have HB2 := hid (Below_chain HB1.out hb2); have hs1 := HB1.out.size; clear ho2 hb2) | fail)
      go_ret2
      exact ⟨_, ret_sbA HN.out.symm, by rw [apRes_yes HN.out]; exact HO2.out.mono hs1, HB2.out⟩
theorem own_twelve {w : World} {B : Nat} {v : Value} {xs : List Int} (h0 : 0 < xs.length) (h : Own w B v xs) : ∃ g c, v = .slice (some ⟨g, 0, none⟩) xs.length c ∧ Hid (Sits w v xs) := by
  rcases h.form with ⟨_, hn⟩ | ⟨g, cap, e, _⟩
  · rw [hn] at h0; simp at h0
  · refine ⟨g, cap, e, hid ?_⟩
    rw [e] at h ⊢
    exact h.sits
/-- the sign of a move, as that of what it makes of the first permutation -/
def sgV (k i j : Int) : Int := signSum (sumTo (invsTo (mvL k i j (upTo 12)) (mvL k i j (upTo 12)).length) (mvL k i j (upTo 12)).length)
theorem moSign_any (k i j : Int) (w : World) (hm : mvB 12 k i j = true) :
    Calls Try.prog 81 #[.agg #[.int .i64 k, .int .i64 i, .int .i64 j]] w fun e w' => e = .returned (.int .i64 (sgV k i j)) ∧ Below w.heap.size w w' := by
  have HU := hid (upTo_length 12)
  have HM := hid (show mvB (upTo 12).length k i j = true by rw [HU.out]; exact hm)
  have HLM := hid (mvL_len k i j (upTo 12))
  obtain ⟨x0, x1, x2⟩ := mv_box w k i j
  have hba := (Below.refl w.heap.size w).alloc (Nat.le_refl _) (mvObj k i j)
  have HBA := hid hba
  have hsa : (w.alloc (mvObj k i j)).heap.size = w.heap.size + 1 := by simp
  clear hm hba
  go_enter Try.func81, Try.ntmps81
  go_wp2_with fail
  go_region_held3 (fun w' => w'.cell? ⟨w.heap.size, 0, none⟩ = some (.int .i64 k) ∧ w'.cell? ⟨w.heap.size, 1, none⟩ = some (.int .i64 i) ∧ w'.cell? ⟨w.heap.size, 2, none⟩ = some (.int .i64 j))
    (first | exact ⟨x0, x1, x2⟩ | exact ⟨cell_below2 x0 HA1.out, cell_below2 x1 HA1.out, cell_below2 x2 HA1.out⟩ | exact ⟨cell_below2 x0 HA2.out, cell_below2 x1 HA2.out, cell_below2 x2 HA2.out⟩ | exact ⟨cell_below2 x0 HA3.out, cell_below2 x1 HA3.out, cell_below2 x2 HA3.out⟩ | go_keep | fail)
    (first
      | (go_at_call 84; refine (raUpTo_any 12 _ (by omega)).mono ?_; rintro e w1 ⟨u1, rfl, ho1, hb1⟩; have HR1 := hid ho1.reads; have HA1 := hid ((Below.refl _ _).drew.trans hb1 : Below (w.alloc (mvObj k i j)).heap.size (w.alloc (mvObj k i j)) w1); clear ho1 hb1)
      | (go_at_call 79; refine (moApply_any _ (upTo 12) k i j _ HR1.out (by rw [HU.out]; omega) HM.out).mono ?_; rintro e w2 ⟨u2, rfl, ho2, hb2⟩; have HA2 := hid (Below_chain HA1.out hb2); obtain ⟨g2, c2, rfl, HS2⟩ := own_twelve (by rw [HLM.out, HU.out]; omega) ho2; clear ho2 hb2)
      | (go_at_call 118; refine (raSign_any _ (mvL k i j (upTo 12)) _ HS2.out (by rw [HLM.out, HU.out]; omega)).mono ?_; rintro e w3 ⟨rfl, hb3⟩; have HA3 := hid (Below_chain HA2.out hb3); clear hb3)
      | fail)
  all_goals
    go_wp2_with fail
    go_returns
    exact ⟨rfl, Below_chain HBA.out HA3.out⟩
def msV (k i j : Int) : Int := if mvB 12 k i j = true then sgV k i j else 0
theorem spec_MoveSign_any (k i j : Int) (w : World) :
    Calls Try.prog 33 #[.agg #[.int .i64 k, .int .i64 i, .int .i64 j]] w fun e w' => e = .returned (.tuple #[.int .i64 (msV k i j), .bool (mvB 12 k i j)]) ∧ Below w.heap.size w w' := by
  have hba := (Below.refl w.heap.size w).alloc (Nat.le_refl _) (mvObj k i j)
  have HBA := hid hba
  obtain ⟨x0, x1, x2⟩ := mv_box w k i j
  have HX0 := hid x0
  have HX1 := hid x1
  have HX2 := hid x2
  clear x0 x1 x2 hba
  cases hm : mvB 12 k i j with
  | false =>
    have HM := hid hm
    have HV := hid (show msV k i j = 0 by rw [msV, hm, if_neg (by simp)])
    clear hm
    go_enter Try.func33, Try.ntmps33
    go_wp2_with (first | (go_at_call 77; refine (moGood_any 12 k i j _ (by omega) (by omega)).mono ?_; rintro e w1 ⟨rfl, hb1⟩; rw [HM.out]; have HB1 := hid (Below_chain HBA.out hb1); have hx0 := cell_below2 HX0.out hb1; have hx1 := cell_below2 HX1.out hb1; have hx2 := cell_below2 HX2.out hb1; clear hb1) | fail)
    go_ret2
    exact ⟨ret_nbA HV.out.symm rfl, HB1.out⟩
  | true =>
    have HM := hid hm
    have HV := hid (show msV k i j = sgV k i j by rw [msV, if_pos hm])
    clear hm
    go_enter Try.func33, Try.ntmps33
    go_wp2_with (first | (go_at_call 77; refine (moGood_any 12 k i j _ (by omega) (by omega)).mono ?_; rintro e w1 ⟨rfl, hb1⟩; rw [HM.out]; have HB1 := hid (Below_chain HBA.out hb1); have hx0 := cell_below2 HX0.out hb1; have hx1 := cell_below2 HX1.out hb1; have hx2 := cell_below2 HX2.out hb1; clear hb1) | (go_at_call 81; refine (moSign_any k i j _ HM.out).mono ?_; rintro e w2 ⟨rfl, hb2⟩; have HB2 := hid (Below_chain HB1.out hb2); clear hb2) | fail)
    go_ret2
    exact ⟨ret_nbA HV.out.symm rfl, HB2.out⟩
end Go.Proofs.Yteenmndgejeihaa
