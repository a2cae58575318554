/- What a map of met windows holds, by a set of windows and their ranks; what it keeps through stores, deletes and a range. Conditions: ranks are ints. -/
import Derived.Test.YteimfdpkodcfbaaSchM
import Derived.Test.YteimfdpkodcfbaaMet
import Derived.Maps.OwnSet
import Derived.Maps.RangeWalk
import Derived.Maps.Range
namespace Go.Proofs.Yteimfdpkodcfbaa
open Go.RowKit Go.Maps
set_option linter.unusedVariables false
set_option maxRecDepth 4000

theorem nodup_le9 {α : Type} (es : List α) : ∀ (Q : List α), es.Nodup → (∀ x ∈ es, x ∈ Q) → es.length ≤ Q.length := by
  classical
  induction es with
  | nil => intro Q _ _; simp
  | cons x es ih =>
    intro Q hn hs
    have hx : x ∈ Q := hs x (by simp)
    have hn' := List.nodup_cons.1 hn
    have h := ih (Q.erase x) hn'.2 (fun y hy => (List.mem_erase_of_ne (fun e => hn'.1 (by rw [← e]; exact hy))).2 (hs y (by simp [hy])))
    have h2 := List.length_erase_of_mem hx
    have h3 : 0 < Q.length := List.length_pos_of_mem hx
    simp only [List.length_cons]
    omega
theorem ownsMap_small9 {H : Type} {P : Program} {k : TypeId} {R : Value → Option (DataW H × List MemPlace)} {w : World} {b n m : Nat} {D : DataW H} (h : w.ownsMap P k R b n D) (hm : Maps.size D ≤ m) : w.ownsMap P k R b m D := by
  obtain ⟨es, clock, hb, F, hs, rfl⟩ := h
  refine ⟨es, clock, hb, F, ?_, rfl⟩
  simpa [Maps.size, Go.length_sorted] using hm
def kI (r : Int) : Lit := .int .i64 r
theorem kI_ne {a b : Int} (h : a ≠ b) : kI a ≠ kI b := fun e => h (by unfold kI at e; injection e)
theorem kI_key (r : Int) : WideAt.IsKeyLit (kI r) := by unfold kI; trivial
/-- the map holds, for each window in S below N, its index at its rank, and nothing else -/
structure HoldsM (N : Nat) (S : Nat → Prop) (T : Nat → Int) (D : DataW Unit) : Prop where
  key : ∀ k, Maps.has D k = true ↔ ∃ i, i < N ∧ S i ∧ k = kI (T i)
  val : ∀ i, i < N → S i → ∀ z, D.atKey (kI (T i)) z = .lit (.int .i64 (i : Int))
theorem HoldsM.empty {N : Nat} {S : Nat → Prop} {T : Nat → Int} (h : ∀ i, i < N → ¬ S i) : HoldsM N S T (.map []) :=
  ⟨fun k => ⟨fun h2 => absurd h2 (by simp [Maps.has]), fun ⟨i, hi, hs, _⟩ => absurd hs (h i hi)⟩, fun i hi hs => absurd hs (h i hi)⟩
theorem HoldsM.congr {N : Nat} {S S' : Nat → Prop} {T T' : Nat → Int} {D : DataW Unit} (h : HoldsM N S T D) (hS : ∀ i, i < N → (S i ↔ S' i)) (hT : ∀ i, i < N → S i → T i = T' i) : HoldsM N S' T' D := by
  refine ⟨fun k => ?_, fun i hi hs z => ?_⟩
  · rw [h.key k]
    constructor
    · rintro ⟨i, hi, hs, e⟩
      exact ⟨i, hi, (hS i hi).1 hs, by rw [← hT i hi hs]; exact e⟩
    · rintro ⟨i, hi, hs, e⟩
      exact ⟨i, hi, (hS i hi).2 hs, by rw [hT i hi ((hS i hi).2 hs)]; exact e⟩
  · have hs' := (hS i hi).2 hs
    rw [← hT i hi hs']
    exact h.val i hi hs' z
theorem HoldsM.put {N k : Nat} {S S' : Nat → Prop} {T : Nat → Int} {D : DataW Unit} (h : HoldsM N S T D) (hM : IsMap D) (hk : k < N) (hn : Maps.has D (kI (T k)) = false) (hS : ∀ i, i < N → (S' i ↔ S i ∨ i = k)) : HoldsM N S' T (D.put (kI (T k)) (.lit (.int .i64 (k : Int)))) := by
  have hne : ∀ i, i < N → S i → T i ≠ T k := fun i hi hs e => by
    have := (h.key (kI (T i))).2 ⟨i, hi, hs, rfl⟩
    rw [e, hn] at this
    cases this
  refine ⟨fun q => ?_, fun i hi hs z => ?_⟩
  · by_cases e : q = kI (T k)
    · rw [e, has_put_same hM (kI_key _)]
      exact ⟨fun _ => ⟨k, hk, (hS k hk).2 (.inr rfl), rfl⟩, fun _ => rfl⟩
    · rw [has_put_other e, h.key q]
      constructor
      · rintro ⟨i, hi, hs, e2⟩
        exact ⟨i, hi, (hS i hi).2 (.inl hs), e2⟩
      · rintro ⟨i, hi, hs, e2⟩
        rcases (hS i hi).1 hs with h2 | rfl
        · exact ⟨i, hi, h2, e2⟩
        · exact absurd e2 e
  · rcases (hS i hi).1 hs with h2 | rfl
    · rw [atKey_put_other (kI_ne (hne i hi h2))]
      exact h.val i hi h2 z
    · exact atKey_put_same hM (kI_key _) _ _
theorem HoldsM.del {N i : Nat} {S S' : Nat → Prop} {T : Nat → Int} {D : DataW Unit} (h : HoldsM N S T D) (hi : i < N) (hinj : ∀ j, j < N → S j → T j = T i → j = i) (hS : ∀ j, j < N → (S' j ↔ S j ∧ j ≠ i)) : HoldsM N S' T (D.del (kI (T i))) := by
  have hne : ∀ j, j < N → S' j → T j ≠ T i := fun j hj hs e => ((hS j hj).1 hs).2 (hinj j hj ((hS j hj).1 hs).1 e)
  refine ⟨fun q => ?_, fun j hj hs z => ?_⟩
  · by_cases e : q = kI (T i)
    · rw [e, has_del_same]
      exact ⟨fun h2 => (by cases h2), fun ⟨j, hj, hs, e2⟩ => absurd (show T j = T i by unfold kI at e2; injection e2 with _ e3; exact e3.symm) (hne j hj hs)⟩
    · rw [has_del_other e, h.key q]
      constructor
      · rintro ⟨j, hj, hs, e2⟩
        exact ⟨j, hj, (hS j hj).2 ⟨hs, fun e3 => e (by rw [e2, e3])⟩, e2⟩
      · rintro ⟨j, hj, hs, e2⟩
        exact ⟨j, hj, ((hS j hj).1 hs).1, e2⟩
  · rw [atKey_del_other (kI_ne (hne j hj hs))]
    exact h.val j hj ((hS j hj).1 hs).1 z
/-- the map at the block mb holds just the windows in S -/
def MapI (w : World) (mb N : Nat) (S : Nat → Prop) (T : Nat → Int) : Prop := ∃ D, w.ownsMap Try.prog 3 (plainElem (H := Unit) Try.prog 3) mb N D ∧ HoldsM N S T D
theorem HoldsM.size {N : Nat} {S : Nat → Prop} {T : Nat → Int} {w : World} {b n : Nat} {D : DataW Unit} (h : HoldsM N S T D) (ho : w.ownsMap Try.prog 3 (plainElem (H := Unit) Try.prog 3) b n D) : Maps.size D ≤ N := by
  obtain ⟨es, rfl, hp, hk⟩ := ho.entries Try.keyInt9
  have h1 : (es.map (·.1)).Nodup := List.Pairwise.map _ (fun _ _ h => h) hp
  have h2 := nodup_le9 (es.map (·.1)) ((List.range N).map fun i => kI (T i)) h1 (fun x hx => by
    obtain ⟨p, hp', rfl⟩ := List.mem_map.1 hx
    obtain ⟨i, hi, _, e⟩ := (h.key p.1).1 (by
      rw [has_eq, List.any_eq_true]
      exact ⟨p, hp', WideAt.sameKey_self (hk p hp')⟩)
    rw [e]
    exact List.mem_map.2 ⟨i, List.mem_range.2 hi, rfl⟩)
  rw [List.length_map, List.length_map, List.length_range] at h2
  rw [size_eq]; exact h2
theorem MapI.of {w : World} {mb n N : Nat} {S : Nat → Prop} {T : Nat → Int} {D : DataW Unit} (ho : w.ownsMap Try.prog 3 (plainElem (H := Unit) Try.prog 3) mb n D) (h : HoldsM N S T D) : MapI w mb N S T := ⟨D, ownsMap_small9 ho (h.size ho), h⟩
theorem MapI.congr {w : World} {mb N : Nat} {S S' : Nat → Prop} {T T' : Nat → Int} (h : MapI w mb N S T) (hS : ∀ i, i < N → (S i ↔ S' i)) (hT : ∀ i, i < N → S i → T i = T' i) : MapI w mb N S' T' := by
  obtain ⟨D, ho, hh⟩ := h
  exact ⟨D, ho, hh.congr hS hT⟩
theorem MapI.below {w w' : World} {mb N : Nat} {S : Nat → Prop} {T : Nat → Int} (h : MapI w mb N S T) (hb : Below w.heap.size w w') : MapI w' mb N S T := by
  obtain ⟨D, ho, hh⟩ := h
  exact ⟨D, ownsMap_below9 ho hb, hh⟩
theorem MapI.kept {w w' : World} {row : Option Nat} {mb N : Nat} {S : Nat → Prop} {T : Nat → Int} (h : MapI w mb N S T) (hg : w.grownBy w' row) (hne : some mb ≠ row) : MapI w' mb N S T := by
  obtain ⟨D, ho, hh⟩ := h
  exact ⟨D, ho.kept hg hne, hh⟩
theorem MapI.lt {w : World} {mb N : Nat} {S : Nat → Prop} {T : Nat → Int} (h : MapI w mb N S T) : mb < w.heap.size := by
  obtain ⟨D, ho, hh⟩ := h
  exact ho.lt
theorem map_neA {w : World} {mb n b o : Nat} {D : DataW Unit} {x : Value} (hm : w.ownsMap Try.prog 3 (plainElem (H := Unit) Try.prog 3) mb n D) (h : w.cell? ⟨b, o, none⟩ = some x) : b ≠ mb := by
  intro e
  subst e
  obtain ⟨es, clock, hh, _⟩ := hm
  unfold World.cell? at h
  simp [hh] at h
theorem MapI.cell {w : World} {mb N b o : Nat} {S : Nat → Prop} {T : Nat → Int} {x : Value} (h : MapI w mb N S T) (hc : w.cell? ⟨b, o, none⟩ = some x) : b ≠ mb := by
  obtain ⟨D, ho, hh⟩ := h
  exact map_neA ho hc
theorem MapI.made {w : World} {N : Nat} {S : Nat → Prop} {T : Nat → Int} (h : ∀ i, i < N → ¬ S i) : MapI (w.alloc (.map #[] 0)) w.heap.size N S T :=
  MapI.of (World.ownsMap_made w Try.prog 3 (plainElem (H := Unit) Try.prog 3)) (HoldsM.empty h)
theorem MapI.look {w : World} {mb N : Nat} {S : Nat → Prop} {T : Nat → Int} {r : Int} (h : MapI w mb N S T) (hr : (Lit.int .i64 r).wf = true) :
    ∃ (c : Int) (b : Bool), (Instr.lookup 78 (.map (some mb)) (.int .i64 r) true).run Try.prog w = .ok (.tuple #[.int .i64 c, .bool b]) w ∧ (b = true ↔ ∃ i, i < N ∧ S i ∧ T i = r) := by
  obtain ⟨D, ho, hh⟩ := h
  obtain ⟨v, ps, hrun, hv⟩ := ho.look_ok Try.keyInt9 Try.underlying78 (zero_int9 w) (plainElem_int Try.underlying3 (by decide)) (keyOf_int_mk (q := .i64) (a := r) Try.underlying3 hr)
  obtain ⟨c, rfl, hc, _⟩ := plainElem_int_inv Try.underlying3 hv
  refine ⟨c, Maps.has D (kI r), hrun, ?_⟩
  rw [hh.key (kI r)]
  exact ⟨fun ⟨i, hi, hs, e⟩ => ⟨i, hi, hs, by unfold kI at e; injection e with _ e2; exact e2.symm⟩, fun ⟨i, hi, hs, e⟩ => ⟨i, hi, hs, by rw [e]⟩⟩
end Go.Proofs.Yteimfdpkodcfbaa
