/- The map of counts that were reckoned before: what it holds, how great it is. Conditions: rests of at most 24 and 24. -/
import Derived.Test.YtakelcboamjndaaKey
import Derived.Maps.OwnSet
import Derived.Maps.Range
namespace Go.Proofs.Ytakelcboamjndaa
open Go.RowKit Go.Maps
set_option linter.unusedVariables false

theorem nodup_le {α : Type} (es : List α) : ∀ (Q : List α), es.Nodup → (∀ x ∈ es, x ∈ Q) → es.length ≤ Q.length := by
  classical
  induction es with
  | nil => intro Q _ _; simp
  | cons x es ih =>
    intro Q hn hs
    have hx : x ∈ Q := hs x (by simp)
    have hn' := List.nodup_cons.1 hn
    have h := ih (Q.erase x) hn'.2 (fun y hy => (List.mem_erase_of_ne (fun e => hn'.1 (by rw [← e]; exact hy))).2 (hs y (by simp [hy])))
    have h2 := List.length_erase_of_mem hx
    have h3 : 0 < Q.length := List.length_pos_of_mem hx
    simp only [List.length_cons]
    omega
theorem ownsMap_small {H : Type} {P : Program} {k : TypeId} {R : Value → Option (DataW H × List MemPlace)} {w : World} {b n m : Nat} {D : DataW H} (h : w.ownsMap P k R b n D) (hm : Maps.size D ≤ m) : w.ownsMap P k R b m D := by
  obtain ⟨es, clock, hb, F, hs, rfl⟩ := h
  refine ⟨es, clock, hb, F, ?_, rfl⟩
  simpa [Maps.size, Go.length_sorted] using hm
theorem wf24 {l : Nat} (h : l ≤ 24) : (Lit.int .i64 (l : Int)).wf = true := by
  unfold Lit.wf
  simp only [Bool.and_eq_true, decide_eq_true_eq]
  constructor
  · exact Int.le_trans (by decide : IntKind.i64.min ≤ 0) (by omega)
  · exact Int.le_trans (by omega : (l : Int) ≤ 24) (by decide)
theorem kL_ne {l b l' b' : Nat} (h : l ≤ 24) (h2 : b ≤ 24) (h' : l' ≤ 24) (h2' : b' ≤ 24) (hne : ¬ (l = l' ∧ b = b')) : kL l b ≠ kL l' b' := fun e => by
  have := kL_inj (wf24 h) (wf24 h2) (wf24 h') (wf24 h2') e
  omega
def KInv (K : Nat → Nat → Nat) (M : DataW Unit) : Prop :=
  (∀ key, Maps.has M key = true → ∃ l b : Nat, key = kL l b ∧ l ≤ 24 ∧ b ≤ 24) ∧
  ∀ l b : Nat, l ≤ 24 → b ≤ 24 → Maps.has M (kL l b) = true → M.atKey (kL l b) (.lit (.int .i64 0)) = .lit (.int .i64 (K l b : Int))
theorem KInv.empty (K : Nat → Nat → Nat) : KInv K (.map []) := ⟨fun key h => absurd h (by simp [Maps.has]), fun l b _ _ h => absurd h (by simp [Maps.has])⟩
theorem kL_key (l b : Int) : WideAt.IsKeyLit (kL l b) := by unfold kL; trivial
theorem KInv.put {K : Nat → Nat → Nat} {M : DataW Unit} (h : KInv K M) (hM : IsMap M) {l b : Nat} (hl : l ≤ 24) (hb : b ≤ 24) : KInv K (M.put (kL l b) (.lit (.int .i64 (K l b : Int)))) := by
  refine ⟨fun key hk => ?_, fun l' b' hl' hb' hk => ?_⟩
  · by_cases e : key = kL l b
    · exact ⟨l, b, e, hl, hb⟩
    · rw [has_put_other e] at hk
      exact h.1 key hk
  · by_cases e : l' = l ∧ b' = b
    · obtain ⟨rfl, rfl⟩ := e
      exact atKey_put_same hM (kL_key _ _) _ _
    · have hne := kL_ne hl' hb' hl hb e
      rw [has_put_other hne] at hk
      rw [atKey_put_other hne]
      exact h.2 l' b' hl' hb' hk
def allKeys : List Lit := (List.range 25).flatMap fun l => (List.range 25).map fun b => kL (l : Nat) (b : Nat)
theorem allKeys_len : allKeys.length = 625 := by simp [allKeys, List.length_flatMap]; decide
theorem KInv.size {K : Nat → Nat → Nat} {w : World} {P : Program} {k : TypeId} {R : Value → Option (DataW Unit × List MemPlace)} {b n : Nat} {M : DataW Unit} (h : KInv K M) (ho : w.ownsMap P k R b n M) (Q : Keyed P k) : Maps.size M ≤ 625 := by
  obtain ⟨es, rfl, hp, hk⟩ := ho.entries Q
  have h1 : (es.map (·.1)).Nodup := by
    refine List.Pairwise.map _ (fun _ _ h => h) hp
  have h2 := nodup_le (es.map (·.1)) allKeys h1 (fun x hx => by
    obtain ⟨p, hp', rfl⟩ := List.mem_map.1 hx
    obtain ⟨l, b, e, hl, hb⟩ := h.1 p.1 (by
      rw [has_eq, List.any_eq_true]
      exact ⟨p, hp', WideAt.sameKey_self (hk p hp')⟩)
    rw [e]
    exact List.mem_flatMap.2 ⟨l, List.mem_range.2 (by omega), List.mem_map.2 ⟨b, List.mem_range.2 (by omega), rfl⟩⟩)
  rw [allKeys_len, List.length_map] at h2
  rw [size_eq]; exact h2
end Go.Proofs.Ytakelcboamjndaa
