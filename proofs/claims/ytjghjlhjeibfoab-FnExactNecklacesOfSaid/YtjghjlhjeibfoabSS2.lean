/- Contract: markIntSS. Conditions: the slice reads as a list of lists, its rows owned and apart from each other. -/
import Derived.Test.YtjghjlhjeibfoabSS
namespace Go.Proofs.Ytjghjlhjeibfoab
open Go.RowKit
set_option linter.unusedVariables false

/-- v is a slice of slices, its own row from block base on, whose elements are owned slices, no two of them on one block, that read as L. -/
def ListsA (w : World) (base : Nat) (v : Value) (L : List (List Int)) : Prop :=
  ∃ vs : List Value, vs.length = L.length ∧ w.ownsRow base 22 1 v L.length vs ∧ (∀ i (h1 : i < L.length) (h2 : i < vs.length), Own w base vs[i] L[i]) ∧
    ∀ i j (h1 : i < vs.length) (h2 : j < vs.length) (g : Nat), i ≠ j → vs[i].ownBlock = some g → vs[j].ownBlock ≠ some g
theorem ListsA.lists {w : World} {base : Nat} {v : Value} {L : List (List Int)} (h : ListsA w base v L) : Lists w base v L := by
  obtain ⟨vs, h1, h2, h3, _⟩ := h
  exact ⟨vs, h1, h2, h3⟩
theorem ListsA.below {w w' : World} {base : Nat} {v : Value} {L : List (List Int)} (h : ListsA w base v L) (hb : Below w.heap.size w w') : ListsA w' base v L := by
  obtain ⟨vs, h1, h2, h3, h4⟩ := h
  exact ⟨vs, h1, ownsRow_below h2 hb, fun i a b => (h3 i a b).below hb, h4⟩
theorem ListsA.mono {w : World} {base base' : Nat} {v : Value} {L : List (List Int)} (h : ListsA w base v L) (hb : base' ≤ base) : ListsA w base' v L := by
  obtain ⟨vs, h1, h2, h3, h4⟩ := h
  exact ⟨vs, h1, ownsRow_mono h2 hb, fun i a b => (h3 i a b).mono hb, h4⟩
theorem row_kept_int {w w' : World} {base b0 : Nat} {x v : Value} {n : Nat} {vs : List Value} {xs : List Int} {T : TypeId} (hv : w.ownsRow b0 T 1 v n vs) (hT : T ≠ 3) (h : Own w base x xs) (hg : w.grownBy w' x.ownBlock) : w'.ownsRow b0 T 1 v n vs := by
  refine World.ownsRow.kept hv hg ?_
  rcases hv.2 with ⟨rfl, _⟩ | ⟨g', cap', cur', rfl, _, hgg', _⟩
  · exact .inl rfl
  · right
    rcases h.2 with ⟨rfl, _⟩ | ⟨g, cap, cur, rfl, _, hgg, _⟩
    · simp [Value.ownBlock]
    · simp only [Value.ownBlock, ne_eq, Option.some.injEq]
      intro e
      rw [e, hgg] at hgg'
      simp at hgg'
      exact hT hgg'.2.symm
theorem ListsA.mark {w w' : World} {base : Nat} {v : Value} {L : List (List Int)} {vs : List Value} {t : Nat} {ys : List Int} (h1 : vs.length = L.length) (h2 : w.ownsRow base 22 1 v L.length vs)
    (h3 : ∀ i (h1 : i < L.length) (h2 : i < vs.length), Own w base vs[i] L[i]) (h4 : ∀ i j (h1 : i < vs.length) (h2 : j < vs.length) (g : Nat), i ≠ j → vs[i].ownBlock = some g → vs[j].ownBlock ≠ some g)
    (ht : t < vs.length) (hu : Own w' base vs[t] ys) (hg : w.grownBy w' vs[t].ownBlock) : ListsA w' base v (L.set t ys) := by
  have htl : t < L.length := by omega
  refine ⟨vs, by simp [h1], by rw [List.length_set]; exact row_kept_int h2 (by decide) (h3 t htl ht) hg, fun i a b => ?_, h4⟩
  rw [List.length_set] at a
  by_cases e : t = i
  · subst e
    simpa using hu
  · rw [List.getElem_set_ne e]
    refine Own.kept (h3 i a b) hg ?_
    rcases (h3 i a b).form with ⟨hn, _⟩ | ⟨g, cap, hs, _⟩
    · exact .inl (by rw [hn]; rfl)
    · right
      intro e2
      have e3 : vs[i].ownBlock = some g := by rw [hs]; rfl
      exact h4 i t b ht g (fun e => by omega) e3 (by rw [← e2, e3])
theorem markIntSS_any (v : Value) (L : List (List Int)) (base : Nat) (m : Int) (w : World) (h : ListsA w base v L) (h0 : 0 ≤ m) (h1 : m ≤ 1073741824) (hl : preLen L L.length ≤ 1073741824) :
    Calls Try.prog 23 #[v, .int .i64 m] w fun e w' => e = .returned (.int .i64 (m + preLen L L.length)) ∧ ∃ M : List (List Int), ListsA w' base v M ∧ M.length = L.length ∧ (∀ i (a : i < M.length) (b : i < L.length), M[i] = marks (m + preLen L i) L[i].length) ∧ Below base w w' ∧ w.heap.size ≤ w'.heap.size := by
  have HL := hid h
  rcases h.lists.form with ⟨rfl, rfl⟩ | ⟨g, cap, rfl, hbg, hg, hc1, hm, hc⟩
  · go_enter Try.func23, Try.ntmps23
    go_wp2_with fail
    refine wp_loop_rounds 1 ?_
    rw [rounds_succ]
    go_wp2
    go_ret
    exact ⟨by simp [preLen], [], HL.out, rfl, fun i a => by simp at a, Below.refl _ _, Nat.le_refl _⟩
  · clear hc h
    go_enter Try.func23, Try.ntmps23
    go_wp2_with fail
    go_loopw [1, 5] (fun kv i wr => ∃ t : Nat, t ≤ L.length ∧ i = .int .i64 t ∧ kv = .int .i64 (m + preLen L t) ∧ (∃ M : List (List Int), ListsA wr base (.slice (some ⟨g, 0, none⟩) L.length cap) M ∧ M.length = L.length ∧ (∀ i (a : i < M.length) (b : i < L.length), M[i].length = L[i].length ∧ (i < t → M[i] = marks (m + preLen L i) L[i].length))) ∧ Below base w wr ∧ w.heap.size ≤ wr.heap.size) (fun _ i _ => L.length - (intOf i).toNat)
    case atStart => exact ⟨0, Nat.zero_le _, rfl, by simp [preLen], ⟨L, HL.out, rfl, fun i a b => ⟨rfl, fun h => by omega⟩⟩, Below.refl _ _, Nat.le_refl _⟩
    case round =>
      obtain ⟨t, ht, rfl, rfl, ⟨M, hM, hMl, hMe⟩, hbel, hsz⟩ := hrel
      have HM := hid hM
      have HB := hid hbel
      have HME := hid hMe
      have hpm := preLen_mono L ht
      clear hM hbel hMe
      by_cases hlt : t < L.length
      · obtain ⟨vs, v1, v2, v3, v4⟩ := HM.out
        have htM : t < M.length := by omega
        have htv : t < vs.length := by omega
        have hcz : wr.cell? ⟨g, t, none⟩ = some vs[t] := by
          have v2' := v2
          rw [hMl] at v2'
          have := World.ownsRow.cellAt v2' t (by omega)
          rw [this, List.getElem?_eq_getElem htv]
        have HO := hid (v3 t htM htv)
        obtain ⟨l, hll⟩ : ∃ l, l = M[t] := ⟨_, rfl⟩
        have hle : l.length = L[t].length := by rw [hll]; exact (HME.out t htM hlt).1
        have hpn := preLen_mono L (show t + 1 ≤ L.length from hlt)
        have HP := hid (show preLen L (t + 1) = preLen L t + l.length by rw [preLen, hle]; simp [List.getD_eq_getElem?_getD, hlt])
        rw [HP.out] at hpn
        rw [← hll] at HO
        have HLE := hid hle
        have HV1 := hid v1
        have HV2 := hid v2
        have HV3 := hid v3
        have HV4 := hid v4
        obtain ⟨p, hp⟩ : ∃ p, p = preLen L t := ⟨_, rfl⟩
        rw [← hp] at HP hpn hpm ⊢
        have HPP := hid hp
        obtain ⟨z, hz⟩ : ∃ z, z = vs[t] := ⟨_, rfl⟩
        rw [← hz] at hcz HO
        have HZ := hid hz
        have h3 : 0 ≤ m + (p : Int) := by omega
        have h4 : m + (p : Int) ≤ 1099511627776 := by omega
        have h5 : l.length ≤ 1099511627776 := by omega
        clear hll hle v1 v2 v3 v4 hp hz
        go_wp2_with (first | (go_at_call 18; refine (markIntS_any _ l base _ _ HO.out h3 h4 h5).mono ?_; rintro e w1 ⟨rfl, hown, hgr⟩; have HOW := hid hown; have HGR := hid hgr; clear hown hgr) | fail)
        have HN := hid (ListsA.mark HV1.out HV2.out HV3.out HV4.out htv (by rw [← HZ.out]; exact HOW.out) (by rw [← HZ.out]; exact HGR.out))
        have HBN := hid (HB.out.grown HGR.out (by omega) (fun q hq => (World.ownsRow.lt HO.out.row q hq).1))
        have HSN := hid (Nat.le_trans hsz HGR.out.size)
        have HEN := hid (show ∀ i (a : i < (M.set t (marks (m + p) l.length)).length) (b : i < L.length), (M.set t (marks (m + p) l.length))[i].length = L[i].length ∧ (i < t + 1 → (M.set t (marks (m + p) l.length))[i] = marks (m + preLen L i) L[i].length) from fun i a b => by
          by_cases e : t = i
          · subst e
            rw [List.getElem_set_self, marks_length, ← HLE.out, ← HPP.out]
            exact ⟨rfl, fun _ => rfl⟩
          · rw [List.getElem_set_ne e]
            have := HME.out i (by simpa using a) b
            exact ⟨this.1, fun h => this.2 (by omega)⟩)
        go_roundw
        case rel => exact ⟨t + 1, by omega, by go_num, by rw [HP.out]; go_num, ⟨_, HN.out, by simp [hMl], HEN.out⟩, HBN.out, HSN.out⟩
        case measure => simp [intOf]; omega
      · obtain rfl : t = L.length := by omega
        go_wp2_with fail
        go_ret
        exact ⟨rfl, M, HM.out, hMl, fun i a b => (HME.out i a b).2 b, HB.out, hsz⟩
end Go.Proofs.Ytjghjlhjeibfoab
