/- Contracts of the laws' helpers on tori, at rows that may be longer: markIntSS, markTorus, eqTorus. Conditions: the rows read as lists of lists. -/
import Derived.Test.YteimfdpkodcfbaaTorL
import Derived.Test.YteimfdpkodcfbaaBs3
namespace Go.Proofs.Yteimfdpkodcfbaa
open Go.RowKit Go.Maps
set_option linter.unusedVariables false
set_option maxRecDepth 4000

theorem markIntSS_F (v : Value) (L : List (List Int)) (lo hi : Nat) (m : Int) (w : World) (h : ListsE w lo hi v L) (h0 : 0 ≤ m) (h1 : m ≤ 1073741824) (hl : preLen L L.length ≤ 1073741824) :
    Calls Try.prog 29 #[v, .int .i64 m] w fun e w' => e = .returned (.int .i64 (m + preLen L L.length)) ∧ ∃ M : List (List Int), ListsE w' lo hi v M ∧ M.length = L.length ∧ (∀ i (a : i < M.length) (b : i < L.length), M[i] = marks (m + preLen L i) L[i].length) ∧ Below lo w w' ∧ w.heap.size ≤ w'.heap.size ∧ ∀ q, hi ≤ q → q < w.heap.size → w'.heap[q]? = w.heap[q]? := by
  obtain ⟨vs, hL⟩ := h
  have HL := hid hL
  have hlen := hL.len
  rcases hL.outer with ⟨rfl, hn⟩ | ⟨g, cap, cur, rfl, hbg, hgh, hg, hc1, hm, _⟩
  · obtain rfl : L = [] := List.eq_nil_of_length_eq_zero (by rw [← hlen, hn]; rfl)
    go_enter Try.func29, Try.ntmps29
    go_wp2_with fail
    refine wp_loop_rounds 1 ?_
    rw [rounds_succ]
    go_wp2
    go_ret
    exact ⟨by simp [preLen], [], ⟨vs, HL.out⟩, rfl, fun i a => by simp at a, Below.refl _ _, Nat.le_refl _, fun _ _ _ => rfl⟩
  · unfold maxLen at hm
    have HLEN := hid hlen
    have hcL : L.length ≤ cap := by rw [← hlen]; exact hc1
    rw [hlen] at HL ⊢
    clear hL hg hlen hc1
    go_enter Try.func29, Try.ntmps29
    go_wp2_with fail
    go_loopw [1, 5] (fun kv i wr => ∃ t : Nat, t ≤ L.length ∧ i = .int .i64 t ∧ kv = .int .i64 (m + preLen L t) ∧ (∃ M : List (List Int), LsE wr lo hi (.slice (some ⟨g, 0, none⟩) L.length cap) vs M ∧ M.length = L.length ∧ (∀ i (a : i < M.length) (b : i < L.length), M[i].length = L[i].length ∧ (i < t → M[i] = marks (m + preLen L i) L[i].length))) ∧ Below lo w wr ∧ w.heap.size ≤ wr.heap.size ∧ ∀ q, hi ≤ q → q < w.heap.size → wr.heap[q]? = w.heap[q]?) (fun _ i _ => L.length - (intOf i).toNat)
    case atStart => exact ⟨0, Nat.zero_le _, rfl, by simp [preLen], ⟨L, HL.out, rfl, fun i a b => ⟨rfl, fun h => by omega⟩⟩, Below.refl _ _, Nat.le_refl _, fun _ _ _ => rfl⟩
    case round =>
      obtain ⟨t, ht, rfl, rfl, ⟨M, hM, hMl, hMe⟩, hbel, hsz, hst⟩ := hrel
      have HST := hid hst
      clear hst
      have HM := hid hM
      have HB := hid hbel
      have HME := hid hMe
      have HSZ := hid hsz
      have hpm := preLen_mono L ht
      by_cases hlt : t < L.length
      · have htM : t < M.length := by omega
        have htv : t < vs.length := by rw [HLEN.out]; exact hlt
        have hcz : wr.cell? ⟨g, t, none⟩ = some vs[t] := hM.cell.2.2.2.2.2.2 t htv
        have HO := hid (hM.rows t htv htM)
        obtain ⟨l, hll⟩ : ∃ l, l = M[t] := ⟨_, rfl⟩
        have hle : l.length = L[t].length := by rw [hll]; exact (HME.out t htM hlt).1
        have hpn := preLen_mono L (show t + 1 ≤ L.length from hlt)
        have HP := hid (show preLen L (t + 1) = preLen L t + l.length by rw [preLen, hle]; simp [List.getD_eq_getElem?_getD, hlt])
        rw [HP.out] at hpn
        rw [← hll] at HO
        have HLE := hid hle
        have HML := hid hMl
        obtain ⟨p, hp⟩ : ∃ p, p = preLen L t := ⟨_, rfl⟩
        rw [← hp] at HP hpn hpm ⊢
        have HPP := hid hp
        obtain ⟨z, hz⟩ : ∃ z, z = vs[t] := ⟨_, rfl⟩
        rw [← hz] at hcz HO
        have HZ := hid hz
        have h3 : 0 ≤ m + (p : Int) := by omega
        have h4 : m + (p : Int) ≤ 1099511627776 := by omega
        have h5 : l.length ≤ 1099511627776 := by omega
        have q1 : (0 : Int) ≤ (t : Int) := by omega
        have q2 : (t : Int) < (L.length : Int) := by omega
        clear hll hle hp hz hM hMl hMe hbel hsz
        go_wp2_with (first | (go_at_call 20; refine (markIntS_E _ l lo _ _ HO.out.1 h3 h4 h5).mono ?_; rintro e w1 ⟨rfl, hown, hgr⟩; have HOW := hid hown; have HGR := hid hgr; clear hown hgr) | fail)
        have HN := hid (HM.out.mark htv (by rw [← HZ.out]; exact HOW.out) (by rw [← HZ.out]; exact HGR.out))
        have HBN := hid (HB.out.grown HGR.out (by have h1 := (HM.out.cell).2.2.2.1; have h2 := (HM.out.cell).2.2.2.2.2.1; omega) (fun q hq => (HO.out.1.low q hq).1))
        have HTN := hid (show ∀ q, hi ≤ q → q < w.heap.size → w1.heap[q]? = w.heap[q]? from fun q h1 h2 => by
          rw [HGR.out.block q (Nat.lt_of_lt_of_le h2 HSZ.out) (fun e => by have := HO.out.2 q e.symm; omega)]
          exact HST.out q h1 h2)
        have HSN := hid (Nat.le_trans HSZ.out HGR.out.size)
        have HEN := hid (show ∀ i (a : i < (M.set t (marks (m + p) l.length)).length) (b : i < L.length), (M.set t (marks (m + p) l.length))[i].length = L[i].length ∧ (i < t + 1 → (M.set t (marks (m + p) l.length))[i] = marks (m + preLen L i) L[i].length) from fun i a b => by
          by_cases e : t = i
          · subst e
            rw [List.getElem_set_self, marks_length, ← HLE.out, ← HPP.out]
            exact ⟨rfl, fun _ => rfl⟩
          · rw [List.getElem_set_ne e]
            have := HME.out i (by simpa using a) b
            exact ⟨this.1, fun h => this.2 (by omega)⟩)
        go_roundw
        case rel => exact ⟨t + 1, by omega, by go_num, by rw [HP.out]; go_num, ⟨_, HN.out, by simp [HML.out], HEN.out⟩, HBN.out, HSN.out, HTN.out⟩
        case measure => simp [intOf]; omega
      · obtain rfl : t = L.length := by omega
        clear hM hbel hsz
        go_wp2_with fail
        go_ret
        exact ⟨rfl, M, ⟨vs, HM.out⟩, hMl, fun i a b => (HME.out i a b).2 b, HB.out, HSZ.out, HST.out⟩
theorem markTorus_F (v : Value) (L : List (List Int)) (lo hi : Nat) (m : Int) (w : World) (h : ListsE w lo hi v L) (hH : hi ≤ w.heap.size) (hB : lo ≤ w.heap.size) (h0 : 0 ≤ m) (h1 : m ≤ 1073741824) (hl : preLen L L.length ≤ 1073741824) :
    Calls Try.prog 51 #[.agg #[v], .int .i64 m] w fun e w' => e = .returned (.int .i64 (m + preLen L L.length)) ∧ ∃ M : List (List Int), ListsE w' lo hi v M ∧ Marked m M ∧ preLen M M.length = preLen L L.length ∧ Below lo w w' ∧ w.heap.size ≤ w'.heap.size ∧ ∀ q, hi ≤ q → q < w.heap.size → w'.heap[q]? = w.heap[q]? := by
  have hsh := h.reads
  obtain ⟨a, c, rfl, _⟩ := hsh
  obtain ⟨w1, hw1⟩ : ∃ w1, w1 = w.alloc (.cells #[.slice a L.length c] 48) := ⟨_, rfl⟩
  have hB1 : Below w.heap.size w w1 := by rw [hw1]; exact (Below.refl _ _).alloc (Nat.le_refl _) _
  have HB1 := hid hB1
  have HS1 := hid (show w1.heap.size = w.heap.size + 1 by rw [hw1]; simp)
  have HL := hid (h.below hB1)
  have HW1 := hid hw1
  clear hw1 hB1 h
  go_enter Try.func51, Try.ntmps51
  go_wp2_with fail
  rw [← HW1.out]
  refine (markIntSS_F _ L lo hi m _ HL.out h0 h1 hl).mono ?_
  rintro e w3 ⟨rfl, M, hM, hMl, hMe, hb3, hs3, hst⟩
  have hk := marked_of hMl hMe
  have HM := hid hM
  have HK := hid hk
  have HB3 := hid hb3
  have HS3 := hid hs3
  have HT3 := hid hst
  clear hM hMl hMe hb3 hs3 hk hst
  go_wp2_with fail
  go_ret
  have hs1 := HS1.out
  exact ⟨rfl, M, HM.out, HK.out.1, HK.out.2, (HB1.out.mono hB).trans HB3.out, Nat.le_trans (by omega) HS3.out, fun q h2 h3 => by rw [HT3.out q h2 (by omega), HB1.out.block q h3]⟩
theorem ListsE.stayT {w w' : World} {lo hi : Nat} {v : Value} {L : List (List Int)} (h : ListsE w lo hi v L) (hk : ∀ k, lo ≤ k → k < hi → w'.heap[k]? = w.heap[k]?) : ListsE w' lo hi v L := by
  obtain ⟨vs, h⟩ := h
  refine ⟨vs, h.len, ?_, fun i a b => ⟨(h.rows i a b).1.of_block (fun k hv => hk k ((h.rows i a b).1.low k hv).1 ((h.rows i a b).2 k hv)), (h.rows i a b).2⟩, h.apart⟩
  rcases h.outer with h1 | ⟨g, cap, cur, e, h1, h2, hg, rest⟩
  · exact .inl h1
  · exact .inr ⟨g, cap, cur, e, h1, h2, (hk g h1 h2).trans hg, rest⟩
theorem eqTorus_R (v u : Value) (L : List (List Int)) (w : World) (h : ReadsL w v L) (h' : ReadsL w u L) :
    Calls Try.prog 48 #[.agg #[v], .agg #[u]] w fun e w' => e = .returned (.bool true) ∧ Below w.heap.size w w' := by
  have h1 := h
  have h2 := h'
  obtain ⟨a, c, rfl, _⟩ := h1
  obtain ⟨a', c', rfl, _⟩ := h2
  obtain ⟨w1, hw1⟩ : ∃ w1, w1 = (w.alloc (.cells #[.slice a L.length c] 48)).alloc (.cells #[.slice a' L.length c'] 48) := ⟨_, rfl⟩
  have hB1 : Below w.heap.size w w1 := by rw [hw1]; exact ((Below.refl _ _).alloc (Nat.le_refl _) _).alloc (sz_al9 (Nat.le_refl _) _) _
  have HB1 := hid hB1
  have HL := hid (h.below hB1)
  have HL' := hid (h'.below hB1)
  have HW1 := hid hw1
  clear hw1 hB1 h h'
  go_enter Try.func48, Try.ntmps48
  go_wp2_with (first
    | (go_at_call 28; (rw [← HW1.out]); (refine (eqIntSS_R _ _ L _ HL.out HL'.out).mono ?_); (rintro e w3 ⟨rfl, hb3⟩); (have HB3 := hid (Below_chain HB1.out hb3)); (clear hb3))
    | fail)
  go_ret
  exact ⟨rfl, HB3.out⟩
end Go.Proofs.Yteimfdpkodcfbaa
