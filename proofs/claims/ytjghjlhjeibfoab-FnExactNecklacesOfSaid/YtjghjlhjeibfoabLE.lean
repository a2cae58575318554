/- Results that are lists of lists, whose rows may be longer than what is handed out (slices with three indexes); contracts at them: eqIntSS, heldIntSS, markIntSS. Conditions: the slices read as lists of lists. -/
import Derived.Test.YtjghjlhjeibfoabRowsL
import Derived.Test.YtjghjlhjeibfoabPreL
import Derived.Test.YtjghjlhjeibfoabOwnE
namespace Go.Proofs.Ytjghjlhjeibfoab
open Go.RowKit
set_option linter.unusedVariables false
set_option maxRecDepth 4000

/-- v is a slice whose elements are the slices vs, which read as L; all rows lie from lo on and below hi, no two elements on one row; rows may go on behind the caps. -/
structure LsE (w : World) (lo hi : Nat) (v : Value) (vs : List Value) (L : List (List Int)) : Prop where
  len : vs.length = L.length
  outer : (v = .slice none 0 0 ∧ vs = []) ∨ ∃ g cap cur, v = .slice (some ⟨g, 0, none⟩) vs.length cap ∧ lo ≤ g ∧ g < hi ∧ w.heap[g]? = some (.cells cur 22 (0, 0)) ∧ vs.length ≤ cap ∧ cap ≤ maxLen ∧ cap ≤ cur.size ∧ cur.toList.take vs.length = vs
  rows : ∀ i (h : i < vs.length) (h2 : i < L.length), LivesE w lo hi vs[i] L[i]
  apart : ∀ i j (h1 : i < vs.length) (h2 : j < vs.length) (g : Nat), i ≠ j → vs[i].ownBlock = some g → vs[j].ownBlock ≠ some g
def ListsE (w : World) (lo hi : Nat) (v : Value) (L : List (List Int)) : Prop := ∃ vs, LsE w lo hi v vs L
theorem cells_take {w : World} {g n : Nat} {T : TypeId} {cur : Array Value} {vs : List Value} (hg : w.heap[g]? = some (.cells cur T (0, 0))) (ht : cur.toList.take n = vs) (i : Nat) (hi : i < vs.length) (hn : n = vs.length) : w.cell? ⟨g, i, none⟩ = some vs[i] := by
  have e : (cur.toList.take n)[i]? = some vs[i] := by rw [ht]; exact List.getElem?_eq_getElem hi
  rw [List.getElem?_take_of_lt (by omega)] at e
  unfold World.cell?
  simp [hg]
  simpa using e
theorem LsE.cell {w : World} {lo hi g n c : Nat} {vs : List Value} {L : List (List Int)} (h : LsE w lo hi (.slice (some ⟨g, 0, none⟩) n c) vs L) : n = vs.length ∧ vs.length ≤ c ∧ c ≤ 9223372036854775807 ∧ lo ≤ g ∧ g < hi ∧ g < w.heap.size ∧ ∀ i (hi : i < vs.length), w.cell? ⟨g, i, none⟩ = some vs[i] := by
  rcases h.outer with ⟨e, _⟩ | ⟨g', cap, cur, e, h1, h2, hg, h3, h4, h5, h6⟩
  · simp at e
  · simp only [Value.slice.injEq, Option.some.injEq, Addr.mk.injEq, and_true] at e
    obtain ⟨rfl, rfl, rfl⟩ := e
    exact ⟨rfl, h3, by unfold maxLen at h4; omega, h1, h2, (Array.getElem?_eq_some_iff.1 hg).1, fun i hi => cells_take hg h6 i hi rfl⟩
theorem LsE.reads {w : World} {lo hi : Nat} {v : Value} {vs : List Value} {L : List (List Int)} (h : LsE w lo hi v vs L) : ReadsL w v L := by
  rcases h.outer with ⟨rfl, e⟩ | ⟨g, cap, cur, rfl, h1, h2, hg, h3, h4, h5, h6⟩
  · have hL : L = [] := List.eq_nil_of_length_eq_zero (by rw [← h.len, e]; rfl)
    subst hL
    exact ⟨none, 0, rfl, Nat.le_refl _, by unfold maxLen; omega, .inl rfl⟩
  · refine ⟨_, cap, by rw [h.len], by rw [← h.len]; exact h3, h4, .inr ⟨g, 0, rfl, (Array.getElem?_eq_some_iff.1 hg).1, fun i hi => ?_⟩⟩
    have hi2 : i < vs.length := by rw [h.len]; exact hi
    exact ⟨vs[i], by rw [Nat.zero_add]; exact cells_take hg h6 i hi2 rfl, (h.rows i hi2 hi).reads⟩
theorem ListsE.reads {w : World} {lo hi : Nat} {v : Value} {L : List (List Int)} (h : ListsE w lo hi v L) : ReadsL w v L := by
  obtain ⟨vs, h⟩ := h
  exact h.reads
theorem LsE.below {w w' : World} {lo hi : Nat} {v : Value} {vs : List Value} {L : List (List Int)} (h : LsE w lo hi v vs L) (hb : Below w.heap.size w w') : LsE w' lo hi v vs L := by
  refine ⟨h.len, ?_, fun i a b => (h.rows i a b).below hb, h.apart⟩
  rcases h.outer with h1 | ⟨g, cap, cur, e, h1, h2, hg, rest⟩
  · exact .inl h1
  · exact .inr ⟨g, cap, cur, e, h1, h2, (hb.block g (Array.getElem?_eq_some_iff.1 hg).1).trans hg, rest⟩
theorem ListsE.below {w w' : World} {lo hi : Nat} {v : Value} {L : List (List Int)} (h : ListsE w lo hi v L) (hb : Below w.heap.size w w') : ListsE w' lo hi v L := by
  obtain ⟨vs, h⟩ := h
  exact ⟨vs, h.below hb⟩
theorem ListsE.mono {w : World} {lo hi lo' hi' : Nat} {v : Value} {L : List (List Int)} (h : ListsE w lo hi v L) (h1 : lo' ≤ lo) (h2 : hi ≤ hi') : ListsE w lo' hi' v L := by
  obtain ⟨vs, a, b, c, d⟩ := h
  refine ⟨vs, a, ?_, fun i x y => ⟨(c i x y).1.mono h1, fun k hk => Nat.lt_of_lt_of_le ((c i x y).2 k hk) h2⟩, d⟩
  rcases b with b | ⟨g, cap, cur, e, g1, g2, rest⟩
  · exact .inl b
  · exact .inr ⟨g, cap, cur, e, Nat.le_trans h1 g1, Nat.lt_of_lt_of_le g2 h2, rest⟩
theorem ListsA.listsE {w : World} {base : Nat} {v : Value} {L : List (List Int)} (h : ListsA w base v L) : ListsE w base w.heap.size v L := by
  obtain ⟨vs, a, b, c, d⟩ := h
  refine ⟨vs, a, ?_, fun i x y => (c i y x).livesE, d⟩
  rcases b.2 with ⟨e, hn⟩ | ⟨g, cap, cur, e, hg, hgg, h3, h4, h5, h6⟩
  · exact .inl ⟨e, List.eq_nil_of_length_eq_zero (by omega)⟩
  · exact .inr ⟨g, cap, cur, by rw [a]; exact e, hg, (Array.getElem?_eq_some_iff.1 hgg).1, hgg, by omega, h4, by omega, by rw [a]; simpa using h6⟩
/-- A list of lists stays while another value's row is marked. -/
theorem ListsE.kept {w w' : World} {lo hi : Nat} {v : Value} {L : List (List Int)} {row : Option Nat} (h : ListsE w lo hi v L) (hg : w.grownBy w' row) (hne : ∀ k, row = some k → k < lo ∨ hi ≤ k) : ListsE w' lo hi v L := by
  obtain ⟨vs, a, b, c, d⟩ := h
  refine ⟨vs, a, ?_, fun i x y => ⟨(c i x y).1.of_block fun k hk => hg.block k ((c i x y).1.low k hk).2 (fun e => ?_), (c i x y).2⟩, d⟩
  · rcases b with b | ⟨g, cap, cur, e, g1, g2, hgg, rest⟩
    · exact .inl b
    · exact .inr ⟨g, cap, cur, e, g1, g2, (hg.block g (Array.getElem?_eq_some_iff.1 hgg).1 (fun e => by have := hne g e.symm; omega)).trans hgg, rest⟩
  · have h1 := ((c i x y).1.low k hk).1
    have h2 := (c i x y).2 k hk
    have := hne k e.symm
    omega
theorem LsE.mark {w w' : World} {lo hi t : Nat} {v : Value} {vs : List Value} {L : List (List Int)} {ys : List Int} (h : LsE w lo hi v vs L) (ht : t < vs.length) (hu : OwnE w' lo vs[t] ys) (hg : w.grownBy w' vs[t].ownBlock) : LsE w' lo hi v vs (L.set t ys) := by
  have htl : t < L.length := by rw [← h.len]; exact ht
  refine ⟨by rw [List.length_set]; exact h.len, ?_, fun i a b => ?_, h.apart⟩
  · rcases h.outer with b | ⟨g, cap, cur, e, g1, g2, hgg, rest⟩
    · exact .inl b
    · refine .inr ⟨g, cap, cur, e, g1, g2, (hg.block g (Array.getElem?_eq_some_iff.1 hgg).1 (fun e => ?_)).trans hgg, rest⟩
      rcases (h.rows t ht htl).1 with ⟨e2, _⟩ | ⟨q, cap2, cur2, e2, _, hq, _⟩
      · rw [e2] at e; simp [Value.ownBlock] at e
      · rw [e2] at e
        have e3 : g = q := Option.some.inj e
        rw [e3, hq] at hgg
        simp at hgg
  · have b' : i < L.length := by simpa using b
    by_cases e : t = i
    · subst e
      refine ⟨by simpa using hu, (h.rows t ht htl).2⟩
    · rw [List.getElem_set_ne e]
      refine ⟨OwnE.kept (h.rows i a b').1 hg ?_, (h.rows i a b').2⟩
      cases hv : vs[i].ownBlock with
      | none => exact .inl rfl
      | some q => exact .inr (fun e2 => h.apart i t a ht q (fun e3 => e e3.symm) hv e2.symm)
theorem heldIntSS_R (v : Value) (L : List (List Int)) (m : Int) (w : World) (h : ReadsL w v L) (hx : Marked m L) (h0 : 0 ≤ m) (h1 : m ≤ 1073741824) (hl : preLen L L.length ≤ 1073741824) :
    Calls Try.prog 24 #[v, .int .i64 m] w fun e w' => e = .returned (.int .i64 (m + preLen L L.length)) ∧ w = w' := by
  obtain ⟨ao, c, rfl, hc1, hm, h⟩ := h
  unfold maxLen at hm
  rcases h with rfl | ⟨b, off, rfl, hb, hc⟩
  · go_enter Try.func24, Try.ntmps24
    go_wp2_with fail
    refine wp_loop_rounds 1 ?_
    rw [rounds_succ]
    go_wp2
    go_ret
    exact ⟨by simp [preLen], rfl⟩
  · have HC := hid hc
    have HX := hid hx
    clear hc hx
    go_enter Try.func24, Try.ntmps24
    go_wp2_with fail
    go_loop [1, 5] (fun kv i => ∃ t : Nat, t ≤ L.length ∧ i = .int .i64 t ∧ kv = .int .i64 (m + preLen L t)) (fun _ i => L.length - (intOf i).toNat)
    case atStart => exact ⟨0, Nat.zero_le _, rfl, by simp [preLen]⟩
    case round =>
      obtain ⟨t, ht, rfl, rfl⟩ := hrel
      have hpm := preLen_mono L ht
      by_cases hlt : t < L.length
      · obtain ⟨z, hz, hown⟩ := HC.out t hlt
        have HZ := hid hown
        have hpn := preLen_mono L (show t + 1 ≤ L.length from hlt)
        have HP := hid (show preLen L (t + 1) = preLen L t + L[t].length by rw [preLen]; simp [List.getD_eq_getElem?_getD, hlt])
        have HMK := hid (HX.out t hlt)
        rw [HP.out] at hpn
        obtain ⟨l, hll⟩ : ∃ l, l = L[t] := ⟨_, rfl⟩
        rw [← hll] at HZ HP HMK hpn
        obtain ⟨p, hp⟩ : ∃ p, p = preLen L t := ⟨_, rfl⟩
        rw [← hp] at HP HMK hpn hpm ⊢
        have h3 : 0 ≤ m + (p : Int) := by omega
        have h4 : m + (p : Int) ≤ 1099511627776 := by omega
        have h5 : l.length ≤ 1099511627776 := by omega
        have q1 : (0 : Int) ≤ (t : Int) := by omega
        have q2 : (t : Int) < (L.length : Int) := by omega
        clear hown hll hp
        go_wp2_with (first | (go_at_call 19; refine (heldIntS_any _ l _ _ HZ.out HMK.out h3 h4 h5).mono ?_; rintro e w1 ⟨rfl, rfl⟩) | fail)
        go_round
        case rel => exact ⟨t + 1, by omega, by go_num, by rw [HP.out]; go_num⟩
        case measure => simp [intOf]; omega
      · obtain rfl : t = L.length := by omega
        go_wp2_with fail
        go_ret
        exact ⟨rfl, rfl⟩
theorem eqIntSS_R (v u : Value) (L : List (List Int)) (w : World) (h : ReadsL w v L) (h' : ReadsL w u L) :
    Calls Try.prog 22 #[v, u] w fun e w' => e = .returned (.bool true) ∧ Below w.heap.size w w' := by
  obtain ⟨ao, c, rfl, hc1, hm, h⟩ := h
  obtain ⟨ao', c', rfl, hc1', hm', h'⟩ := h'
  unfold maxLen at hm hm'
  rcases h with rfl | ⟨g, off, rfl, hg, hc⟩
  · go_enter Try.func22, Try.ntmps22
    go_wp2_with fail
    refine wp_loop_rounds 1 ?_
    rw [rounds_succ]
    go_wp2
    go_ret
    exact ⟨rfl, Below.refl _ _⟩
  · rcases h' with rfl | ⟨g', off', rfl, hg', hc'⟩
    · go_enter Try.func22, Try.ntmps22
      go_wp2_with fail
      refine wp_loop_rounds 1 ?_
      rw [rounds_succ]
      go_wp2
      go_ret
      exact ⟨rfl, Below.refl _ _⟩
    · have HC := hid hc
      have HC' := hid hc'
      clear hc hc'
      go_enter Try.func22, Try.ntmps22
      go_wp2_with fail
      go_loopw [5] (fun i wr => ∃ t : Nat, t ≤ L.length ∧ i = .int .i64 t ∧ Below w.heap.size w wr) (fun i _ => L.length - (intOf i).toNat)
      case atStart => exact ⟨0, Nat.zero_le _, rfl, Below.refl _ _⟩
      case round =>
        obtain ⟨t, ht, rfl, hbel⟩ := hrel
        have HB := hid hbel
        by_cases hlt : t < L.length
        · obtain ⟨z, hz, hown⟩ := HC.out t hlt
          obtain ⟨z', hz', hown'⟩ := HC'.out t hlt
          have hcx : wr.cell? ⟨g, off + t, none⟩ = some z := (hbel.cell (by exact hg)).trans hz
          have hcx' : wr.cell? ⟨g', off' + t, none⟩ = some z' := (hbel.cell (by exact hg')).trans hz'
          have HZ := hid (hown.below hbel)
          have HZ' := hid (hown'.below hbel)
          have hgr : g < wr.heap.size := by have := hbel.size; omega
          have hgr' : g' < wr.heap.size := by have := hbel.size; omega
          obtain ⟨l, hl⟩ : ∃ l, l = L[t] := ⟨_, rfl⟩
          rw [← hl] at HZ HZ'
          have hd : decide (l = l) = true := by simp
          have q1 : (0 : Int) ≤ (t : Int) := by omega
          have q2 : (t : Int) < (L.length : Int) := by omega
          clear hz hz' hown hown' hbel hl
          go_wp2_with fail
          go_region_held3 (fun w' => w'.cell? ⟨g, off + t, none⟩ = some z ∧ w'.cell? ⟨g', off' + t, none⟩ = some z')
            (first | exact ⟨hcx, hcx'⟩ | exact ⟨(HB1.out.cell (by exact hgr)).trans hcx, (HB1.out.cell (by exact hgr')).trans hcx'⟩ | go_keep | fail)
            (first
              | (go_at_call 15; refine (eqIntS_any _ _ l l _ ?_ ?_).mono ?_; (exact HZ.out.below (Below.refl _ _).drew); (exact HZ'.out.below (Below.refl _ _).drew); rintro e w1 ⟨rfl, hb1⟩; have HB1 := hid (Below_chain (Below.refl wr.heap.size wr).drew hb1); clear hb1; (try rw [hd]); (try simp only [decide_true]))
              | fail)
          all_goals
            go_wp2_with fail
            go_roundw
            case rel => exact ⟨t + 1, by omega, by go_num, Below_chain HB.out HB1.out⟩
            case measure => simp [intOf]; omega
        · obtain rfl : t = L.length := by omega
          go_wp2_with fail
          go_ret
          exact ⟨rfl, HB.out⟩
theorem markIntSS_E (v : Value) (L : List (List Int)) (lo hi : Nat) (m : Int) (w : World) (h : ListsE w lo hi v L) (h0 : 0 ≤ m) (h1 : m ≤ 1073741824) (hl : preLen L L.length ≤ 1073741824) :
    Calls Try.prog 23 #[v, .int .i64 m] w fun e w' => e = .returned (.int .i64 (m + preLen L L.length)) ∧ ∃ M : List (List Int), ListsE w' lo hi v M ∧ M.length = L.length ∧ (∀ i (a : i < M.length) (b : i < L.length), M[i] = marks (m + preLen L i) L[i].length) ∧ Below lo w w' ∧ w.heap.size ≤ w'.heap.size := by
  obtain ⟨vs, hL⟩ := h
  have HL := hid hL
  have hlen := hL.len
  rcases hL.outer with ⟨rfl, hn⟩ | ⟨g, cap, cur, rfl, hbg, hgh, hg, hc1, hm, _⟩
  · obtain rfl : L = [] := List.eq_nil_of_length_eq_zero (by rw [← hlen, hn]; rfl)
    go_enter Try.func23, Try.ntmps23
    go_wp2_with fail
    refine wp_loop_rounds 1 ?_
    rw [rounds_succ]
    go_wp2
    go_ret
    exact ⟨by simp [preLen], [], ⟨vs, HL.out⟩, rfl, fun i a => by simp at a, Below.refl _ _, Nat.le_refl _⟩
  · unfold maxLen at hm
    have HLEN := hid hlen
    have hcL : L.length ≤ cap := by rw [← hlen]; exact hc1
    rw [hlen] at HL ⊢
    clear hL hg hlen hc1
    go_enter Try.func23, Try.ntmps23
    go_wp2_with fail
    go_loopw [1, 5] (fun kv i wr => ∃ t : Nat, t ≤ L.length ∧ i = .int .i64 t ∧ kv = .int .i64 (m + preLen L t) ∧ (∃ M : List (List Int), LsE wr lo hi (.slice (some ⟨g, 0, none⟩) L.length cap) vs M ∧ M.length = L.length ∧ (∀ i (a : i < M.length) (b : i < L.length), M[i].length = L[i].length ∧ (i < t → M[i] = marks (m + preLen L i) L[i].length))) ∧ Below lo w wr ∧ w.heap.size ≤ wr.heap.size) (fun _ i _ => L.length - (intOf i).toNat)
    case atStart => exact ⟨0, Nat.zero_le _, rfl, by simp [preLen], ⟨L, HL.out, rfl, fun i a b => ⟨rfl, fun h => by omega⟩⟩, Below.refl _ _, Nat.le_refl _⟩
    case round =>
      obtain ⟨t, ht, rfl, rfl, ⟨M, hM, hMl, hMe⟩, hbel, hsz⟩ := hrel
      have HM := hid hM
      have HB := hid hbel
      have HME := hid hMe
      have HSZ := hid hsz
      have hpm := preLen_mono L ht
      by_cases hlt : t < L.length
      · have htM : t < M.length := by omega
        have htv : t < vs.length := by rw [HLEN.out]; exact hlt
        have hcz : wr.cell? ⟨g, t, none⟩ = some vs[t] := hM.cell.2.2.2.2.2.2 t htv
        have HO := hid (hM.rows t htv htM)
        obtain ⟨l, hll⟩ : ∃ l, l = M[t] := ⟨_, rfl⟩
        have hle : l.length = L[t].length := by rw [hll]; exact (HME.out t htM hlt).1
        have hpn := preLen_mono L (show t + 1 ≤ L.length from hlt)
        have HP := hid (show preLen L (t + 1) = preLen L t + l.length by rw [preLen, hle]; simp [List.getD_eq_getElem?_getD, hlt])
        rw [HP.out] at hpn
        rw [← hll] at HO
        have HLE := hid hle
        have HML := hid hMl
        obtain ⟨p, hp⟩ : ∃ p, p = preLen L t := ⟨_, rfl⟩
        rw [← hp] at HP hpn hpm ⊢
        have HPP := hid hp
        obtain ⟨z, hz⟩ : ∃ z, z = vs[t] := ⟨_, rfl⟩
        rw [← hz] at hcz HO
        have HZ := hid hz
        have h3 : 0 ≤ m + (p : Int) := by omega
        have h4 : m + (p : Int) ≤ 1099511627776 := by omega
        have h5 : l.length ≤ 1099511627776 := by omega
        have q1 : (0 : Int) ≤ (t : Int) := by omega
        have q2 : (t : Int) < (L.length : Int) := by omega
        clear hll hle hp hz hM hMl hMe hbel hsz
        go_wp2_with (first | (go_at_call 18; refine (markIntS_E _ l lo _ _ HO.out.1 h3 h4 h5).mono ?_; rintro e w1 ⟨rfl, hown, hgr⟩; have HOW := hid hown; have HGR := hid hgr; clear hown hgr) | fail)
        have HN := hid (HM.out.mark htv (by rw [← HZ.out]; exact HOW.out) (by rw [← HZ.out]; exact HGR.out))
        have HBN := hid (HB.out.grown HGR.out (by have h1 := (HM.out.cell).2.2.2.1; have h2 := (HM.out.cell).2.2.2.2.2.1; omega) (fun q hq => (HO.out.1.low q hq).1))
        have HSN := hid (Nat.le_trans HSZ.out HGR.out.size)
        have HEN := hid (show ∀ i (a : i < (M.set t (marks (m + p) l.length)).length) (b : i < L.length), (M.set t (marks (m + p) l.length))[i].length = L[i].length ∧ (i < t + 1 → (M.set t (marks (m + p) l.length))[i] = marks (m + preLen L i) L[i].length) from fun i a b => by
          by_cases e : t = i
          · subst e
            rw [List.getElem_set_self, marks_length, ← HLE.out, ← HPP.out]
            exact ⟨rfl, fun _ => rfl⟩
          · rw [List.getElem_set_ne e]
            have := HME.out i (by simpa using a) b
            exact ⟨this.1, fun h => this.2 (by omega)⟩)
        go_roundw
        case rel => exact ⟨t + 1, by omega, by go_num, by rw [HP.out]; go_num, ⟨_, HN.out, by simp [HML.out], HEN.out⟩, HBN.out, HSN.out⟩
        case measure => simp [intOf]; omega
      · obtain rfl : t = L.length := by omega
        clear hM hbel hsz
        go_wp2_with fail
        go_ret
        exact ⟨rfl, M, ⟨vs, HM.out⟩, hMl, fun i a b => (HME.out i a b).2 b, HB.out, HSZ.out⟩
end Go.Proofs.Ytjghjlhjeibfoab
