/- Rows that were filled one after the other, and contracts: szIntSS by the sum, toIntSS with rows apart, markIntSS that leaves later blocks alone. Conditions: the slices read as lists of lists. -/
import Derived.Test.YtijjdidljoicfabSSL
import Derived.Test.YtijjdidljoicfabSS2
import Derived.Test.YtijjdidljoicfabPreL
namespace Go.Proofs.Ytijjdidljoicfab
open Go.RowKit
set_option linter.unusedVariables false

/-- the first k rows of M stand, in blocks behind g that rise -/
structure Filled (w : World) (g : Nat) (U : Nat → Value) (M : List (List Int)) (k : Nat) : Prop where
  own : ∀ i (hi : i < M.length), i < k → Own w (g + 1) (U i) M[i]
  up : ∀ i j, i < j → j < k → j < M.length → ∀ a b, (U i).ownBlock = some a → (U j).ownBlock = some b → a < b
theorem Filled.zero (w : World) (g : Nat) (U : Nat → Value) (M : List (List Int)) : Filled w g U M 0 := ⟨fun i hi h => absurd h (by omega), fun i j h h2 => absurd h2 (by omega)⟩
theorem Filled.below {w w' : World} {g k : Nat} {U : Nat → Value} {M : List (List Int)} (h : Filled w g U M k) (hb : Below w.heap.size w w') : Filled w' g U M k := ⟨fun i hi hk => (h.own i hi hk).below hb, h.up⟩
theorem Filled.kept {w w' : World} {g k : Nat} {U : Nat → Value} {M : List (List Int)} (h : Filled w g U M k) (hg : w.grownBy w' (some g)) : Filled w' g U M k :=
  ⟨fun i hi hk => (h.own i hi hk).kept hg (by
    rcases (h.own i hi hk).form with ⟨hn, _⟩ | ⟨q, cap, hq, hgq, _⟩
    · exact .inl (by rw [hn]; rfl)
    · refine .inr ?_
      rw [hq]
      simp only [Value.ownBlock, ne_eq, Option.some.injEq]
      omega), h.up⟩
theorem Filled.step {w0 w : World} {g k : Nat} {U : Nat → Value} {M : List (List Int)} {u : Value} (h0 : Filled w0 g U M k) (h : Filled w g U M k) (hk : k < M.length) (hu : Own w (g + 1) u M[k]) (hb : ∀ b, u.ownBlock = some b → w0.heap.size ≤ b) :
    Filled w g (fun j => if j = k then u else U j) M (k + 1) := by
  refine ⟨fun i hi hik => ?_, fun i j hij hj hjM a b ha hbb => ?_⟩
  · by_cases e : i = k
    · subst e
      simpa using hu
    · simpa [e] using h.own i hi (by omega)
  · rw [if_neg (by omega)] at ha
    by_cases e : j = k
    · rw [if_pos e] at hbb
      have h1 := hb b hbb
      have h2 := (World.ownsRow.lt (h0.own i (by omega) (by omega)) a ha).2
      omega
    · rw [if_neg e] at hbb
      exact h.up i j hij (by omega) hjM a b ha hbb
/-- a list of lists whose rows are apart, all of them below H -/
def ListsU (w : World) (base H : Nat) (v : Value) (L : List (List Int)) : Prop :=
  ∃ vs : List Value, vs.length = L.length ∧ w.ownsRow base 28 1 v L.length vs ∧ (∀ i (h1 : i < L.length) (h2 : i < vs.length), Own w base vs[i] L[i]) ∧
    (∀ i j (h1 : i < vs.length) (h2 : j < vs.length) (g : Nat), i ≠ j → vs[i].ownBlock = some g → vs[j].ownBlock ≠ some g) ∧ ∀ i (h1 : i < vs.length) (g : Nat), vs[i].ownBlock = some g → g < H
theorem ListsU.listsA {w : World} {base H : Nat} {v : Value} {L : List (List Int)} (h : ListsU w base H v L) : ListsA w base v L := by
  obtain ⟨vs, a, b, c, d, _⟩ := h
  exact ⟨vs, a, b, c, d⟩
theorem ListsU.below {w w' : World} {base H : Nat} {v : Value} {L : List (List Int)} (h : ListsU w base H v L) (hb : Below w.heap.size w w') : ListsU w' base H v L := by
  obtain ⟨vs, a, b, c, d, e⟩ := h
  exact ⟨vs, a, ownsRow_below b hb, fun i x y => (c i x y).below hb, d, e⟩
theorem Filled.listsU {w : World} {g n : Nat} {U : Nat → Value} {M : List (List Int)} (h : Filled w g U M n) (hr : w.rowIs g 28 n U) (hn : M.length = n) (hm : n ≤ maxLen) : ListsU w g w.heap.size (.slice (some ⟨g, 0, none⟩) n n) M := by
  subst hn
  have hg : ∀ i (hi : i < ((List.range M.length).map U).length), ((List.range M.length).map U)[i] = U i := fun i hi => by simp
  refine ⟨(List.range M.length).map U, by simp, ownsRow_of_rowIs hr hm, fun i h1 h2 => ?_, fun i j h1 h2 a hij ha hb => ?_, fun i h1 a ha => ?_⟩
  · rw [hg i h2]
    exact (h.own i h1 h1).mono (by omega)
  · rw [hg i h1] at ha
    rw [hg j h2] at hb
    have h1' : i < M.length := by simpa using h1
    have h2' : j < M.length := by simpa using h2
    rcases Nat.lt_or_gt_of_ne hij with h3 | h3
    · exact absurd (h.up i j h3 h2' h2' a a ha hb) (by omega)
    · exact absurd (h.up j i h3 h1' h1' a a hb ha) (by omega)
  · rw [hg i h1] at ha
    have h1' : i < M.length := by simpa using h1
    exact (World.ownsRow.lt (h.own i h1' h1') a ha).2
theorem Own.stay {w w' : World} {B : Nat} {v : Value} {xs : List Int} (h : Own w B v xs) (hk : ∀ k, B ≤ k → k < w.heap.size → w'.heap[k]? = w.heap[k]?) : Own w' B v xs := by
  have hlt := World.ownsRow.lt h
  refine ⟨h.1, ?_⟩
  rcases h.2 with hnil | ⟨g, cap, cur, rfl, hg, hgg, rest⟩
  · exact .inl hnil
  · have := hlt g rfl
    exact .inr ⟨g, cap, cur, rfl, hg, by rw [hk g this.1 this.2]; exact hgg, rest⟩
theorem ownsRow_stay {w w' : World} {B n : Nat} {T : TypeId} {v : Value} {vs : List Value} (h : w.ownsRow B T 1 v n vs) (hk : ∀ k, B ≤ k → k < w.heap.size → w'.heap[k]? = w.heap[k]?) : w'.ownsRow B T 1 v n vs := by
  have hlt := World.ownsRow.lt h
  refine ⟨h.1, ?_⟩
  rcases h.2 with hnil | ⟨g, cap, cur, rfl, hg, hgg, rest⟩
  · exact .inl hnil
  · have := hlt g rfl
    exact .inr ⟨g, cap, cur, rfl, hg, by rw [hk g this.1 this.2]; exact hgg, rest⟩
theorem ListsA.stay {w w' : World} {B : Nat} {v : Value} {L : List (List Int)} (h : ListsA w B v L) (hk : ∀ k, B ≤ k → k < w.heap.size → w'.heap[k]? = w.heap[k]?) : ListsA w' B v L := by
  obtain ⟨vs, a, b, c, d⟩ := h
  exact ⟨vs, a, ownsRow_stay b hk, fun i x y => (c i x y).stay hk, d⟩
theorem szIntSS_sum (v : Value) (L : List (List Int)) (m : Int) (w : World) (h : ReadsL w v L) (h0 : 0 ≤ m) (h1 : m ≤ 1073741824) :
    Calls Try.prog 22 #[v, .int .i64 m] w fun e w' => ∃ q : Int, e = .returned (.int .i64 q) ∧ w = w' ∧ q ≤ m ∧ (0 ≤ q → (L.length : Int) + (preLen L L.length : Int) ≤ m) := by
  obtain ⟨ao, c, rfl, hc1, hm, h⟩ := h
  unfold maxLen at hm
  by_cases hle : (L.length : Int) ≤ m
  · rcases h with h | ⟨b, off, rfl, hb, hc⟩
    · subst h
      go_enter Try.func22, Try.ntmps22
      go_wp2
      refine wp_loop_rounds 1 ?_
      rw [rounds_succ]
      go_wp2
      go_ret
      exact ⟨_, rfl, rfl, by simp, fun _ => by simp [preLen]; omega⟩
    · have HC := hid hc
      clear hc
      go_enter Try.func22, Try.ntmps22
      go_wp2_with fail
      go_loop [1, 5] (fun q i => ∃ (t : Nat) (p : Int), t ≤ L.length ∧ i = .int .i64 t ∧ q = .int .i64 p ∧ 0 ≤ p ∧ p = m - L.length - (preLen L t : Int)) (fun _ i => L.length - (intOf i).toNat)
      case atStart => exact ⟨0, m - L.length, Nat.zero_le _, rfl, by first | rfl | go_num, by omega, by simp [preLen]⟩
      case round =>
        obtain ⟨t, p, ht, rfl, rfl, hp0, hpm⟩ := hrel
        have HPM := hid hpm
        by_cases hlt : t < L.length
        · obtain ⟨z, hz, hread⟩ := HC.out t hlt
          obtain ⟨l, hl⟩ : ∃ l, l = L[t] := ⟨_, rfl⟩
          have HPL := hid (show preLen L (t + 1) = preLen L t + l.length by rw [preLen, hl]; simp [List.getD_eq_getElem?_getD, hlt])
          rw [← hl] at hread
          have HR := hid hread
          have hp1 : p ≤ 1073741824 := by omega
          clear hread hl hpm
          by_cases hl2 : (l.length : Int) ≤ p
          · have HE := hid (show (if (l.length : Int) ≤ p then p - l.length else -1) = p - l.length from if_pos hl2)
            go_wp2_with (first | (go_at_call 60; refine (szIntS_any _ l p _ HR.out hp0 hp1).mono ?_; rintro e w1 ⟨rfl, rfl⟩; rw [HE.out]) | fail)
            go_round
            case rel => exact ⟨t + 1, p - l.length, by omega, by go_num, rfl, by omega, by have := HPM.out; rw [HPL.out]; omega⟩
            case measure => simp [intOf]; omega
          · have HE := hid (show (if (l.length : Int) ≤ p then p - l.length else -1) = -1 from if_neg hl2)
            go_wp2_with (first | (go_at_call 60; refine (szIntS_any _ l p _ HR.out hp0 hp1).mono ?_; rintro e w1 ⟨rfl, rfl⟩; rw [HE.out]) | fail)
            go_ret
            exact ⟨_, rfl, rfl, by omega, fun h => absurd h (by decide)⟩
        · have htl : t = L.length := by omega
          rw [htl] at HPM
          clear hpm
          go_wp2_with fail
          go_ret
          exact ⟨_, rfl, rfl, by have := HPM.out; omega, fun _ => by have := HPM.out; omega⟩
  · clear h
    go_enter Try.func22, Try.ntmps22
    go_wp2
    go_ret
    exact ⟨_, rfl, rfl, by omega, fun h => absurd h (by decide)⟩
theorem toIntSS_apart (v : Value) (L : List (List Int)) (w : World) (h : ReadsL w v L) (hl : L.length ≤ 1048576) (hl2 : ∀ i (hi : i < L.length), L[i].length ≤ 1048576) :
    Calls Try.prog 24 #[v] w fun e w' => e = .returned (.slice (some ⟨w.heap.size, 0, none⟩) L.length L.length) ∧ Rows2 w' w.heap.size (.slice (some ⟨w.heap.size, 0, none⟩) L.length L.length) L ∧
      ListsU w' w.heap.size w'.heap.size (.slice (some ⟨w.heap.size, 0, none⟩) L.length L.length) L ∧ Below w.heap.size w w' := by
  obtain ⟨ao, c, rfl, hc1, hm, h⟩ := h
  unfold maxLen at hm
  have hmk := run_make_intss L.length hl w
  have hr0 := World.rowIs_made w (.slice none 0 0) L.length 28
  have hB0 : Below w.heap.size w (w.alloc (.cells (madeCells #[.slice none 0 0] L.length) 28)) := (Below.refl _ _).alloc (Nat.le_refl _) _
  have hS0 : w.heap.size < (w.alloc (.cells (madeCells #[.slice none 0 0] L.length) 28)).heap.size := by simp
  obtain ⟨wm, hwm⟩ : ∃ wm, wm = w.alloc (.cells (madeCells #[.slice none 0 0] L.length) 28) := ⟨_, rfl⟩
  rw [← hwm] at hmk hr0 hB0 hS0
  clear hwm
  have HL2 := hid hl2
  have HR0 := hid hr0
  have HB0 := hid hB0
  have HLM := hid (show L.length ≤ maxLen by unfold maxLen; omega)
  clear hl2 hr0 hB0
  rcases h with h | ⟨b, off, rfl, hb, hc⟩
  · have H := hid h
    clear h
    go_enter Try.func24, Try.ntmps24
    go_wp2_with fail
    go_loopw [4] (fun i wr => i = .int .i64 0 ∧ wr = wm) (fun i _ => L.length - (intOf i).toNat)
    case atStart => exact ⟨rfl, rfl⟩
    case round =>
      obtain ⟨rfl, rfl⟩ := hrel
      have hlt : ¬ (0 : Int) < (L.length : Int) := by rw [H.out]; simp
      go_wp2_with fail
      go_ret
      exact ⟨rfl, Rows2.of (U := fun _ => .slice none 0 0) (fun i hi => absurd hi (by rw [H.out]; simp)) HR0.out hl, Filled.listsU (U := fun _ => .slice none 0 0) ⟨fun i hi => absurd hi (by rw [H.out]; simp), fun i j _ _ hj => absurd hj (by rw [H.out]; simp)⟩ HR0.out rfl HLM.out, HB0.out⟩
  · have HC := hid hc
    clear hc
    go_enter Try.func24, Try.ntmps24
    go_wp2_with fail
    go_loopw [4] (fun i wr => ∃ k : Nat, k ≤ L.length ∧ i = .int .i64 k ∧ (∃ U : Nat → Value, wr.rowIs w.heap.size 28 L.length U ∧ Copied wr w.heap.size U L k ∧ Filled wr w.heap.size U L k) ∧ Below w.heap.size w wr ∧ w.heap.size < wr.heap.size) (fun i _ => L.length - (intOf i).toNat)
    case atStart => exact ⟨0, Nat.zero_le _, rfl, ⟨_, HR0.out, fun i hi hk => absurd hk (by omega), Filled.zero _ _ _ _⟩, HB0.out, hS0⟩
    case round =>
      obtain ⟨k, hk, rfl, ⟨U, hrow, hcop, hfil⟩, hbel, hsz⟩ := hrel
      by_cases hlt : k < L.length
      · obtain ⟨z, hz, hread⟩ := HC.out k hlt
        have hcx : wr.cell? ⟨b, off + k, none⟩ = some z := (hbel.cell (by exact hb)).trans hz
        have HRD := hid (hread.below hbel)
        obtain ⟨l, hll⟩ : ∃ l, l = L[k] := ⟨_, rfl⟩
        have hl2 := HL2.out k hlt
        rw [← hll] at HRD hl2
        have HLL := hid hll
        have HROW := hid hrow
        have HCOP := hid hcop
        have HFIL := hid hfil
        have HB := hid hbel
        clear hread hz hrow hcop hbel hll hfil
        go_wp2_with (first | (go_at_call 15; refine (toIntS_any _ l _ HRD.out hl2).mono ?_; rintro e w1 ⟨rfl, hown, hb1⟩; have HO := hid hown; have HB1 := hid hb1; clear hown hb1; have HR1 := hid (rowIs_below HROW.out HB1.out hsz); obtain ⟨zz, hcz⟩ : ∃ zz, w1.cell? ⟨w.heap.size, k, none⟩ = some zz := ⟨_, HR1.out.cell hlt⟩; have hfz := HR1.out.frozen k) | fail)
        have HG := hid (grownBy_setCellAt w1 w.heap.size k (.slice (some ⟨wr.heap.size, 0, none⟩) l.length l.length))
        have HR2 := hid (HR1.out.set k (.slice (some ⟨wr.heap.size, 0, none⟩) l.length l.length))
        have HON := hid ((HO.out.mono (show w.heap.size + 1 ≤ wr.heap.size by omega)).kept HG.out (.inr (by simp only [Value.ownBlock, ne_eq, Option.some.injEq]; omega)))
        have HC2 := hid (((HCOP.out.below HB1.out).kept HG.out).step (q := wr.heap.size) hlt hsz (by
          rw [← HLL.out]
          exact HON.out.mono (by omega)))
        have HF2 := hid (Filled.step (u := .slice (some ⟨wr.heap.size, 0, none⟩) l.length l.length) HFIL.out ((HFIL.out.below HB1.out).kept HG.out) hlt (by rw [← HLL.out]; exact HON.out) (fun q hq => by simp only [Value.ownBlock, Option.some.injEq] at hq; omega))
        have HBB := hid ((HB.out.trans (HB1.out.mono (by omega))).setCell (p := ⟨w.heap.size, k, none⟩) (Nat.le_refl _) (.slice (some ⟨wr.heap.size, 0, none⟩) l.length l.length))
        have hs1 := HB1.out.size
        go_roundw
        case rel => exact ⟨k + 1, by omega, by go_num, ⟨_, HR2.out, by rw [← HLL.out] at HC2; exact HC2.out, HF2.out⟩, HBB.out, by simp; omega⟩
        case measure => simp [intOf]; omega
      · obtain rfl : k = L.length := by omega
        have HROW := hid hrow
        have HCOP := hid hcop
        have HFIL := hid hfil
        have HB := hid hbel
        clear hrow hcop hbel hfil
        go_wp2_with fail
        go_ret
        exact ⟨rfl, Rows2.of HCOP.out HROW.out hl, HFIL.out.listsU HROW.out rfl HLM.out, HB.out⟩
theorem ListsU.mark {w w' : World} {base H : Nat} {v : Value} {L : List (List Int)} {vs : List Value} {t : Nat} {ys : List Int} (h1 : vs.length = L.length) (h2 : w.ownsRow base 28 1 v L.length vs)
    (h3 : ∀ i (h1 : i < L.length) (h2 : i < vs.length), Own w base vs[i] L[i]) (h4 : ∀ i j (h1 : i < vs.length) (h2 : j < vs.length) (g : Nat), i ≠ j → vs[i].ownBlock = some g → vs[j].ownBlock ≠ some g)
    (h5 : ∀ i (h1 : i < vs.length) (g : Nat), vs[i].ownBlock = some g → g < H)
    (ht : t < vs.length) (hu : Own w' base vs[t] ys) (hg : w.grownBy w' vs[t].ownBlock) : ListsU w' base H v (L.set t ys) := by
  have htl : t < L.length := by omega
  refine ⟨vs, by simp [h1], by rw [List.length_set]; exact row_kept_int h2 (by decide) (h3 t htl ht) hg, fun i a b => ?_, h4, h5⟩
  rw [List.length_set] at a
  by_cases e : t = i
  · subst e
    simpa using hu
  · rw [List.getElem_set_ne e]
    refine Own.kept (h3 i a b) hg ?_
    rcases (h3 i a b).form with ⟨hn, _⟩ | ⟨g, cap, hs, _⟩
    · exact .inl (by rw [hn]; rfl)
    · right
      intro e2
      have e3 : vs[i].ownBlock = some g := by rw [hs]; rfl
      exact h4 i t b ht g (fun e => by omega) e3 (by rw [← e2, e3])
theorem markIntSS_kept (v : Value) (L : List (List Int)) (base H : Nat) (m : Int) (w : World) (h : ListsU w base H v L) (h0 : 0 ≤ m) (h1 : m ≤ 1073741824) (hl : preLen L L.length ≤ 1073741824) :
    Calls Try.prog 12 #[v, .int .i64 m] w fun e w' => e = .returned (.int .i64 (m + preLen L L.length)) ∧ Below base w w' ∧ w.heap.size ≤ w'.heap.size ∧ ∀ k, H ≤ k → k < w.heap.size → w'.heap[k]? = w.heap[k]? := by
  have HL := hid h
  rcases h.listsA.lists.form with ⟨rfl, rfl⟩ | ⟨g, cap, rfl, hbg, hg, hc1, hm, hc⟩
  · go_enter Try.func12, Try.ntmps12
    go_wp2_with fail
    refine wp_loop_rounds 1 ?_
    rw [rounds_succ]
    go_wp2
    go_ret
    exact ⟨by simp [preLen], Below.refl _ _, Nat.le_refl _, fun _ _ _ => rfl⟩
  · clear hc h
    go_enter Try.func12, Try.ntmps12
    go_wp2_with fail
    go_loopw [1, 5] (fun kv i wr => ∃ t : Nat, t ≤ L.length ∧ i = .int .i64 t ∧ kv = .int .i64 (m + preLen L t) ∧ (∃ M : List (List Int), ListsU wr base H (.slice (some ⟨g, 0, none⟩) L.length cap) M ∧ M.length = L.length ∧ (∀ i (a : i < M.length) (b : i < L.length), M[i].length = L[i].length)) ∧ Below base w wr ∧ w.heap.size ≤ wr.heap.size ∧ ∀ k, H ≤ k → k < w.heap.size → wr.heap[k]? = w.heap[k]?) (fun _ i _ => L.length - (intOf i).toNat)
    case atStart => exact ⟨0, Nat.zero_le _, rfl, by simp [preLen], ⟨L, HL.out, rfl, fun i a b => rfl⟩, Below.refl _ _, Nat.le_refl _, fun _ _ _ => rfl⟩
    case round =>
      obtain ⟨t, ht, rfl, rfl, ⟨M, hM, hMl, hMe⟩, hbel, hsz, hst⟩ := hrel
      have HM := hid hM
      have HB := hid hbel
      have HME := hid hMe
      have HST := hid hst
      have hpm := preLen_mono L ht
      clear hM hbel hMe hst
      by_cases hlt : t < L.length
      · obtain ⟨vs, v1, v2, v3, v4, v5⟩ := HM.out
        have htM : t < M.length := by omega
        have htv : t < vs.length := by omega
        have hcz : wr.cell? ⟨g, t, none⟩ = some vs[t] := by
          have v2' := v2
          rw [hMl] at v2'
          have := World.ownsRow.cellAt v2' t (by omega)
          rw [this, List.getElem?_eq_getElem htv]
        have HO := hid (v3 t htM htv)
        obtain ⟨l, hll⟩ : ∃ l, l = M[t] := ⟨_, rfl⟩
        have hle : l.length = L[t].length := by rw [hll]; exact HME.out t htM hlt
        have hpn := preLen_mono L (show t + 1 ≤ L.length from hlt)
        have HP := hid (show preLen L (t + 1) = preLen L t + l.length by rw [preLen, hle]; simp [List.getD_eq_getElem?_getD, hlt])
        rw [HP.out] at hpn
        rw [← hll] at HO
        have HLE := hid hle
        have HV1 := hid v1
        have HV2 := hid v2
        have HV3 := hid v3
        have HV4 := hid v4
        have HV5 := hid v5
        obtain ⟨p, hp⟩ : ∃ p, p = preLen L t := ⟨_, rfl⟩
        rw [← hp] at HP hpn hpm ⊢
        obtain ⟨z, hz⟩ : ∃ z, z = vs[t] := ⟨_, rfl⟩
        rw [← hz] at hcz HO
        have HZ := hid hz
        have h3 : 0 ≤ m + (p : Int) := by omega
        have h4 : m + (p : Int) ≤ 1099511627776 := by omega
        have h5 : l.length ≤ 1099511627776 := by omega
        clear hll hle v1 v2 v3 v4 v5 hp hz
        go_wp2_with (first | (go_at_call 38; refine (markIntS_any _ l base _ _ HO.out h3 h4 h5).mono ?_; rintro e w1 ⟨rfl, hown, hgr⟩; have HOW := hid hown; have HGR := hid hgr; clear hown hgr) | fail)
        have HN := hid (ListsU.mark HV1.out HV2.out HV3.out HV4.out HV5.out htv (by rw [← HZ.out]; exact HOW.out) (by rw [← HZ.out]; exact HGR.out))
        have HBN := hid (HB.out.grown HGR.out (by omega) (fun q hq => (World.ownsRow.lt HO.out.row q hq).1))
        have HSN := hid (Nat.le_trans hsz HGR.out.size)
        have HSTN := hid (show ∀ k, H ≤ k → k < w.heap.size → w1.heap[k]? = w.heap[k]? from fun k h1 h2 => by
          rw [HGR.out.block k (by omega) (fun e => by
            have := HV5.out t htv k (by rw [← HZ.out]; exact e.symm)
            omega)]
          exact HST.out k h1 h2)
        have HEN := hid (show ∀ i (a : i < (M.set t (marks (m + p) l.length)).length) (b : i < L.length), (M.set t (marks (m + p) l.length))[i].length = L[i].length from fun i a b => by
          by_cases e : t = i
          · subst e
            rw [List.getElem_set_self, marks_length, ← HLE.out]
          · rw [List.getElem_set_ne e]
            exact HME.out i (by simpa using a) b)
        go_roundw
        case rel => exact ⟨t + 1, by omega, by go_num, by rw [HP.out]; go_num, ⟨_, HN.out, by simp [hMl], HEN.out⟩, HBN.out, HSN.out, HSTN.out⟩
        case measure => simp [intOf]; omega
      · obtain rfl : t = L.length := by omega
        go_wp2_with fail
        go_ret
        exact ⟨rfl, HB.out, hsz, HST.out⟩
end Go.Proofs.Ytijjdidljoicfab
