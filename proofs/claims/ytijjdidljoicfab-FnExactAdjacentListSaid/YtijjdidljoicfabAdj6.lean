/- Facts and contracts (SS, SS2, SS3, AllC1, AdjF, AllC2, AllC3, HlvI, PreL, AdjI, WAdj), merged. Conditions: as told at each. -/
import Derived.Deep.RegionHeld3
import Derived.Test.YtijjdidljoicfabAdj5

/- Contracts: eqIntSS, heldIntSS. Conditions: the slices read as lists of lists. -/
namespace Go.Proofs.Ytijjdidljoicfab
open Go.RowKit
set_option linter.unusedVariables false

/-- how many numbers there are in the first k lists -/
def preLen (L : List (List Int)) : Nat → Nat
  | 0 => 0
  | k + 1 => preLen L k + (L.getD k []).length
theorem preLen_mono (L : List (List Int)) {a b : Nat} (h : a ≤ b) : preLen L a ≤ preLen L b := by
  induction b with
  | zero => rw [show a = 0 by omega]; exact Nat.le_refl _
  | succ b ih =>
    by_cases e : a = b + 1
    · rw [e]; exact Nat.le_refl _
    · have := ih (by omega)
      rw [preLen]; omega
/-- each number is marked, from m on -/
def Marked (m : Int) (L : List (List Int)) : Prop := ∀ i (h : i < L.length), L[i] = marks (m + preLen L i) L[i].length
theorem heldIntSS_any (v : Value) (L : List (List Int)) (base : Nat) (m : Int) (w : World) (h : Lists w base v L) (hx : Marked m L) (h0 : 0 ≤ m) (h1 : m ≤ 1073741824) (hl : preLen L L.length ≤ 1073741824) :
    Calls Try.prog 13 #[v, .int .i64 m] w fun e w' => e = .returned (.int .i64 (m + preLen L L.length)) ∧ w = w' := by
  rcases h.form with ⟨rfl, rfl⟩ | ⟨g, cap, rfl, _, hg, hc1, hm, hc⟩
  · go_enter Try.func13, Try.ntmps13
    go_wp2_with fail
    refine wp_loop_rounds 1 ?_
    rw [rounds_succ]
    go_wp2
    go_ret
    exact ⟨by simp [preLen], rfl⟩
  · have HC := hid hc
    have HX := hid hx
    clear hc h hx
    go_enter Try.func13, Try.ntmps13
    go_wp2_with fail
    go_loop [1, 5] (fun kv i => ∃ t : Nat, t ≤ L.length ∧ i = .int .i64 t ∧ kv = .int .i64 (m + preLen L t)) (fun _ i => L.length - (intOf i).toNat)
    case atStart => exact ⟨0, Nat.zero_le _, rfl, by simp [preLen]⟩
    case round =>
      obtain ⟨t, ht, rfl, rfl⟩ := hrel
      have hpm := preLen_mono L ht
      by_cases hlt : t < L.length
      · obtain ⟨z, hz, hown⟩ := HC.out t hlt
        have HZ := hid hown.reads
        have hpn := preLen_mono L (show t + 1 ≤ L.length from hlt)
        have HP := hid (show preLen L (t + 1) = preLen L t + L[t].length by rw [preLen]; simp [List.getD_eq_getElem?_getD, hlt])
        have HMK := hid (HX.out t hlt)
        rw [HP.out] at hpn
        obtain ⟨l, hll⟩ : ∃ l, l = L[t] := ⟨_, rfl⟩
        rw [← hll] at HZ HP HMK hpn
        obtain ⟨p, hp⟩ : ∃ p, p = preLen L t := ⟨_, rfl⟩
        rw [← hp] at HP HMK hpn hpm ⊢
        have h3 : 0 ≤ m + (p : Int) := by omega
        have h4 : m + (p : Int) ≤ 1099511627776 := by omega
        have h5 : l.length ≤ 1099511627776 := by omega
        clear hown hll hp
        go_wp2_with (first | (go_at_call 39; refine (heldIntS_any _ l _ _ HZ.out HMK.out h3 h4 h5).mono ?_; rintro e w1 ⟨rfl, rfl⟩) | fail)
        go_round
        case rel => exact ⟨t + 1, by omega, by go_num, by rw [HP.out]; go_num⟩
        case measure => simp [intOf]; omega
      · obtain rfl : t = L.length := by omega
        go_wp2_with fail
        go_ret
        exact ⟨rfl, rfl⟩
end Go.Proofs.Ytijjdidljoicfab

/- Contract: markIntSS. Conditions: the slice reads as a list of lists, its rows owned and apart from each other. -/
namespace Go.Proofs.Ytijjdidljoicfab
open Go.RowKit
set_option linter.unusedVariables false

/-- v is a slice of slices, its own row from block base on, whose elements are owned slices, no two of them on one block, that read as L. -/
def ListsA (w : World) (base : Nat) (v : Value) (L : List (List Int)) : Prop :=
  ∃ vs : List Value, vs.length = L.length ∧ w.ownsRow base 28 1 v L.length vs ∧ (∀ i (h1 : i < L.length) (h2 : i < vs.length), Own w base vs[i] L[i]) ∧
    ∀ i j (h1 : i < vs.length) (h2 : j < vs.length) (g : Nat), i ≠ j → vs[i].ownBlock = some g → vs[j].ownBlock ≠ some g
theorem ListsA.lists {w : World} {base : Nat} {v : Value} {L : List (List Int)} (h : ListsA w base v L) : Lists w base v L := by
  obtain ⟨vs, h1, h2, h3, _⟩ := h
  exact ⟨vs, h1, h2, h3⟩
theorem ListsA.below {w w' : World} {base : Nat} {v : Value} {L : List (List Int)} (h : ListsA w base v L) (hb : Below w.heap.size w w') : ListsA w' base v L := by
  obtain ⟨vs, h1, h2, h3, h4⟩ := h
  exact ⟨vs, h1, ownsRow_below h2 hb, fun i a b => (h3 i a b).below hb, h4⟩
theorem ListsA.mono {w : World} {base base' : Nat} {v : Value} {L : List (List Int)} (h : ListsA w base v L) (hb : base' ≤ base) : ListsA w base' v L := by
  obtain ⟨vs, h1, h2, h3, h4⟩ := h
  exact ⟨vs, h1, ownsRow_mono h2 hb, fun i a b => (h3 i a b).mono hb, h4⟩
theorem row_kept_int {w w' : World} {base b0 : Nat} {x v : Value} {n : Nat} {vs : List Value} {xs : List Int} {T : TypeId} (hv : w.ownsRow b0 T 1 v n vs) (hT : T ≠ 3) (h : Own w base x xs) (hg : w.grownBy w' x.ownBlock) : w'.ownsRow b0 T 1 v n vs := by
  refine World.ownsRow.kept hv hg ?_
  rcases hv.2 with ⟨rfl, _⟩ | ⟨g', cap', cur', rfl, _, hgg', _⟩
  · exact .inl rfl
  · right
    rcases h.2 with ⟨rfl, _⟩ | ⟨g, cap, cur, rfl, _, hgg, _⟩
    · simp [Value.ownBlock]
    · simp only [Value.ownBlock, ne_eq, Option.some.injEq]
      intro e
      rw [e, hgg] at hgg'
      simp at hgg'
      exact hT hgg'.2.symm
theorem ListsA.mark {w w' : World} {base : Nat} {v : Value} {L : List (List Int)} {vs : List Value} {t : Nat} {ys : List Int} (h1 : vs.length = L.length) (h2 : w.ownsRow base 28 1 v L.length vs)
    (h3 : ∀ i (h1 : i < L.length) (h2 : i < vs.length), Own w base vs[i] L[i]) (h4 : ∀ i j (h1 : i < vs.length) (h2 : j < vs.length) (g : Nat), i ≠ j → vs[i].ownBlock = some g → vs[j].ownBlock ≠ some g)
    (ht : t < vs.length) (hu : Own w' base vs[t] ys) (hg : w.grownBy w' vs[t].ownBlock) : ListsA w' base v (L.set t ys) := by
  have htl : t < L.length := by omega
  refine ⟨vs, by simp [h1], by rw [List.length_set]; exact row_kept_int h2 (by decide) (h3 t htl ht) hg, fun i a b => ?_, h4⟩
  rw [List.length_set] at a
  by_cases e : t = i
  · subst e
    simpa using hu
  · rw [List.getElem_set_ne e]
    refine Own.kept (h3 i a b) hg ?_
    rcases (h3 i a b).form with ⟨hn, _⟩ | ⟨g, cap, hs, _⟩
    · exact .inl (by rw [hn]; rfl)
    · right
      intro e2
      have e3 : vs[i].ownBlock = some g := by rw [hs]; rfl
      exact h4 i t b ht g (fun e => by omega) e3 (by rw [← e2, e3])
theorem markIntSS_any (v : Value) (L : List (List Int)) (base : Nat) (m : Int) (w : World) (h : ListsA w base v L) (h0 : 0 ≤ m) (h1 : m ≤ 1073741824) (hl : preLen L L.length ≤ 1073741824) :
    Calls Try.prog 12 #[v, .int .i64 m] w fun e w' => e = .returned (.int .i64 (m + preLen L L.length)) ∧ ∃ M : List (List Int), ListsA w' base v M ∧ M.length = L.length ∧ (∀ i (a : i < M.length) (b : i < L.length), M[i] = marks (m + preLen L i) L[i].length) ∧ Below base w w' ∧ w.heap.size ≤ w'.heap.size := by
  have HL := hid h
  rcases h.lists.form with ⟨rfl, rfl⟩ | ⟨g, cap, rfl, hbg, hg, hc1, hm, hc⟩
  · go_enter Try.func12, Try.ntmps12
    go_wp2_with fail
    refine wp_loop_rounds 1 ?_
    rw [rounds_succ]
    go_wp2
    go_ret
    exact ⟨by simp [preLen], [], HL.out, rfl, fun i a => by simp at a, Below.refl _ _, Nat.le_refl _⟩
  · clear hc h
    go_enter Try.func12, Try.ntmps12
    go_wp2_with fail
    go_loopw [1, 5] (fun kv i wr => ∃ t : Nat, t ≤ L.length ∧ i = .int .i64 t ∧ kv = .int .i64 (m + preLen L t) ∧ (∃ M : List (List Int), ListsA wr base (.slice (some ⟨g, 0, none⟩) L.length cap) M ∧ M.length = L.length ∧ (∀ i (a : i < M.length) (b : i < L.length), M[i].length = L[i].length ∧ (i < t → M[i] = marks (m + preLen L i) L[i].length))) ∧ Below base w wr ∧ w.heap.size ≤ wr.heap.size) (fun _ i _ => L.length - (intOf i).toNat)
    case atStart => exact ⟨0, Nat.zero_le _, rfl, by simp [preLen], ⟨L, HL.out, rfl, fun i a b => ⟨rfl, fun h => by omega⟩⟩, Below.refl _ _, Nat.le_refl _⟩
    case round =>
      obtain ⟨t, ht, rfl, rfl, ⟨M, hM, hMl, hMe⟩, hbel, hsz⟩ := hrel
      have HM := hid hM
      have HB := hid hbel
      have HME := hid hMe
      have hpm := preLen_mono L ht
      clear hM hbel hMe
      by_cases hlt : t < L.length
      · obtain ⟨vs, v1, v2, v3, v4⟩ := HM.out
        have htM : t < M.length := by omega
        have htv : t < vs.length := by omega
        have hcz : wr.cell? ⟨g, t, none⟩ = some vs[t] := by
          have v2' := v2
          rw [hMl] at v2'
          have := World.ownsRow.cellAt v2' t (by omega)
          rw [this, List.getElem?_eq_getElem htv]
        have HO := hid (v3 t htM htv)
        obtain ⟨l, hll⟩ : ∃ l, l = M[t] := ⟨_, rfl⟩
        have hle : l.length = L[t].length := by rw [hll]; exact (HME.out t htM hlt).1
        have hpn := preLen_mono L (show t + 1 ≤ L.length from hlt)
        have HP := hid (show preLen L (t + 1) = preLen L t + l.length by rw [preLen, hle]; simp [List.getD_eq_getElem?_getD, hlt])
        rw [HP.out] at hpn
        rw [← hll] at HO
        have HLE := hid hle
        have HV1 := hid v1
        have HV2 := hid v2
        have HV3 := hid v3
        have HV4 := hid v4
        obtain ⟨p, hp⟩ : ∃ p, p = preLen L t := ⟨_, rfl⟩
        rw [← hp] at HP hpn hpm ⊢
        have HPP := hid hp
        obtain ⟨z, hz⟩ : ∃ z, z = vs[t] := ⟨_, rfl⟩
        rw [← hz] at hcz HO
        have HZ := hid hz
        have h3 : 0 ≤ m + (p : Int) := by omega
        have h4 : m + (p : Int) ≤ 1099511627776 := by omega
        have h5 : l.length ≤ 1099511627776 := by omega
        clear hll hle v1 v2 v3 v4 hp hz
        go_wp2_with (first | (go_at_call 38; refine (markIntS_any _ l base _ _ HO.out h3 h4 h5).mono ?_; rintro e w1 ⟨rfl, hown, hgr⟩; have HOW := hid hown; have HGR := hid hgr; clear hown hgr) | fail)
        have HN := hid (ListsA.mark HV1.out HV2.out HV3.out HV4.out htv (by rw [← HZ.out]; exact HOW.out) (by rw [← HZ.out]; exact HGR.out))
        have HBN := hid (HB.out.grown HGR.out (by omega) (fun q hq => (World.ownsRow.lt HO.out.row q hq).1))
        have HSN := hid (Nat.le_trans hsz HGR.out.size)
        have HEN := hid (show ∀ i (a : i < (M.set t (marks (m + p) l.length)).length) (b : i < L.length), (M.set t (marks (m + p) l.length))[i].length = L[i].length ∧ (i < t + 1 → (M.set t (marks (m + p) l.length))[i] = marks (m + preLen L i) L[i].length) from fun i a b => by
          by_cases e : t = i
          · subst e
            rw [List.getElem_set_self, marks_length, ← HLE.out, ← HPP.out]
            exact ⟨rfl, fun _ => rfl⟩
          · rw [List.getElem_set_ne e]
            have := HME.out i (by simpa using a) b
            exact ⟨this.1, fun h => this.2 (by omega)⟩)
        go_roundw
        case rel => exact ⟨t + 1, by omega, by go_num, by rw [HP.out]; go_num, ⟨_, HN.out, by simp [hMl], HEN.out⟩, HBN.out, HSN.out⟩
        case measure => simp [intOf]; omega
      · obtain rfl : t = L.length := by omega
        go_wp2_with fail
        go_ret
        exact ⟨rfl, M, HM.out, hMl, fun i a b => (HME.out i a b).2 b, HB.out, hsz⟩
end Go.Proofs.Ytijjdidljoicfab

/- Contract: eqIntSS of two lists that are the same. Conditions: the slices read as lists of lists. -/
namespace Go.Proofs.Ytijjdidljoicfab
open Go.RowKit
set_option linter.unusedVariables false

theorem eqIntSS_any (v u : Value) (L : List (List Int)) (B1 B2 : Nat) (w : World) (h : Lists w B1 v L) (h' : Lists w B2 u L) :
    Calls Try.prog 11 #[v, u] w fun e w' => e = .returned (.bool true) ∧ Below w.heap.size w w' := by
  rcases h.form with ⟨rfl, rfl⟩ | ⟨g, cap, rfl, _, hg, hc1, hm, hc⟩
  · rcases h'.form with ⟨rfl, _⟩ | ⟨g', cap', rfl, _, hg', hc1', hm', hc'⟩
    all_goals
      go_enter Try.func11, Try.ntmps11
      go_wp2_with fail
      refine wp_loop_rounds 1 ?_
      rw [rounds_succ]
      go_wp2
      go_ret
      exact ⟨rfl, Below.refl _ _⟩
  · rcases h'.form with ⟨rfl, rfl⟩ | ⟨g', cap', rfl, _, hg', hc1', hm', hc'⟩
    · go_enter Try.func11, Try.ntmps11
      go_wp2_with fail
      refine wp_loop_rounds 1 ?_
      rw [rounds_succ]
      go_wp2
      go_ret
      exact ⟨rfl, Below.refl _ _⟩
    · have HC := hid hc
      have HC' := hid hc'
      clear hc hc' h h'
      go_enter Try.func11, Try.ntmps11
      go_wp2_with fail
      go_loopw [5] (fun i wr => ∃ t : Nat, t ≤ L.length ∧ i = .int .i64 t ∧ Below w.heap.size w wr) (fun i _ => L.length - (intOf i).toNat)
      case atStart => exact ⟨0, Nat.zero_le _, rfl, Below.refl _ _⟩
      case round =>
        obtain ⟨t, ht, rfl, hbel⟩ := hrel
        have HB := hid hbel
        by_cases hlt : t < L.length
        · obtain ⟨z, hz, hown⟩ := HC.out t hlt
          obtain ⟨z', hz', hown'⟩ := HC'.out t hlt
          have hcx : wr.cell? ⟨g, t, none⟩ = some z := (hbel.cell (by exact hg)).trans hz
          have hcx' : wr.cell? ⟨g', t, none⟩ = some z' := (hbel.cell (by exact hg')).trans hz'
          have HZ := hid (hown.reads.below hbel)
          have HZ' := hid (hown'.reads.below hbel)
          have HS := hid hbel.size
          have hgr : g < wr.heap.size := by have := hbel.size; omega
          have hgr' : g' < wr.heap.size := by have := hbel.size; omega
          obtain ⟨l, hl⟩ : ∃ l, l = L[t] := ⟨_, rfl⟩
          rw [← hl] at HZ HZ'
          have hd : decide (l = l) = true := by simp
          clear hz hz' hown hown' hbel hl
          go_wp2_with fail
          go_region_held3 (fun w' => w'.cell? ⟨g, t, none⟩ = some z ∧ w'.cell? ⟨g', t, none⟩ = some z')
            (first | exact ⟨hcx, hcx'⟩ | exact ⟨(HB1.out.cell (by exact hgr)).trans hcx, (HB1.out.cell (by exact hgr')).trans hcx'⟩ | go_keep | fail)
            (first
              | (go_at_call 17; refine (eqIntS_any _ _ l l _ ?_ ?_).mono ?_; (exact HZ.out.below (Below.refl _ _).drew); (exact HZ'.out.below (Below.refl _ _).drew); rintro e w1 ⟨rfl, hb1⟩; have HB1 := hid (Below_chain (Below.refl wr.heap.size wr).drew hb1); clear hb1; (try rw [hd]); (try simp only [decide_true]))
              | fail)
          all_goals
            go_wp2_with fail
            go_roundw
            case rel => exact ⟨t + 1, by omega, by go_num, Below_chain HB.out HB1.out⟩
            case measure => simp [intOf]; omega
        · obtain rfl : t = L.length := by omega
          go_wp2_with fail
          go_ret
          exact ⟨rfl, HB.out⟩
end Go.Proofs.Ytijjdidljoicfab

/- Contracts: the closure of AllCombinations, listFrom with it. Conditions: at most 12 items. -/
namespace Go.Proofs.Ytijjdidljoicfab
open Go.RowKit
set_option linter.unusedVariables false

theorem RF_rise (n : Nat) : ∀ (xs : List Int) (f : Nat), RF n f xs → ∀ i, i < xs.length → (f : Int) ≤ xs.getD i 0 ∧ xs.getD i 0 < n ∧ (i = 0 ∨ xs.getD (i - 1) 0 < xs.getD i 0)
  | x :: t, f, h, 0, _ => by
    obtain ⟨h1, h2, _⟩ := h
    exact ⟨by simpa using h1, by simpa using h2, .inl rfl⟩
  | x :: t, f, h, i + 1, hi => by
    obtain ⟨h1, h2, h3⟩ := h
    have hi' : i < t.length := by simpa using hi
    obtain ⟨a, b, c⟩ := RF_rise n t _ h3 i hi'
    refine ⟨by rw [List.getD_cons_succ]; omega, by simpa using b, .inr ?_⟩
    rcases c with rfl | c
    · simp at a ⊢; omega
    · have hi0 : i ≠ 0 := by intro e; subst e; simp at c
      obtain ⟨j, rfl⟩ : ∃ j, i = j + 1 := ⟨i - 1, by omega⟩
      simpa using c
theorem comb_of_RF {n : Nat} {xs : List Int} (hn : n ≤ 12) (hl : xs.length ≤ n) (h : RF n 0 xs) : combB (n : Int) xs = true := by
  have h1 : inB (n : Int) 0 12 = true := inB_iff.2 ⟨by omega, by omega⟩
  rw [combB, h1, Bool.true_and, decide_eq_true (by omega), Bool.true_and]
  refine (allTo_iff _ _).2 (fun i hi => ?_)
  obtain ⟨a, b, c⟩ := RF_rise n xs 0 h i hi
  rw [riseAt, inB_iff.2 ⟨by omega, by omega⟩, Bool.true_and, Bool.or_eq_true]
  rcases c with rfl | c
  · exact .inl rfl
  · exact .inr (decide_eq_true c)
theorem upTo_upFrom (k : Nat) : upTo k = upFrom ((0 : Nat) : Int) k := by
  apply List.ext_getElem
  · rw [upTo_length, upFrom_length]
  · intro i h1 h2
    have e1 := upTo_getD k i (by rw [upTo_length] at h1; exact h1)
    have e2 := upFrom_getD k ((0 : Nat) : Int) i (by rw [upFrom_length] at h2; exact h2)
    rw [getD_at h1] at e1
    rw [getD_at h2] at e2
    rw [e1, e2]; simp
/-- what is known of the list at j in the list of all -/
theorem seq_step {N k j : Nat} {xs : List Int} (hN : N ≤ 12) (hk : k ≤ N) (hl : xs.length = k) (h : RF N 0 xs) (hr : rankC N 0 xs = j) :
    (allL N k 0).getD j [] = xs ∧ j < (allL N k 0).length ∧ nxB (N : Int) xs = decide (j + 1 < (allL N k 0).length) ∧
    (nxB (N : Int) xs = true → RF N 0 (nxRes (N : Int) xs) ∧ (nxRes (N : Int) xs).length = k ∧ rankC N 0 (nxRes (N : Int) xs) = j + 1) := by
  have hp := place_rank N hN xs 0 (by omega) h
  rw [hl, hr] at hp
  have hg := placeIn_get xs (allL N k 0) j hp
  have hlt := placeIn_lt xs (allL N k 0)
  rw [hp] at hlt
  have hc := comb_of_RF hN (by omega) h
  have hnx := (nx_of N hN xs (by omega) h hc).1
  rw [hl, hp] at hnx
  refine ⟨hg, by omega, ?_, fun hb => ?_⟩
  · rw [← hnx, ofB, Bool.eq_iff_iff, inB_iff, decide_eq_true_eq]; omega
  · have hs : (succC N xs).isSome = true := by
      simp only [nxB, Bool.and_eq_true] at hb
      simpa using hb.2
    obtain ⟨ys, hys⟩ := Option.isSome_iff_exists.1 hs
    obtain ⟨a, b, c⟩ := (succC_rank N hN xs 0 (by omega) h).1 ys hys
    have e : nxRes (N : Int) xs = ys := by rw [nxRes_yes hb, Int.toNat_natCast, hys]; rfl
    rw [e]
    exact ⟨a, by omega, by omega⟩
/-- One slice more at the end, apart from all before. -/
theorem ListsA_push {w w' : World} {base H : Nat} {v v' u : Value} {L : List (List Int)} {l : List Int} {vs : List Value} (hl : vs.length = L.length) (h2 : w.ownsRow base 28 1 v L.length vs)
    (h3 : ∀ i (h1 : i < L.length) (h2 : i < vs.length), Own w base vs[i] L[i]) (h4 : ∀ i j (h1 : i < vs.length) (h2 : j < vs.length) (g : Nat), i ≠ j → vs[i].ownBlock = some g → vs[j].ownBlock ≠ some g)
    (h5 : ∀ i (h1 : i < vs.length) g, vs[i].ownBlock = some g → g < H) (hu : Own w base u l) (hH : ∀ g, u.ownBlock = some g → H ≤ g)
    (hrow : w'.ownsRow base 28 1 v' (L.length + 1) (vs ++ [u])) (hg : w.grownBy w' v.ownBlock) : ListsA w' base v' (L ++ [l]) := by
  have hk : ∀ x : Value, ∀ xs : List Int, Own w base x xs → Own w' base x xs := fun x xs hx => Own.kept_type hx (T := 28) (by decide) h2 hg
  refine ⟨vs ++ [u], by simp [hl], by rw [List.length_append]; exact hrow, fun i a b => ?_, fun i j a b g hij hi hj => ?_⟩
  · by_cases hi : i < L.length
    · rw [List.getElem_append_left (by omega), List.getElem_append_left hi]
      exact hk _ _ (h3 i hi (by omega))
    · have e1 : i = vs.length := by simp at b; simp at a; omega
      rw [List.getElem_append_right (by omega), List.getElem_append_right (by omega)]
      simp only [e1, Nat.sub_self, hl]
      simpa using hk _ _ hu
  · simp only [List.length_append, List.length_singleton] at a b
    by_cases h6 : i < vs.length
    · rw [List.getElem_append_left h6] at hi
      by_cases h7 : j < vs.length
      · rw [List.getElem_append_left h7] at hj
        exact h4 i j h6 h7 g hij hi hj
      · rw [List.getElem_append_right (by omega)] at hj
        simp only [show j - vs.length = 0 by omega, List.getElem_cons_zero] at hj
        have := h5 i h6 g hi
        have := hH g hj
        omega
    · rw [List.getElem_append_right (by omega)] at hi
      simp only [show i - vs.length = 0 by omega, List.getElem_cons_zero] at hi
      by_cases h7 : j < vs.length
      · rw [List.getElem_append_left h7] at hj
        have := h5 j h7 g hj
        have := hH g hi
        omega
      · omega
/-- the rows of a list of lists lie below a block -/
def RowsUnder (w : World) (base H : Nat) (v : Value) (L : List (List Int)) : Prop :=
  ∃ vs : List Value, vs.length = L.length ∧ w.ownsRow base 28 1 v L.length vs ∧ (∀ i (h1 : i < L.length) (h2 : i < vs.length), Own w base vs[i] L[i]) ∧
    (∀ i j (h1 : i < vs.length) (h2 : j < vs.length) (g : Nat), i ≠ j → vs[i].ownBlock = some g → vs[j].ownBlock ≠ some g) ∧ ∀ i (h1 : i < vs.length) g, vs[i].ownBlock = some g → g < H
theorem RowsUnder.listsA {w : World} {base H : Nat} {v : Value} {L : List (List Int)} (h : RowsUnder w base H v L) : ListsA w base v L := by
  obtain ⟨vs, a, b, c, d, _⟩ := h
  exact ⟨vs, a, b, c, d⟩
theorem RowsUnder.below {w w' : World} {base H : Nat} {v : Value} {L : List (List Int)} (h : RowsUnder w base H v L) (hb : Below w.heap.size w w') : RowsUnder w' base w'.heap.size v L := by
  obtain ⟨vs, a, b, c, d, e⟩ := h
  refine ⟨vs, a, ownsRow_below b hb, fun i x y => (c i x y).below hb, d, fun i x g hg => ?_⟩
  exact Nat.lt_of_lt_of_le (World.ownsRow.lt (c i (by omega) x) g hg).2 hb.size
theorem RowsUnder.push {w w' : World} {base H : Nat} {v v' u : Value} {L : List (List Int)} {l : List Int} {vs : List Value} (hl : vs.length = L.length) (h2 : w.ownsRow base 28 1 v L.length vs)
    (h3 : ∀ i (h1 : i < L.length) (h2 : i < vs.length), Own w base vs[i] L[i]) (h4 : ∀ i j (h1 : i < vs.length) (h2 : j < vs.length) (g : Nat), i ≠ j → vs[i].ownBlock = some g → vs[j].ownBlock ≠ some g)
    (h5 : ∀ i (h1 : i < vs.length) g, vs[i].ownBlock = some g → g < H) (hu : Own w base u l) (hH : ∀ g, u.ownBlock = some g → H ≤ g)
    (hrow : w'.ownsRow base 28 1 v' (L.length + 1) (vs ++ [u])) (hg : w.grownBy w' v.ownBlock) : RowsUnder w' base w'.heap.size v' (L ++ [l]) := by
  obtain ⟨us, a, b, c, d⟩ := ListsA_push hl h2 h3 h4 h5 hu hH hrow hg
  exact ⟨us, a, b, c, d, fun i x g hgb => (World.ownsRow.lt (c i (by omega) x) g hgb).2⟩
theorem closure_any (N : Nat) (hN : N ≤ 12) (v : Value) (xs : List Int) (a : Addr) (w : World) (ha : w.cell? a = some (.int .i64 (N : Int))) (h : Sits w v xs) (hl : xs.length ≤ 12) (hwf : ∀ x ∈ xs, (Lit.int .i64 x).wf = true) :
    Calls Try.prog 77 #[v, .pointer (some a)] w fun e w' => ∃ u, e = .returned (.tuple #[u, .bool (nxB (N : Int) xs)]) ∧ Own w' w.heap.size u (nxRes (N : Int) xs) ∧ Below w.heap.size w w' := by
  have H := hid h
  have HWF := hid hwf
  have HWN := hid (show (Lit.int .i64 (N : Int)).wf = true from WalkArith.wf_i64 (by omega))
  have hl20 : xs.length ≤ 1048576 := by omega
  clear h hwf
  go_enter Try.func77, Try.ntmps77
  go_wp2_with (first | (go_at_call 78; refine (impl_NextCombination_any _ _ xs _ HWN.out H.out hl20 HWF.out).mono ?_; rintro e w' ⟨u, rfl, ho, hb⟩; have HO := hid ho; have HB := hid hb; clear ho hb) | fail)
  go_ret2
  exact ⟨_, rfl, HO.out, HB.out⟩
end Go.Proofs.Ytijjdidljoicfab

/- AdjacentList: what lies ready when its search begins, and what stands at its end. Conditions: the blocks lie as the program lays them. -/
namespace Go.Proofs.Ytijjdidljoicfab
open Go.RowKit
set_option linter.unusedVariables false

theorem all_first {N K : Nat} (hN : N ≤ 12) (hK : K ≤ N) : (allL N K 0).getD 0 [] = upTo K := by
  have h := (seq_step (N := N) (k := K) (j := 0) hN hK (upFrom_length K _) (RF_upFrom N K 0 (by omega)) (rankC_upFrom N K 0)).1
  rw [h, upTo_upFrom]
abbrev allObj (gA n cA : Nat) : Obj := .cells #[.slice (some ⟨gA, 0, none⟩) n cA] 22
abbrev firstObj : Obj := .cells #[.slice none 0 0] 22
abbrev zeroObj : Obj := .cells #[.int .i64 0] 3
theorem first_row (w : World) : (w.alloc firstObj).rowIs w.heap.size 22 1 (fun _ => .slice none 0 0) :=
  World.rowIs_alloc w #[.slice none 0 0] 22 _ (fun i hi => by
    have h : i = 0 := by simp at hi; exact hi
    subst h; rfl)
theorem zero_own (w : World) : Own (w.alloc zeroObj) w.heap.size (.slice (some ⟨w.heap.size, 0, none⟩) 1 1) [0] := by
  refine ⟨rfl, .inr ⟨w.heap.size, 1, #[.int .i64 0], rfl, Nat.le_refl _, heap_alloc_new w _, Nat.le_refl _, by unfold maxLen; omega, rfl, rfl⟩⟩
theorem adj_start (w w1 w2 w3 w5 : World) (A : List (List Int)) (gA cA : Nat) (pE : Addr) (hB1 : Below w.heap.size w w1) (hB2 : Below w.heap.size w w2) (hL2 : ListsA w2 w1.heap.size (.slice (some ⟨gA, 0, none⟩) A.length cA) A)
    (hB3 : Below (w2.alloc (allObj gA A.length cA)).heap.size (w2.alloc (allObj gA A.length cA)) w3) (hC3 : w3.cell? pE = some (.int .i64 1))
    (ho5 : Own w5 ((w3.alloc (exO1 pE)).alloc firstObj).heap.size (.slice (some ⟨((w3.alloc (exO1 pE)).alloc firstObj).heap.size, 0, none⟩) A.length A.length) (upTo A.length))
    (hb5 : Below ((w3.alloc (exO1 pE)).alloc firstObj).heap.size ((w3.alloc (exO1 pE)).alloc firstObj) w5) :
    ∃ RV : Nat → Value, ALO w w.heap.size (w3.heap.size + 1 + 1) gA w3.heap.size w2.heap.size (w3.heap.size + 1) w5.heap.size pE A.length RV A ∧
      ALJ w w.heap.size (w3.heap.size + 1 + 1) gA cA w3.heap.size w2.heap.size (w3.heap.size + 1) pE A.length RV A (w5.alloc zeroObj) [] ∧
      Own (w5.alloc zeroObj) w5.heap.size (.slice (some ⟨w5.heap.size, 0, none⟩) 1 1) [0] ∧
      ∀ i j, i < A.length → j < A.length → i ≠ j → ∀ q, (RV i).ownBlock = some q → (RV j).ownBlock ≠ some q := by
  obtain ⟨vs, v1, v2, v3, v4⟩ := hL2
  have s1 := hB1.size
  have s2a : (w2.alloc (allObj gA A.length cA)).heap.size = w2.heap.size + 1 := by simp
  have s3 := hB3.size
  rw [s2a] at s3
  have s4 : ((w3.alloc (exO1 pE)).alloc firstObj).heap.size = w3.heap.size + 1 + 1 := by simp
  rw [s4] at ho5
  have s5 := hb5.size
  rw [s4] at s5
  have hgA := World.ownsRow.lt v2 gA rfl
  have hpE := World.block_lt_of_cell? w3 _ hC3
  have hgw := (World.ownsRow.lt ho5 _ rfl).2
  have X2 : Below w2.heap.size w2 w3 := ((Below.refl _ _).alloc (Nat.le_refl _) _).trans (hB3.mono (by omega))
  have X3 : Below w3.heap.size w3 w5 := (((Below.refl w3.heap.size w3).alloc (Nat.le_refl _) (exO1 pE)).alloc (by simp) firstObj).trans (hb5.mono (by omega))
  have X5 : Below w5.heap.size w5 (w5.alloc zeroObj) := (Below.refl _ _).alloc (Nat.le_refl _) _
  have Y3 : Below w3.heap.size w3 (w5.alloc zeroObj) := X3.trans (X5.mono (by omega))
  have Y2 : Below w2.heap.size w2 (w5.alloc zeroObj) := X2.trans (Y3.mono (by omega))
  have hRV : ∀ i (hi : i < A.length) (h2 : i < vs.length), vs.getD i undef = vs[i] := fun i hi h2 => by simp [List.getD_eq_getElem?_getD, h2]
  have hlt : ∀ i, i < A.length → ∀ q, (vs.getD i undef).ownBlock = some q → q < w2.heap.size := fun i hi q hq => by
    rw [hRV i hi (by omega)] at hq
    exact (World.ownsRow.lt (v3 i hi (by omega)) q hq).2
  refine ⟨fun i => vs.getD i undef, ⟨Nat.le_refl _, hgw, by omega, by omega, by omega, by omega, by omega, by have := hB2.size; omega, by omega, by omega, by omega, by omega, by omega, fun i hi q hq => by have := hlt i hi q hq; omega, rfl⟩, ⟨?_, ?_, ?_, ?_, ?_, ?_, ?_⟩, zero_own w5, ?_⟩
  · have h := (Own.below ho5 X5).sits
    have hl : (upTo A.length).length = A.length := upTo_length _
    rw [hl]
    exact h
  · have h1 : (w3.alloc (exO1 pE)).cell? ⟨w3.heap.size, 0, none⟩ = some (.func (.func 94) #[] #[.pointer (some pE)]) := ex_cell w3 pE
    have h2 := cell_below h1 ((Below.refl _ _).alloc (Nat.le_refl _) firstObj)
    exact cell_below (cell_below h2 hb5) X5
  · exact cell_below hC3 Y3
  · have h1 : (w2.alloc (allObj gA A.length cA)).cell? ⟨w2.heap.size, 0, none⟩ = some (.slice (some ⟨gA, 0, none⟩) A.length cA) := by simp
    exact cell_below (cell_below h1 hB3) Y3
  · intro i hi _
    have e := hRV i hi (by omega)
    have hc := World.ownsRow.cellAt v2 i (by omega)
    have hc2 : w2.cell? ⟨gA, i, none⟩ = some vs[i] := by rw [hc, List.getElem?_eq_getElem (by omega)]
    show (w5.alloc zeroObj).cell? ⟨gA, i, none⟩ = some (vs.getD i undef) ∧ Own (w5.alloc zeroObj) w.heap.size (vs.getD i undef) A[i]
    rw [e]
    exact ⟨cell_below hc2 Y2, ((v3 i hi (by omega)).below Y2).mono s1⟩
  · have hr := first_row (w3.alloc (exO1 pE))
    have s3' : (w3.alloc (exO1 pE)).heap.size = w3.heap.size + 1 := by simp
    rw [s3'] at hr
    refine ⟨_, (rowIs_below hr hb5 (by rw [s4]; omega)).alloc _, World.ownsRow_nil _ _ _ _, fun _ => rfl⟩
  · exact hB2.trans (Y2.mono (by have := hB2.size; omega))
  · intro i j hi hj hij q hq
    show (vs.getD j undef).ownBlock ≠ some q
    have hq : (vs.getD i undef).ownBlock = some q := hq
    rw [hRV i hi (by omega)] at hq
    rw [hRV j hj (by omega)]
    exact v4 i j (by omega) (by omega) q hij hq
theorem adj_final {w0 w : World} {B gw gA cA bA bAll bF M : Nat} {pE : Addr} {T : Nat} {RV : Nat → Value} {A : List (List Int)} {s : List Int} (o : ALO w0 B gw gA bA bAll bF M pE T RV A) (hj : ALJ w0 B gw gA cA bA bAll bF pE T RV A w s)
    (hap : ∀ i j, i < T → j < T → i ≠ j → ∀ q, (RV i).ownBlock = some q → (RV j).ownBlock ≠ some q) (hn : s.Nodup) (hr : ∀ x ∈ s, 0 ≤ x ∧ x < T) :
    ∃ ao c, w.cell? ⟨bF, 0, none⟩ = some (.slice ao s.length c) ∧ ListsA w B (.slice ao s.length c) (s.map (atA A)) := by
  obtain ⟨u, hrow, ho, _⟩ := hj.box
  have hlen := o.len
  have hu : ∃ ao c, u = .slice ao s.length c := by
    rcases ho.2 with ⟨rfl, h⟩ | ⟨g, cap, cur, rfl, _⟩
    · exact ⟨none, 0, by rw [h]⟩
    · exact ⟨_, _, rfl⟩
  obtain ⟨ao, c, rfl⟩ := hu
  have hsr : ∀ i (hi : i < s.length), ∃ a : Nat, s[i] = (a : Int) ∧ a < T := fun i hi => by
    have := hr _ (List.getElem_mem hi)
    exact ⟨s[i].toNat, by omega, by omega⟩
  refine ⟨ao, c, hrow.cell (i := 0) (by omega), s.map (fun x : Int => RV x.toNat), by simp, by rw [List.length_map]; exact ho, fun i h1 h2 => ?_, fun i j h1 h2 g hij hg => ?_⟩
  · have hi : i < s.length := by simpa using h2
    obtain ⟨a, ha, haT⟩ := hsr i hi
    rw [List.getElem_map, List.getElem_map, ha, Int.toNat_natCast]
    have e : atA A (a : Int) = A[a]'(by omega) := by unfold atA; rw [Int.toNat_natCast, getDL2 (by omega)]
    rw [e]
    exact (hj.rows a (by omega) haT).2
  · have hi : i < s.length := by simpa using h1
    have hj2 : j < s.length := by simpa using h2
    obtain ⟨a, ha, haT⟩ := hsr i hi
    obtain ⟨b, hb, hbT⟩ := hsr j hj2
    rw [List.getElem_map, ha, Int.toNat_natCast] at hg
    rw [List.getElem_map, hb, Int.toNat_natCast]
    refine hap a b haT hbT (fun e => ?_) g hg
    have hp := List.pairwise_iff_getElem.1 (List.nodup_iff_pairwise_ne.1 hn)
    rcases Nat.lt_or_gt_of_ne hij with h | h
    · exact hp i j hi hj2 h (by rw [ha, hb, e])
    · exact hp j i hj2 hi h (by rw [ha, hb, e])
theorem walk_A (w0 : World) (B gw gA cA bA bAll bF M : Nat) (pE : Addr) (T : Nat) (RV : Nat → Value) (A : List (List Int)) (o : ALO w0 B gw gA bA bAll bF M pE T RV A) (hfw : ∀ l ∈ A, fewL l) (hT0 : 0 < T) (hT : T ≤ 100) (w : World)
    (hj : ALJ w0 B gw gA cA bA bAll bF pE T RV A w []) (ho : Own w M (.slice (some ⟨M, 0, none⟩) 1 1) [0]) (hM : M ≤ w.heap.size) (d : Bool) (rs : List Int) (hwk : wk (stopG (nrA A)) (upTo T) visA (T - 1) [0] [] = (d, rs)) (nw : Nat) (hnw : nw = T) (m1 : Nat) (hm1 : m1 = M) :
    Calls Try.prog 57 #[.slice (some ⟨gw, 0, none⟩) nw nw, .slice (some ⟨m1, 0, none⟩) 1 1, .func (.func 55) #[] #[.pointer (some ⟨bA, 0, none⟩), .pointer (some ⟨bAll, 0, none⟩)], .func (.func 59) #[] #[.pointer (some ⟨bF, 0, none⟩), .pointer (some ⟨bAll, 0, none⟩)]] w fun e w' =>
      e = .returned (.bool d) ∧ ALJ w0 B gw gA cA bA bAll bF pE T RV A w' rs := by
  subst hm1
  have hl : (upTo T).length = T := upTo_length T
  obtain ⟨ws, hws⟩ : ∃ ws, ws = upTo T := ⟨_, rfl⟩
  have hwl : ws.length = T := by rw [hws, hl]
  have hnw2 : nw = ws.length := by rw [hnw, hwl]
  subst hnw2
  have hok : ∀ i (hi : i < ws.length), okT T ws[i] := fun i hi => by
    subst hws
    have hi2 : i < T := by rw [hl] at hi; exact hi
    have e : (upTo T)[i] = (i : Int) := by rw [← getD_at hi, upTo_getD _ _ hi2]
    rw [e]
    exact ⟨by omega, by omega⟩
  have h := walk_WkA ws visA (nrA A) (okT T) (ALJ w0 B gw gA cA bA bAll bF pE T RV A) m1 gw 0 ws.length ⟨bA, 0, none⟩ ⟨bAll, 0, none⟩ ⟨bF, 0, none⟩ ⟨bAll, 0, none⟩ hok (by omega) (by omega) (fun s => s = [])
    (fun p s s1 _ e => by simp [visA] at e)
    (fun _ _ _ _ hlv hj hg hr => hj.kept o hlv hg hr)
    (fun _ _ hj => by have := hj.sits; rw [← hws] at this; exact this)
    (fun _ _ _ _ hj hy hx => nearJ_any w0 B gw gA cA bA bAll bF m1 pE T RV A o hfw (by omega) _ _ _ _ hj hy hx)
    (fun _ _ _ _ p hlv hj ho hpl hok hM => visJ_any w0 B gw gA cA bA bAll bF m1 pE T RV A o (by omega) _ _ _ _ p hlv hj ho (by omega) (by omega) hok hM)
    (T - 1) [0] (.slice (some ⟨m1, 0, none⟩) 1 1) [] w rfl (by simp; omega) ho hj (fun i hi => by
      have h0 : i = 0 := by simpa using hi
      subst h0
      exact ⟨by simp, by simp; omega⟩) hM
  rw [hws, hwk] at h
  rw [hws]
  refine h.mono ?_
  rintro e w' ⟨h1, h2, _, _⟩
  exact ⟨h1, h2⟩
end Go.Proofs.Ytijjdidljoicfab

/- Contract: listFrom with the closure of AllCombinations. Conditions: at most 12 items. -/
namespace Go.Proofs.Ytijjdidljoicfab
open Go.RowKit
set_option linter.unusedVariables false

def slLen : Value → Nat
  | .slice _ n _ => n
  | _ => 0
theorem RowsUnder.keep {w w' : World} {base H : Nat} {v : Value} {L : List (List Int)} (h : RowsUnder w base H v L) (hb : Below w.heap.size w w') : RowsUnder w' base H v L := by
  obtain ⟨vs, a, b, c, d, e⟩ := h
  exact ⟨vs, a, ownsRow_below b hb, fun i x y => (c i x y).below hb, d, e⟩
theorem ownsRow_len {w : World} {base : Nat} {e : TypeId} {v : Value} {n : Nat} {vs : List Value} (h : w.ownsRow base e 1 v n vs) : slLen v = n := by
  rcases h.2 with ⟨rfl, hn⟩ | ⟨g, cap, cur, rfl, _⟩
  · exact hn.symm
  · rfl
theorem RowsUnder.len {w : World} {base H : Nat} {v : Value} {L : List (List Int)} (h : RowsUnder w base H v L) : slLen v = L.length := by
  obtain ⟨vs, a, b, _⟩ := h
  exact ownsRow_len b
theorem take_snoc {L : List (List Int)} {j : Nat} {xs : List Int} (h : j < L.length) (e : L.getD j [] = xs) : L.take (j + 1) = L.take j ++ [xs] := by
  rw [List.take_succ_eq_append_getElem h, ← e]
  simp [List.getD_eq_getElem?_getD, h]
/-- where the loop stands: the lists so far, the next one, whether there is one -/
def LF (N k B : Nat) (s7 s8 s9 : Value) (wr : World) : Prop :=
  (∃ (j : Nat) (xs : List Int) (H g n c : Nat), s9 = .bool true ∧ j < (allL N k 0).length ∧ RF N 0 xs ∧ xs.length = k ∧ rankC N 0 xs = j ∧ s8 = .slice (some ⟨g, 0, none⟩) n c ∧
    Own wr B s8 xs ∧ H ≤ g ∧ RowsUnder wr B H s7 ((allL N k 0).take j)) ∨ (s9 = .bool false ∧ ListsA wr B s7 (allL N k 0))
theorem RF_wf {N : Nat} {xs : List Int} (hN : N ≤ 12) (h : RF N 0 xs) : ∀ x ∈ xs, (Lit.int .i64 x).wf = true := by
  intro x hx
  obtain ⟨i, hi, rfl⟩ := List.mem_iff_getElem.1 hx
  have := RF_rise N xs 0 h i hi
  rw [getD_at hi] at this
  exact WalkArith.wf_i64 (by omega)
set_option maxHeartbeats 2000000 in
theorem listFrom_any (N k : Nat) (hN : N ≤ 12) (hk : k ≤ N) (g0 n0 c0 : Nat) (a : Addr) (B : Nat) (w : World) (ha : w.cell? a = some (.int .i64 (N : Int))) (hab : a.block < B) (hB : B ≤ w.heap.size) (hv : Own w B (.slice (some ⟨g0, 0, none⟩) n0 c0) (upTo k)) :
    Calls Try.prog 36 #[.slice (some ⟨g0, 0, none⟩) n0 c0, .int .i64 (binom N k : Int), .func (.func 77) #[] #[.pointer (some a)]] w fun e w' => ∃ u, e = .returned u ∧ ListsA w' B u (allL N k 0) ∧ Below B w w' := by
  obtain ⟨j0, hj, hy0, hy1, hy2⟩ := info_parts Try.infoL
  have hlen := allL_len N hN k 0 (by omega)
  rw [Nat.sub_zero] at hlen
  have hbd := allL_bound N hN k 0 (by omega)
  obtain ⟨C, hC⟩ : ∃ C, C = binom N k := ⟨_, rfl⟩
  have HCB := hid hC
  rw [← hC] at hlen ⊢
  have hC2 : C ≤ 2000 := by omega
  obtain ⟨wm, hrun, hown0, hgrow0⟩ := run_make_own (P := Try.prog) w B 22 28 j0 (.slice none 0 0) 1 Try.underlying22 hj hy0 hy1 .i64 .i64 C (by rw [hy2]; omega) (by unfold maxLen; omega) hB
  have HWM := hid (Below.grown (Below.refl B w) hgrow0 hB (fun q hq => by cases hq))
  have HA := hid ha
  have HLEN := hid hlen
  have HSZM := hid hgrow0.size
  have hst : LF N k B (.slice (some ⟨w.heap.size, 0, none⟩) 0 C) (.slice (some ⟨g0, 0, none⟩) n0 c0) (.bool true) wm := by
    have hv' : Own wm B (.slice (some ⟨g0, 0, none⟩) n0 c0) (upTo k) := Own.kept hv hgrow0 (.inr (by simp [Value.ownBlock]))
    have hpos : 0 < (allL N k 0).length := by
      rw [upTo_upFrom] at hv
      obtain ⟨_, h, _⟩ := seq_step hN hk (upFrom_length k _) (RF_upFrom N k 0 (by omega)) (rankC_upFrom N k 0)
      exact h
    refine .inl ⟨0, upTo k, 0, g0, n0, c0, rfl, hpos, by rw [upTo_upFrom]; exact RF_upFrom N k 0 (by omega), upTo_length k, by rw [upTo_upFrom]; exact rankC_upFrom N k 0, rfl, hv', Nat.zero_le _, ⟨[], rfl, hown0, fun i h => absurd h (by simp), fun i j h => absurd h (by simp), fun i h => absurd h (by simp)⟩⟩
  have HST := hid hst
  clear hst hown0 hgrow0 hv hC
  go_enter Try.func36, Try.ntmps36
  go_wp2_with fail
  clear hrun
  go_loopw [7, 8, 9] (fun s7 s8 s9 wr => LF N k B s7 s8 s9 wr ∧ Below B w wr ∧ wm.heap.size ≤ wr.heap.size) (fun s7 _ _ _ => C + 1 - slLen s7)
  case atStart => exact ⟨HST.out, HWM.out, Nat.le_refl _⟩
  case round =>
    obtain ⟨hlf, hbel, hszw⟩ := hrel
    rcases hlf with ⟨j, xs, H, g, n, c, rfl, hjl, hrf, hxl, hrk, rfl, ho, hHg, hrows⟩ | ⟨rfl, hla⟩
    · obtain ⟨e1, e2, e3, e4⟩ := seq_step hN hk hxl hrf hrk
      have HE1 := hid e1
      have HE4 := hid e4
      have HE3 := hid e3
      have HRF := hid hrf
      have HXL := hid hxl
      have HO := hid ho
      have HBB := hid hbel
      have hll := hrows.len
      have hlt : ((allL N k 0).take j).length = j := by rw [List.length_take]; omega
      have HTK := hid (take_snoc hjl e1)
      obtain ⟨vs, r1, r2, r3, r4, r5⟩ := hrows
      rw [hlt] at r1 r2 hll
      have HR2 := hid r2
      have hszB : B ≤ wr.heap.size := hbel.size |> Nat.le_trans hB
      obtain ⟨Bb, hBb⟩ : ∃ Bb, Bb = nxB (N : Int) xs := ⟨_, rfl⟩
      have HBb := hid hBb
      have HR := hid (show vs.length = ((allL N k 0).take j).length ∧ (∀ i (h1 : i < ((allL N k 0).take j).length) (h2 : i < vs.length), Own wr B vs[i] ((allL N k 0).take j)[i]) ∧ (∀ i j (h1 : i < vs.length) (h2 : j < vs.length) (g : Nat), i ≠ j → vs[i].ownBlock = some g → vs[j].ownBlock ≠ some g) ∧ (∀ i (h1 : i < vs.length) g, vs[i].ownBlock = some g → g < H) from ⟨by rw [hlt]; exact r1, r3, r4, r5⟩)
      have HLT := hid hlt
      have hjC : j < C := by rw [← HLEN.out]; exact hjl
      have HJ := hid hjl
      clear ho hbel hrf hxl hrk e1 e3 e4 r1 r2 r3 r4 r5 hlt hBb
      go_wp2_with (first
        | (at_builtin; refine wpList_append_own _ rfl _ _ 22 rfl B 28 j0 (.slice none 0 0) 1 24 Try.underlying22 hj hy0 hy1 hy2 rfl (by decide) _ _ _ rfl (World.ownsRow.alloc HR2.out _) ⟨wr.heap.size, 0, none⟩ 1 1 [.slice (some ⟨g, 0, none⟩) n c] rfl rfl (fun j u hj => new_cellV j hj) (by intro u hu; simp at hu; subst hu; rfl) ?c3 ?c4 ?c5 ?_)
        | fail)
      case c3 => unfold maxLen; omega
      case c4 => omega
      case c5 => exact Nat.le_trans hszB (by simp)
      intro v1 w1 hown1 hgrow1 _
      have hsa : wr.heap.size ≤ (wr.alloc (.cells #[.slice (some ⟨g, 0, none⟩) n c] 28)).heap.size := by simp
      have hsz1 := hgrow1.size
      have hBA : Below B w (wr.alloc (.cells #[.slice (some ⟨g, 0, none⟩) n c] 28)) := HBB.out.alloc hszB _
      have hBL : Below wr.heap.size wr (wr.alloc (.cells #[.slice (some ⟨g, 0, none⟩) n c] 28)) := (Below.refl _ _).alloc (Nat.le_refl _) _
      have HB1 := hid (hBA.grown hgrow1 (Nat.le_trans hszB hsa) (fun q hq => (World.ownsRow.lt HR2.out q hq).1))
      have HPU := hid (show RowsUnder w1 B w1.heap.size v1 ((allL N k 0).take j ++ [xs]) from
        RowsUnder.push HR.out.1 (by rw [HLT.out]; exact World.ownsRow.alloc HR2.out _) (fun i a b => (HR.out.2.1 i a b).below hBL) HR.out.2.2.1 HR.out.2.2.2 (HO.out.below hBL) (fun q hq => by simp only [Value.ownBlock, Option.some.injEq] at hq; omega) (by rw [HLT.out]; exact hown1) hgrow1)
      have HSIT := hid (show Sits w1 (.slice (some ⟨g, 0, none⟩) n c) xs from (Own.kept_type (HO.out.below hBL) (T := 28) (by decide) (World.ownsRow.alloc HR2.out _) hgrow1).sits)
      have HCA := hid (show w1.cell? a = some (.int .i64 (N : Int)) from (HB1.out.cell hab).trans HA.out)
      have HWF := hid (RF_wf hN HRF.out)
      have hx12 : xs.length ≤ 12 := by rw [HXL.out]; omega
      have hsz2 : B ≤ w1.heap.size := Nat.le_trans hszB (Nat.le_trans hsa hsz1)
      clear hown1 hgrow1 hBA hBL
      go_wp2_with (first | (go_at_call 77; refine (closure_any N hN _ xs a _ HCA.out HSIT.out hx12 HWF.out).mono ?_; rintro e w2 ⟨u2, rfl, ho2, hb2⟩; rw [← HBb.out]; have HO2 := hid ho2; have HB2 := hid hb2; clear ho2 hb2) | fail)
      have HB12 := hid (HB1.out.trans (HB2.out.mono hsz2))
      have HP2 := hid (by have h := HPU.out.keep HB2.out; rwa [← HTK.out] at h)
      cases hbb : Bb with
      | true =>
        subst hbb
        obtain ⟨f1, f2, f3⟩ := HE4.out HBb.out.symm
        have hj1 : j + 1 < (allL N k 0).length := of_decide_eq_true (HE3.out.symm.trans HBb.out.symm)
        have hk1 : 0 < (nxRes (N : Int) xs).length := by
          rcases Nat.eq_zero_or_pos k with h0 | h0
          · subst h0; have := HLEN.out; have := HCB.out; have : binom N 0 = 1 := by cases N <;> rfl
            omega
          · omega
        obtain ⟨g3, n3, c3, rfl⟩ := Own.shape HO2.out hk1
        have hg3 := (World.ownsRow.lt HO2.out.row g3 rfl).1
        go_roundw
        case rel => exact ⟨.inl ⟨j + 1, nxRes (N : Int) xs, w1.heap.size, g3, n3, c3, rfl, hj1, f1, f2, f3, rfl, HO2.out.mono hsz2, hg3, HP2.out⟩, HB12.out, Nat.le_trans hszw (Nat.le_trans hsa (Nat.le_trans hsz1 HB2.out.size))⟩
        case measure =>
          have h1 := HP2.out.len
          rw [List.length_take, Nat.min_eq_left (Nat.le_of_lt hj1)] at h1
          show C + 1 - slLen v1 < C + 1 - slLen u7
          rw [h1, hll]; omega
      | false =>
        subst hbb
        have hj1 : ¬ j + 1 < (allL N k 0).length := of_decide_eq_false (HE3.out.symm.trans HBb.out.symm)
        go_roundw
        case rel => exact ⟨.inr ⟨rfl, by have h := HP2.out.listsA; rwa [List.take_of_length_le (by omega)] at h⟩, HB12.out, Nat.le_trans hszw (Nat.le_trans hsa (Nat.le_trans hsz1 HB2.out.size))⟩
        case measure =>
          have h1 := HP2.out.len
          rw [List.length_take, Nat.min_eq_left (by omega)] at h1
          show C + 1 - slLen v1 < C + 1 - slLen u7
          rw [h1, hll]; omega
    · have HLA := hid hla
      clear hla
      go_wp2_with fail
      go_ret
      exact ⟨_, rfl, HLA.out, hbel⟩
end Go.Proofs.Ytijjdidljoicfab

/- Contracts: both AllCombinations functions. Conditions: none. -/
namespace Go.Proofs.Ytijjdidljoicfab
open Go.RowKit
set_option linter.unusedVariables false

def allB (n k : Int) : Bool := inB n 0 12 && inB k 0 12
def allRes (n k : Int) : List (List Int) := if allB n k = true then allL n.toNat k.toNat 0 else []
theorem allRes_yes {N K : Nat} (h : allB (N : Int) (K : Int) = true) : allRes (N : Int) (K : Int) = allL N K 0 := by unfold allRes; rw [if_pos h]; rfl
theorem allRes_no {n k : Int} (h : allB n k = false) : allRes n k = [] := by unfold allRes; rw [if_neg (by rw [h]; simp)]
theorem allL_none {N K : Nat} (hN : N ≤ 12) (hK : K ≤ 12) (h : N < K) : allL N K 0 = [] := by
  apply List.eq_nil_of_length_eq_zero
  rw [allL_len N hN K 0 hK, Nat.sub_zero, binom_zero N (by omega) K (by omega) h]
theorem Lists.nilA (w : World) (base : Nat) : ListsA w base (.slice none 0 0) [] := ⟨[], rfl, World.ownsRow_nil _ _ _ _, fun i h => absurd h (by simp), fun i j h => absurd h (by simp)⟩
theorem ret_pb {v : Value} {b c : Bool} (h : b = c) : Ending.returned (.tuple #[v, .bool b]) = .returned (.tuple #[v, .bool c]) := by rw [h]
theorem impl_AllCombinations_any (n k : Int) (w : World) (_wn : (Lit.int .i64 n).wf = true) (_wk : (Lit.int .i64 k).wf = true) :
    Calls Try.prog 46 #[.int .i64 n, .int .i64 k] w fun e w' => ∃ u, e = .returned (.tuple #[u, .bool (allB n k)]) ∧ ListsA w' w.heap.size u (allRes n k) ∧ Below w.heap.size w w' := by
  have HB0 := hid ((Below.refl w.heap.size w).alloc (Nat.le_refl _) (.cells #[.int .i64 n] 3))
  by_cases h1 : inB n 0 12 = true
  · by_cases h2 : inB k 0 12 = true
    · have HF : Hid (allB n k = true) := by show allB n k = true; rw [allB, h1, h2]; rfl
      obtain ⟨N, rfl⟩ : ∃ N : Nat, n = N := ⟨n.toNat, by have := inB_iff.1 h1; omega⟩
      obtain ⟨K, rfl⟩ : ∃ K : Nat, k = K := ⟨k.toNat, by have := inB_iff.1 h2; omega⟩
      have hN : N ≤ 12 := by have := inB_iff.1 h1; omega
      have hK : K ≤ 12 := by have := inB_iff.1 h2; omega
      have HX := hid (allRes_yes HF.out)
      by_cases hlt : (N : Int) < (K : Int)
      · have HE := hid (allL_none hN hK (by omega))
        go_enter Try.func46, Try.ntmps46
        go_wp2_with (first | (go_at_call 72; refine (isItemCount_any _ _).mono ?_; rintro e w' ⟨rfl, rfl⟩) | fail)
        go_ret2
        exact ⟨_, ret_pb HF.out.symm, by rw [HX.out, HE.out]; exact Lists.nilA _ _, HB0.out⟩
      · go_enter Try.func46, Try.ntmps46
        go_wp2_with (first | (go_at_call 72; refine (isItemCount_any _ _).mono ?_; rintro e w' ⟨rfl, rfl⟩) | fail)
        have hcell : (w.alloc (.cells #[.int .i64 (N : Int)] 3)).cell? ⟨w.heap.size, 0, none⟩ = some (.int .i64 (N : Int)) := by simp
        have HC0 := hid hcell
        have HCH := hid (chooseZ_nat N K (by omega) (by omega))
        have HSZ := hid (show (w.alloc (.cells #[.int .i64 (N : Int)] 3)).drew.heap.size = w.heap.size + 1 by simp)
        have hKN : K ≤ N := by omega
        clear hcell
        go_region_held3 (fun w' => w'.cell? ⟨w.heap.size, 0, none⟩ = some (.int .i64 (N : Int)))
          (first | exact HC0.out | exact HC1.out | exact HC2.out | go_keep | fail)
          (first
            | (go_at_call 58; refine (firstNumbers_any K _ (by omega)).mono ?_; rintro e w1 ⟨rfl, hou, hb1⟩; have HOU := hid hou; have HB1 := hid (Below_chain HB0.out.drew hb1); have HSZ1 := hid hb1.size; have HC1 := hid ((hb1.cell (p := ⟨w.heap.size, 0, none⟩) (by rw [HSZ.out]; exact Nat.lt_succ_self _)).trans HC0.out); clear hou hb1)
            | (go_at_call 37; refine (choose_any _ _ _ (by omega) (by omega)).mono ?_; rintro e w' ⟨rfl, rfl⟩; rw [HCH.out])
            | (go_at_call 36; refine (listFrom_any N K hN hKN _ _ _ ⟨w.heap.size, 0, none⟩ (w.heap.size + 1) _ HC1.out (Nat.lt_succ_self _) (by have := HSZ.out; have := HSZ1.out; omega) (by rw [← HSZ.out]; exact HOU.out)).mono ?_; rintro e w2 ⟨u, rfl, ho, hb⟩; have HO := hid ho; have HB2 := hid hb; have HC2 := hid ((hb.cell (p := ⟨w.heap.size, 0, none⟩) (Nat.lt_succ_self _)).trans HC1.out); clear ho hb)
            | fail)
        all_goals
          go_wp2_with fail
          go_ret2
          exact ⟨_, ret_pb HF.out.symm, by rw [HX.out]; exact HO.out.mono (Nat.le_succ _), HB1.out.trans (HB2.out.mono (Nat.le_succ _))⟩
    · have h2 : inB k 0 12 = false := by simpa using h2
      have HF : Hid (allB n k = false) := by show allB n k = false; rw [allB, h1, h2]; rfl
      have HX := hid (allRes_no HF.out)
      go_enter Try.func46, Try.ntmps46
      go_wp2_with (first | (go_at_call 72; refine (isItemCount_any _ _).mono ?_; rintro e w' ⟨rfl, rfl⟩) | fail)
      go_ret2
      exact ⟨_, ret_pb HF.out.symm, by rw [HX.out]; exact Lists.nilA _ _, HB0.out⟩
  · have h1 : inB n 0 12 = false := by simpa using h1
    have HF : Hid (allB n k = false) := by show allB n k = false; rw [allB, h1]; rfl
    have HX := hid (allRes_no HF.out)
    go_enter Try.func46, Try.ntmps46
    go_wp2_with (first | (go_at_call 72; refine (isItemCount_any _ _).mono ?_; rintro e w' ⟨rfl, rfl⟩) | fail)
    go_ret2
    exact ⟨_, ret_pb HF.out.symm, by rw [HX.out]; exact Lists.nilA _ _, HB0.out⟩
end Go.Proofs.Ytijjdidljoicfab

/- Contracts: sumOf and impl.AdjacentHalves. Conditions: none (of sumOf: at most 12 numbers in 0..11). -/
namespace Go.Proofs.Ytijjdidljoicfab
open Go.RowKit
set_option linter.unusedVariables false

theorem sumOf_any (v : Value) (l : List Int) (w : World) (h : Reads w v l) (hx : ∀ x ∈ l, 0 ≤ x ∧ x < 12) (hl : l.length ≤ 12) :
    Calls Try.prog 47 #[v] w fun e w' => e = .returned (.int .i64 (sumTo l l.length)) ∧ w = w' := by
  have HRG := hid (sumTo_range hx)
  obtain ⟨ao, c, rfl, hc1, hm, h⟩ := h.view
  rcases h with h | ⟨g, off, rfl, hb, hc⟩
  · subst h
    go_enter Try.func47, Try.ntmps47
    go_wp2_with fail
    refine wp_loop_rounds 1 ?_
    rw [rounds_succ]
    go_wp2_with fail
    go_ret
    exact ⟨rfl, rfl⟩
  · have HC := hid hc
    clear hc hx
    go_enter Try.func47, Try.ntmps47
    go_wp2_with fail
    go_loop [3, 5, 8] (fun s _ i => ∃ k : Nat, k ≤ l.length ∧ i = .int .i64 k ∧ s = .int .i64 (sumTo l k)) (fun _ _ i => l.length - (intOf i).toNat)
    case atStart => exact ⟨0, Nat.zero_le _, rfl, rfl⟩
    case round =>
      obtain ⟨k, hk, rfl, rfl⟩ := hrel
      have hrg := HRG.out k hk
      by_cases hlt : k < l.length
      · have hcx := HC.out k hlt
        have hrg2 := HRG.out (k + 1) (by omega)
        have HN := hid (show sumTo l (k + 1) = sumTo l k + l[k] by rw [sumTo, getD_at hlt])
        rw [HN.out] at hrg2
        obtain ⟨x, hx⟩ : ∃ x, x = l[k] := ⟨_, rfl⟩
        rw [← hx] at hcx HN hrg2
        obtain ⟨s, hs⟩ : ∃ s, s = sumTo l k := ⟨_, rfl⟩
        rw [← hs] at HN hrg hrg2 ⊢
        have hww : IntKind.i64.wrap (s + x) = s + x := IntWalk.i64_in _ (by omega)
        clear hx hs
        go_wp2_with fail
        go_round
        case rel => exact ⟨k + 1, by omega, by go_num, by rw [HN.out]⟩
        case measure => simp [intOf]; omega
      · obtain rfl : k = l.length := by omega
        go_wp2_with fail
        go_ret
        exact ⟨rfl, rfl⟩
theorem hlO_step {M : List (List Int)} {t : Nat} {l : List Int} (h : M.getD t [] = l) (h0 : 0 ≤ sumTo l l.length) : hlO M (t + 1) = hlO M t + sumTo l l.length % 2 := by
  rw [hlO, h, evenS]
  by_cases e : sumTo l l.length % 2 = 0
  · rw [if_pos (by simpa using e), e, Int.add_zero]
  · rw [if_neg (by simpa using e)]; omega
set_option maxHeartbeats 1000000 in
theorem impl_AdjacentHalves_any (n k : Int) (w : World) (_wn : (Lit.int .i64 n).wf = true) (_wk : (Lit.int .i64 k).wf = true) :
    Calls Try.prog 19 #[.int .i64 n, .int .i64 k] w fun e w' => e = .returned (.tuple #[.int .i64 (ahE n k), .int .i64 (ahO n k), .bool (szB n k)]) ∧ Below w.heap.size w w' := by
  cases hs : szB n k with
  | true =>
    have HS := hid hs
    obtain ⟨N, K, rfl, rfl, hN, hK⟩ := szB_nat hs
    have HAB := hid (show allB (N : Int) (K : Int) = true by rw [allB, Bool.and_eq_true, inB_iff, inB_iff]; omega)
    have HALL := hid (impl_AllCombinations_any (N : Int) (K : Int) w _wn _wk)
    rw [HAB.out, allRes_yes HAB.out] at HALL
    have HSM := hid (fun l hl => allL_small N K 0 l hl)
    have HEL := hid (fun l hl => allL_elem N K 0 l hl)
    have hbd := allL_bound N hN K 0 (by omega)
    have HE := hid (show ahE (N : Int) (K : Int) = hlE (allL N K 0) (allL N K 0).length by rw [ahE, if_pos hs]; rfl)
    have HO := hid (show ahO (N : Int) (K : Int) = hlO (allL N K 0) (allL N K 0).length by rw [ahO, if_pos hs]; rfl)
    have HRNG := hid (hl_range (allL N K 0))
    obtain ⟨M, hM⟩ : ∃ M, M = allL N K 0 := ⟨_, rfl⟩
    rw [← hM] at HALL HSM HEL hbd HE HO HRNG
    clear hs hM _wn _wk
    go_enter Try.func19, Try.ntmps19
    go_wp2_with (first | (go_at_call 30; refine (isChoice_any _ _ _).mono ?_; rintro e w1 ⟨rfl, rfl⟩; rw [HS.out]) | fail)
    refine HALL.out.mono ?_
    rintro e w1 ⟨u, rfl, hu, hb1⟩
    have HB1 := hid hb1
    have hll := hu.lists
    rcases hll.form with ⟨rfl, hnil⟩ | ⟨g, cap, rfl, _, hg, hc1, hm, hc⟩
    · have HN := hid hnil
      have HE2 := hid (show ahE (N : Int) (K : Int) = 0 by rw [HE.out, HN.out]; rfl)
      have HO2 := hid (show ahO (N : Int) (K : Int) = 0 by rw [HO.out, HN.out]; rfl)
      clear hu hll hnil hb1
      go_wp2_with fail
      refine wp_loop_rounds 1 ?_
      rw [rounds_succ]
      go_wp2_with fail
      go_ret3
      exact ⟨ret_nnb3 HE2.out.symm HO2.out.symm rfl, HB1.out⟩
    · have HC := hid hc
      clear hu hll hc hb1
      go_wp2_with fail
      go_loop [9, 11, 24] (fun o _ i => ∃ t : Nat, t ≤ M.length ∧ i = .int .i64 t ∧ o = .int .i64 (hlO M t)) (fun _ _ i => M.length - (intOf i).toNat)
      case atStart => exact ⟨0, Nat.zero_le _, rfl, rfl⟩
      case round =>
        obtain ⟨t, ht, rfl, rfl⟩ := hrel
        have hrg := HRNG.out t
        by_cases hlt : t < M.length
        · obtain ⟨z, hz, hown⟩ := HC.out t hlt
          have HZ := hid hown.reads
          obtain ⟨l, hl⟩ : ∃ l, l = M[t] := ⟨_, rfl⟩
          rw [← hl] at HZ
          have HLX := hid (show ∀ x ∈ l, 0 ≤ x ∧ x < 12 from fun x hx => by
            have := HSM.out l (by rw [hl]; exact List.getElem_mem _) x hx
            omega)
          have hll : l.length ≤ 12 := by rw [hl, HEL.out _ (List.getElem_mem _)]; omega
          have hsr := sumTo_range HLX.out l.length (Nat.le_refl _)
          have HST := hid (hlO_step (M := M) (t := t) (l := l) (by rw [getDL2 hlt, hl]) hsr.1)
          obtain ⟨s, hs⟩ : ∃ s, s = sumTo l l.length := ⟨_, rfl⟩
          have HSS := hid hs
          rw [← hs] at hsr HST
          obtain ⟨o, ho⟩ : ∃ o, o = hlO M t := ⟨_, rfl⟩
          rw [← ho] at HST hrg ⊢
          have hs0 := hsr.1
          have hm2 : 0 ≤ s % 2 ∧ s % 2 ≤ 1 := by omega
          obtain ⟨r, hr⟩ : ∃ r, r = s % 2 := ⟨_, rfl⟩
          have HR := hid hr
          rw [← hr] at HST hm2
          have hww : IntKind.i64.wrap (o + r) = o + r := IntWalk.i64_in _ (by omega)
          have htm : s.tmod 2 = r := by rw [hr]; exact Int.tmod_eq_emod_of_nonneg hs0
          have hwr : IntKind.i64.wrap r = r := IntWalk.i64_in _ (by omega)
          clear hown hl hs ho hr hsr
          go_wp2_with (first | (go_at_call 47; refine (sumOf_any _ l _ HZ.out HLX.out hll).mono ?_; rintro e w2 ⟨rfl, rfl⟩; rw [← HSS.out]) | fail)
          go_round
          case rel => exact ⟨t + 1, by omega, by go_num, by first | (rw [HST.out]; done) | (rw [HST.out, HR.out])⟩
          case measure => simp [intOf] <;> omega
        · obtain rfl : t = M.length := by omega
          have HEV := hid (show (M.length : Int) - hlO M M.length = hlE M M.length by omega)
          obtain ⟨o, ho⟩ : ∃ o, o = hlO M M.length := ⟨_, rfl⟩
          rw [← ho] at HEV hrg HO ⊢
          have hww : IntKind.i64.wrap ((M.length : Int) - o) = (M.length : Int) - o := IntWalk.i64_in _ (by omega)
          clear ho
          go_wp2_with fail
          go_ret3
          exact ⟨ret_nnb3 (by rw [HE.out, HEV.out]) HO.out.symm rfl, HB1.out⟩
  | false =>
    have HS := hid hs
    have HE := hid (show ahE n k = 0 by rw [ahE, if_neg (by rw [hs]; simp)])
    have HO := hid (show ahO n k = 0 by rw [ahO, if_neg (by rw [hs]; simp)])
    clear hs
    go_enter Try.func19, Try.ntmps19
    go_wp2_with (first | (go_at_call 30; refine (isChoice_any _ _ _).mono ?_; rintro e w1 ⟨rfl, rfl⟩; rw [HS.out]) | fail)
    go_ret3
    exact ⟨ret_nnb3 HE.out.symm HO.out.symm rfl, Below.refl _ _⟩
end Go.Proofs.Ytijjdidljoicfab

/- Plain facts on marks in a list of lists. No conditions. -/
namespace Go.Proofs.Ytijjdidljoicfab
open Go.RowKit
set_option linter.unusedVariables false

theorem preLen_same {L M : List (List Int)} (hl : M.length = L.length) (h : ∀ i (a : i < M.length) (b : i < L.length), M[i].length = L[i].length) : ∀ i, preLen M i = preLen L i
  | 0 => rfl
  | i + 1 => by
    rw [preLen, preLen, preLen_same hl h i]
    by_cases hi : i < L.length
    · have hi' : i < M.length := by omega
      have := h i hi' hi
      simp [List.getD_eq_getElem?_getD, hi, hi', this]
    · have hi' : ¬ i < M.length := by omega
      simp [List.getD_eq_getElem?_getD, hi, hi']
theorem preLen_le {L : List (List Int)} {c : Nat} (h : ∀ l ∈ L, l.length ≤ c) : ∀ i, preLen L i ≤ c * i
  | 0 => Nat.le_refl _
  | i + 1 => by
    have ih := preLen_le h i
    have hd : (L.getD i []).length ≤ c := by
      by_cases hi : i < L.length
      · simpa [List.getD_eq_getElem?_getD, hi] using h _ (List.getElem_mem hi)
      · simp [List.getD_eq_getElem?_getD, hi]
    rw [preLen, Nat.mul_succ]; omega
theorem marked_of {L M : List (List Int)} {m : Int} (hl : M.length = L.length) (h : ∀ i (a : i < M.length) (b : i < L.length), M[i] = marks (m + preLen L i) L[i].length) : Marked m M ∧ preLen M M.length = preLen L L.length := by
  have hs : ∀ i (a : i < M.length) (b : i < L.length), M[i].length = L[i].length := fun i a b => by rw [h i a b, marks_length]
  have hp := preLen_same hl hs
  refine ⟨fun i a => ?_, by rw [hp, hl]⟩
  rw [hp, hs i a (by omega)]
  exact h i a (by omega)
end Go.Proofs.Ytijjdidljoicfab

/- Contract: impl.AdjacentList. Conditions: none. -/
namespace Go.Proofs.Ytijjdidljoicfab
open Go.RowKit
set_option linter.unusedVariables false

theorem adjRes_no {n k : Int} (h : adjOk n k = false) : adjRes n k = [] := by unfold adjRes; rw [if_neg (by rw [h]; simp)]
theorem adjB_no {n k : Int} (h : adjOk n k = false) : adjB n k = false := by unfold adjB; rw [adjRes_no h]; rfl
theorem ret_sb8 {u : Value} {b b' : Bool} (h : b = b') : Ending.returned (.tuple #[u, .bool b]) = .returned (.tuple #[u, .bool b']) := by rw [h]
set_option maxHeartbeats 2000000 in
theorem impl_AdjacentList_any (n k : Int) (w : World) (_wn : (Lit.int .i64 n).wf = true) (_wk : (Lit.int .i64 k).wf = true) :
    Calls Try.prog 21 #[.int .i64 n, .int .i64 k] w fun e w' => ∃ u, e = .returned (.tuple #[u, .bool (adjB n k)]) ∧ ListsA w' w.heap.size u (adjRes n k) ∧ Below w.heap.size w w' := by
  have HHV := hid (fun w => impl_AdjacentHalves_any n k w _wn _wk)
  have HBOX := hid ((Below.refl w.heap.size w).alloc (Nat.le_refl _) (.cells #[.slice none 0 0] 22))
  cases hs : szB n k with
  | false =>
    have HS := hid hs
    have HNO := hid (show adjOk n k = false by
      rw [adjOk]
      cases h1 : inB n 0 6 with
      | false => rfl
      | true =>
        have h2 := inB_iff.1 h1
        rw [szB, inB_iff.2 ⟨h2.1, by omega⟩, Bool.true_and] at hs
        rw [hs]; rfl)
    clear hs
    go_enter Try.func21, Try.ntmps21
    go_wp2_with (first | (go_at_call 19; refine (HHV.out _).mono ?_; rintro e w1 ⟨rfl, hb1⟩; rw [HS.out]; have HB1 := hid hb1; clear hb1) | fail)
    go_ret2
    exact ⟨_, ret_sb8 (adjB_no HNO.out).symm, by rw [adjRes_no HNO.out]; exact Lists.nilA _ _, HB1.out⟩
  | true =>
    have HS := hid hs
    obtain ⟨N, K, rfl, rfl, hN, hK⟩ := szB_nat hs
    have HE := hid (show ahE (N : Int) (K : Int) = hlE (allL N K 0) (allL N K 0).length by rw [ahE, if_pos hs]; rfl)
    have HO := hid (show ahO (N : Int) (K : Int) = hlO (allL N K 0) (allL N K 0).length by rw [ahO, if_pos hs]; rfl)
    have hrg := hl_range (allL N K 0) (allL N K 0).length
    have hbd := allL_bound N hN K 0 (by omega)
    obtain ⟨E, hE⟩ : ∃ E, E = hlE (allL N K 0) (allL N K 0).length := ⟨_, rfl⟩
    obtain ⟨O, hO⟩ : ∃ O, O = hlO (allL N K 0) (allL N K 0).length := ⟨_, rfl⟩
    rw [← hE] at HE hrg
    rw [← hO] at HO hrg
    have HOK := hid (show adjOk (N : Int) (K : Int) = (decide ((N : Int) ≤ 6) && decide (apV E O ≤ 1)) by
      have h1 : inB (N : Int) 0 6 = decide ((N : Int) ≤ 6) := by rw [Bool.eq_iff_iff, inB_iff, decide_eq_true_eq]; omega
      have h2 : inB (K : Int) 0 (N : Int) = true := inB_iff.2 ⟨by omega, by omega⟩
      rw [adjOk, h1, h2, Bool.and_true, Int.toNat_natCast, Int.toNat_natCast, ← hE, ← hO, ap_abs])
    have hEO : -100000 ≤ E - O ∧ E - O ≤ 100000 := by omega
    by_cases h6 : (N : Int) ≤ 6
    · obtain ⟨d, hd⟩ : ∃ d, d = apV E O := ⟨_, rfl⟩
      rw [← hd] at HOK
      have HD := hid hd
      by_cases h1 : d ≤ 1
      · have HYES := hid (show adjOk (N : Int) (K : Int) = true by rw [HOK.out, decide_eq_true h6, decide_eq_true h1]; rfl)
        have HAB := hid (show allB (N : Int) (K : Int) = true by rw [allB, Bool.and_eq_true, inB_iff, inB_iff]; omega)
        have HALL := hid (fun w => impl_AllCombinations_any (N : Int) (K : Int) w _wn _wk)
        rw [HAB.out, allRes_yes HAB.out] at HALL
        obtain ⟨ha0, ha1⟩ := all_six N K (by omega) hK
        have HFA := hid (few_all N K hN (by omega))
        have HND := hid (allL_nodup N K 0)
        obtain ⟨A, hA⟩ : ∃ A, A = allL N K 0 := ⟨_, rfl⟩
        have HA := hid hA
        have HRS := hid (show adjRes (N : Int) (K : Int) = srch A (A.length - 1) [upTo K] by
          unfold adjRes
          rw [if_pos HYES.out, Int.toNat_natCast, Int.toNat_natCast, adjS, ← hA])
        have hA0 : atA A 0 = upTo K := by
          have := all_first hN hK
          rw [← hA] at this
          exact this
        rw [← hA] at HALL HFA HND ha0 ha1
        have hws := wk_srch HND.out (A.length - 1) [0] (by simp) (by simp) (fun x hx => by simp at hx; subst hx; omega)
        rw [List.map_cons, List.map_nil, hA0, ← HRS.out] at hws
        obtain ⟨r, hr⟩ : ∃ r, r = wk (stopG (nrA A)) (upTo A.length) visA (A.length - 1) [0] [] := ⟨_, rfl⟩
        rw [← hr] at hws
        obtain ⟨dn, rs⟩ := r
        obtain ⟨w1', w2', w3', w4'⟩ := hws
        have HWK := hid hr.symm
        have HDN := hid (show adjB (N : Int) (K : Int) = !dn by
          have w5' : dn = decide ((adjRes (N : Int) (K : Int)).length = 0) := w1'
          rw [adjB, w5']
          by_cases hz : (adjRes (N : Int) (K : Int)).length = 0
          · rw [decide_eq_true hz, decide_eq_false (by omega)]; rfl
          · rw [decide_eq_false hz, decide_eq_true (by omega)]; rfl)
        have HRL := hid (show rs.map (atA A) = adjRes (N : Int) (K : Int) from w2')
        have HRN := hid (show rs.Nodup from w3')
        have HRG := hid (show ∀ x ∈ rs, 0 ≤ x ∧ x < (A.length : Int) from w4')
        clear hr w1' w2' w3' w4' hA0
        clear hd hs hE hO hA hrg hbd
        go_enter Try.func21, Try.ntmps21
        go_wp2_with fail
        refine (HHV.out _).mono ?_
        rintro e w1 ⟨rfl, hb1⟩
        rw [HS.out, HE.out, HO.out]
        have HB1 := hid hb1
        clear hb1
        go_wp2_with fail
        refine (apart_any E O _ hEO.1 hEO.2).mono ?_
        rintro e w2 ⟨rfl, rfl⟩
        rw [← HD.out]
        go_wp2_with fail
        refine (HALL.out _).mono ?_
        rintro e w2 ⟨u2, rfl, ho2, hb2⟩
        obtain ⟨gA, cA, rfl⟩ := ho2.lists.pos ha0
        have HB2 := hid (Below_chain HB1.out hb2)
        have HL2 := hid ho2
        clear ho2 hb2
        go_wp2_with fail
        refine (adjacentExchanges_any _).mono ?_
        rintro e w3 ⟨pE, rfl, hc3, hb3⟩
        dsimp only [exV]
        have HC3 := hid hc3
        have HB3 := hid hb3
        have hcAll : ((w3.alloc (exO1 pE)).alloc firstObj).cell? ⟨w2.heap.size, 0, none⟩ = some (.slice (some ⟨gA, 0, none⟩) A.length cA) := by
          have h1 : (w2.alloc (allObj gA A.length cA)).cell? ⟨w2.heap.size, 0, none⟩ = some (.slice (some ⟨gA, 0, none⟩) A.length cA) := by simp
          exact cell_below (cell_below (cell_below h1 hb3) ((Below.refl _ _).alloc (Nat.le_refl _) (exO1 pE))) ((Below.refl _ _).alloc (Nat.le_refl _) firstObj)
        clear hc3 hb3
        go_wp2_with fail
        refine (firstNumbers_any A.length _ (by omega)).mono ?_
        rintro e w5 ⟨rfl, ho5, hb5⟩
        obtain ⟨RV, hAO, hAJ, hAW, hAP⟩ := adj_start w w1 w2 w3 w5 A gA cA pE HB1.out HB2.out HL2.out HB3.out HC3.out ho5 hb5
        have HAO := hid hAO
        have HAJ := hid hAJ
        have HAW := hid hAW
        have HAP := hid hAP
        clear ho5 hb5 hcAll hAO hAJ hAW hAP
        go_wp2_with fail
        refine (walk_A w w.heap.size (w3.heap.size + 1 + 1) gA cA w3.heap.size w2.heap.size (w3.heap.size + 1) w5.heap.size pE A.length RV A HAO.out HFA.out ha0 ha1 _ HAJ.out HAW.out (by simp) dn rs HWK.out A.length rfl _ rfl).mono ?_
        rintro e w6 ⟨rfl, hj6⟩
        obtain ⟨ao, c, hc6, hl6⟩ := adj_final HAO.out hj6 HAP.out HRN.out HRG.out
        have HL6 := hid hl6
        have HB6 := hid hj6.bel
        clear hl6 hj6
        go_wp2_with fail
        go_ret2
        exact ⟨_, ret_sb8 HDN.out.symm, by rw [← HRL.out]; exact HL6.out, HB6.out⟩
      · have HNO := hid (show adjOk (N : Int) (K : Int) = false by rw [HOK.out, decide_eq_false h1, Bool.and_false])
        clear hd hs hE hO
        go_enter Try.func21, Try.ntmps21
        go_wp2_with fail
        refine (HHV.out _).mono ?_
        rintro e w1 ⟨rfl, hb1⟩
        rw [HS.out, HE.out, HO.out]
        have HB1 := hid hb1
        clear hb1
        go_wp2_with fail
        refine (apart_any E O _ hEO.1 hEO.2).mono ?_
        rintro e w2 ⟨rfl, rfl⟩
        rw [← HD.out]
        go_wp2_with fail
        go_ret2
        exact ⟨_, ret_sb8 (adjB_no HNO.out).symm, by rw [adjRes_no HNO.out]; exact Lists.nilA _ _, HB1.out⟩
    · have HNO := hid (show adjOk (N : Int) (K : Int) = false by rw [HOK.out, decide_eq_false h6, Bool.false_and])
      clear hs hE hO
      go_enter Try.func21, Try.ntmps21
      go_wp2_with fail
      refine (HHV.out _).mono ?_
      rintro e w1 ⟨rfl, hb1⟩
      rw [HS.out, HE.out, HO.out]
      have HB1 := hid hb1
      clear hb1
      go_wp2_with fail
      go_ret2
      exact ⟨_, ret_sb8 (adjB_no HNO.out).symm, by rw [adjRes_no HNO.out]; exact Lists.nilA _ _, HB1.out⟩
theorem srL_all {A P : List (List Int)} {f : List (List Int) → List (List Int)} {c : Nat} (hf : ∀ l ∈ A, (f (P ++ [l])).length ≤ c ∧ ∀ x ∈ f (P ++ [l]), x.length ≤ 12) : ∀ B : List (List Int), (∀ l ∈ B, l ∈ A) → (srL f P B).length ≤ c ∧ ∀ x ∈ srL f P B, x.length ≤ 12
  | [], _ => ⟨by simp [srL], fun x hx => by simp [srL] at hx⟩
  | l :: t, hB => by
    have ih := srL_all hf t (fun y hy => hB y (by simp [hy]))
    rw [srL]
    split
    · exact ih
    · split
      · exact ih
      · exact hf l (hB l (by simp))
theorem srch_all (A : List (List Int)) (hA : ∀ l ∈ A, l.length ≤ 12) : ∀ (m : Nat) (P : List (List Int)), (∀ l ∈ P, l.length ≤ 12) → (srch A m P).length ≤ P.length + m ∧ ∀ x ∈ srch A m P, x.length ≤ 12
  | 0, P, hP => ⟨Nat.le_refl _, hP⟩
  | m + 1, P, hP => by
    have h := srL_all (A := A) (P := P) (f := srch A m) (c := P.length + (m + 1)) (fun l hl => by
      have ih := srch_all A hA m (P ++ [l]) (fun x hx => by
        rcases List.mem_append.1 hx with h | h
        · exact hP x h
        · simp at h; subst h; exact hA _ hl)
      exact ⟨by have := ih.1; simp at this; omega, ih.2⟩) A (fun l hl => hl)
    exact h
theorem preLen_adjRes (n k : Int) : preLen (adjRes n k) (adjRes n k).length ≤ 100000 := by
  cases h : adjOk n k with
  | false => rw [adjRes_no h]; exact Nat.zero_le _
  | true =>
    have h2 := h
    simp only [adjOk, Bool.and_eq_true] at h2
    have hn := inB_iff.1 h2.1.1
    have hk := inB_iff.1 h2.1.2
    obtain ⟨N, rfl⟩ : ∃ N : Nat, n = N := ⟨n.toNat, by omega⟩
    obtain ⟨K, rfl⟩ : ∃ K : Nat, k = K := ⟨k.toNat, by omega⟩
    have e : adjRes (N : Int) (K : Int) = srch (allL N K 0) ((allL N K 0).length - 1) [upTo K] := by
      unfold adjRes
      rw [if_pos h]
      rfl
    rw [e]
    have hs := srch_all (allL N K 0) (fun l hl => by rw [allL_elem N K 0 l hl]; omega) ((allL N K 0).length - 1) [upTo K] (fun l hl => by simp at hl; subst hl; rw [upTo_length]; omega)
    have h6 := all_six N K (by omega) (by omega)
    have hp := preLen_le (c := 12) hs.2 (srch (allL N K 0) ((allL N K 0).length - 1) [upTo K]).length
    have := hs.1
    simp at this
    omega
end Go.Proofs.Ytijjdidljoicfab

/- The walk of the law FnExactAdjacentList. Conditions: none. -/
namespace Go.Proofs.Ytijjdidljoicfab
open Go.RowKit
set_option linter.unusedVariables false

set_option maxHeartbeats 1000000 in
theorem walk_FnExactAdjacentList (a0 : Int) (a1 : Int) (w : World) (w0 : (Lit.int .i64 a0).wf = true) (w1 : (Lit.int .i64 a1).wf = true) :
    Calls Try.prog 6 #[.int .i64 a0, .int .i64 a1] w fun e w' => e = .returned (.bool true) ∧ Below w.heap.size w w' := by
  have hX := preLen_adjRes a0 a1
  obtain ⟨L, hL⟩ : ∃ L, L = adjRes a0 a1 := ⟨_, rfl⟩
  have HL := hid hL
  rw [← hL] at hX
  obtain ⟨p, hp⟩ : ∃ p, p = preLen L L.length := ⟨_, rfl⟩
  have HP := hid hp
  rw [← hp] at hX
  have hn2 : ((adjB a0 a1) != (adjB a0 a1)) = false := by simp
  clear hL hp
  go_enter Try.func6, Try.ntmps6
  go_wp2_with fail
  refine (spec_AdjacentList_any _ _ _ w0 w1).mono ?_
  rintro e W1 ⟨u, rfl, ho, hb⟩
  rw [← HL.out] at ho
  have B1 := hid hb; have U1 := hid ho; clear hb ho
  go_wp2_with fail
  refine (impl_AdjacentList_any _ _ _ w0 w1).mono ?_
  rintro e W2 ⟨g, rfl, ho, hb⟩
  rw [← HL.out] at ho
  have S2 := hid hb.size; have B2 := hid hb; have G2 := hid ho; clear hb ho
  go_wp2_with fail
  refine (eqIntSS_any _ _ L _ _ _ G2.out.lists (U1.out.below B2.out)).mono ?_
  rintro e W3 ⟨rfl, hb⟩
  have S3 := hid (Nat.le_trans S2.out hb.size); have B3 := hid (B2.out.trans (hb.mono S2.out)); have G3 := hid (G2.out.below hb); clear hb
  go_wp2_with fail
  refine (markIntSS_any _ L _ _ _ G3.out (by omega) (by omega) (by rw [← HP.out]; omega)).mono ?_
  rintro e W4 ⟨rfl, M, hM, hMl, hMe, hb, hsz⟩
  rw [← HP.out]
  have S4 := hid (Nat.le_trans S3.out hsz); have B4 := hid (B3.out.trans hb); have G4 := hid hM
  obtain ⟨hmk, hpm⟩ := marked_of hMl hMe
  have HMK := hid hmk
  have HPM := hid (hpm.trans HP.out.symm)
  clear hM hMl hMe hb hsz hmk hpm
  go_wp2_with fail
  refine (heldIntSS_any _ M _ _ _ G4.out.lists HMK.out (by omega) (by omega) (by rw [HPM.out]; omega)).mono ?_
  rintro e W5 ⟨rfl, he⟩
  subst he
  rw [HPM.out]
  go_wp2_with fail
  refine (impl_AdjacentList_any _ _ _ w0 w1).mono ?_
  rintro e W6 ⟨h, rfl, ho, hb⟩
  rw [← HL.out] at ho
  have S6 := hid (Nat.le_trans S4.out hb.size); have B6 := hid (B4.out.trans (hb.mono S4.out)); have G6 := hid (G4.out.below hb); have H6 := hid ho; clear hb ho
  go_wp2_with fail
  refine (eqIntSS_any _ _ L _ _ _ H6.out.lists (U1.out.below B6.out)).mono ?_
  rintro e W7 ⟨rfl, hb⟩
  have B7 := hid (B6.out.trans (hb.mono S6.out)); have G7 := hid (G6.out.below hb); clear hb
  go_wp2_with fail
  refine (heldIntSS_any _ M _ _ _ G7.out.lists HMK.out (by omega) (by omega) (by rw [HPM.out]; omega)).mono ?_
  rintro e W8 ⟨rfl, he⟩
  subst he
  rw [HPM.out]
  go_wp2
  go_ret
  exact ⟨rfl, Below_chain B1.out B7.out⟩
end Go.Proofs.Ytijjdidljoicfab
