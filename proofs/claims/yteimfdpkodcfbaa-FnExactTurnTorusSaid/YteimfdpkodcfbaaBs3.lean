/- Facts and contracts (RowsL, SSL, SS, SS2, SS3, PreL, OwnE, LE, Row, Push0, PsL0, Fill, CmpP, RowsIn, End0, Join), merged. Conditions: as told at each. -/
import Derived.Test.YteimfdpkodcfbaaBs1
import Derived.Deep.Matrix
import Derived.Test.YteimfdpkodcfbaaBs2
import Derived.Deep.RegionHeld3
import Derived.Deep.DeepAppendRoom

/- Slices of slices of ints that came in, as lists of lists; contracts: szIntS, szIntSS. Conditions: the slices read as lists (of lists). -/
namespace Go.Proofs.Yteimfdpkodcfbaa
open Go.RowKit
set_option linter.unusedVariables false

/-- v is a slice whose elements are slices that read as the lists of L; they may share memory. -/
def ReadsL (w : World) (v : Value) (L : List (List Int)) : Prop :=
  ∃ ao c, v = .slice ao L.length c ∧ L.length ≤ c ∧ c ≤ maxLen ∧
    (L = [] ∨ ∃ b off, ao = some ⟨b, off, none⟩ ∧ b < w.heap.size ∧ ∀ i (hi : i < L.length), ∃ u, w.cell? ⟨b, off + i, none⟩ = some u ∧ Reads w u L[i])
theorem ReadsL.below {w w' : World} {v : Value} {L : List (List Int)} (h : ReadsL w v L) (hb : Below w.heap.size w w') : ReadsL w' v L := by
  obtain ⟨ao, c, rfl, h1, h2, h⟩ := h
  refine ⟨ao, c, rfl, h1, h2, ?_⟩
  rcases h with h | ⟨b, off, rfl, h3, h4⟩
  · exact .inl h
  · refine .inr ⟨b, off, rfl, Nat.lt_of_lt_of_le h3 hb.size, fun i hi => ?_⟩
    obtain ⟨u, hu, hr⟩ := h4 i hi
    exact ⟨u, (hb.cell (by exact h3)).trans hu, hr.below hb⟩
theorem szIntS_any (v : Value) (xs : List Int) (m : Int) (w : World) (h : Reads w v xs) (h0 : 0 ≤ m) (h1 : m ≤ 1073741824) :
    Calls Try.prog 146 #[v, .int .i64 m] w fun e w' => e = .returned (.int .i64 (if (xs.length : Int) ≤ m then m - xs.length else -1)) ∧ w = w' := by
  obtain ⟨ao, c, rfl, hc1, hm, h⟩ := h.view
  clear h
  by_cases hle : (xs.length : Int) ≤ m
  · have HE := hid (show (if (xs.length : Int) ≤ m then m - xs.length else -1) = m - xs.length from if_pos hle)
    go_enter Try.func146, Try.ntmps146
    go_wp2
    go_ret
    exact ⟨rfl, rfl⟩
  · have HE := hid (show (if (xs.length : Int) ≤ m then m - xs.length else -1) = -1 from if_neg hle)
    go_enter Try.func146, Try.ntmps146
    go_wp2
    go_ret
    exact ⟨rfl, rfl⟩
theorem szIntSS_any (v : Value) (L : List (List Int)) (m : Int) (w : World) (h : ReadsL w v L) (h0 : 0 ≤ m) (h1 : m ≤ 1073741824) :
    Calls Try.prog 102 #[v, .int .i64 m] w fun e w' => ∃ q : Int, e = .returned (.int .i64 q) ∧ w = w' ∧ q ≤ m ∧ (0 ≤ q → (L.length : Int) ≤ m ∧ ∀ i (hi : i < L.length), (L[i].length : Int) ≤ m) := by
  obtain ⟨ao, c, rfl, hc1, hm, h⟩ := h
  unfold maxLen at hm
  by_cases hle : (L.length : Int) ≤ m
  · rcases h with h | ⟨b, off, rfl, hb, hc⟩
    · subst h
      go_enter Try.func102, Try.ntmps102
      go_wp2
      refine wp_loop_rounds 1 ?_
      rw [rounds_succ]
      go_wp2
      go_ret
      exact ⟨_, rfl, rfl, by simp, fun _ => ⟨hle, fun i hi => absurd hi (by simp)⟩⟩
    · have HC := hid hc
      clear hc
      go_enter Try.func102, Try.ntmps102
      go_wp2_with fail
      go_loop [1, 5] (fun q i => ∃ (t : Nat) (p : Int), t ≤ L.length ∧ i = .int .i64 t ∧ q = .int .i64 p ∧ 0 ≤ p ∧ p ≤ m ∧ ∀ j (hj : j < L.length), j < t → (L[j].length : Int) ≤ m) (fun _ i => L.length - (intOf i).toNat)
      case atStart => exact ⟨0, m - L.length, Nat.zero_le _, rfl, by first | rfl | go_num, by omega, by omega, fun j _ hj => absurd hj (by omega)⟩
      case round =>
        obtain ⟨t, p, ht, rfl, rfl, hp0, hpm, hall⟩ := hrel
        have HALL := hid hall
        clear hall
        by_cases hlt : t < L.length
        · obtain ⟨z, hz, hread⟩ := HC.out t hlt
          obtain ⟨l, hl⟩ : ∃ l, l = L[t] := ⟨_, rfl⟩
          have HL := hid hl
          rw [← hl] at hread
          have HR := hid hread
          have hp1 : p ≤ 1073741824 := by omega
          clear hread hl
          by_cases hl2 : (l.length : Int) ≤ p
          · have HE := hid (show (if (l.length : Int) ≤ p then p - l.length else -1) = p - l.length from if_pos hl2)
            go_wp2_with (first | (go_at_call 146; refine (szIntS_any _ l p _ HR.out hp0 hp1).mono ?_; rintro e w1 ⟨rfl, rfl⟩; rw [HE.out]) | fail)
            go_round
            case rel => exact ⟨t + 1, p - l.length, by omega, by go_num, rfl, by omega, by omega, fun j hj hjt => by
              by_cases hjj : j < t
              · exact HALL.out j hj hjj
              · have : j = t := by omega
                subst this
                rw [← HL.out]; omega⟩
            case measure => simp [intOf]; omega
          · have HE := hid (show (if (l.length : Int) ≤ p then p - l.length else -1) = -1 from if_neg hl2)
            go_wp2_with (first | (go_at_call 146; refine (szIntS_any _ l p _ HR.out hp0 hp1).mono ?_; rintro e w1 ⟨rfl, rfl⟩; rw [HE.out]) | fail)
            go_ret
            exact ⟨_, rfl, rfl, by omega, fun h => absurd h (by decide)⟩
        · have htl : t = L.length := by omega
          go_wp2_with fail
          go_ret
          exact ⟨_, rfl, rfl, hpm, fun _ => by first | exact ⟨hle, fun i hi => HALL.out i hi (by omega)⟩ | exact fun i hi => HALL.out i hi (by omega)⟩
  · clear h
    go_enter Try.func102, Try.ntmps102
    go_wp2
    go_ret
    exact ⟨_, rfl, rfl, by omega, fun h => absurd h (by decide)⟩
end Go.Proofs.Yteimfdpkodcfbaa

/- Contract: toIntSS; slices of slices that are not nil and whose rows are not. Conditions: the slice reads as a list of at most 2^20 lists of at most 2^20 numbers. -/
namespace Go.Proofs.Yteimfdpkodcfbaa
open Go.RowKit
set_option linter.unusedVariables false
set_option maxRecDepth 4000

/-- v is a slice that is not nil of slices that are not nil, and reads as L. -/
def SitsL (w : World) (v : Value) (L : List (List Int)) : Prop :=
  ∃ b off c, v = .slice (some ⟨b, off, none⟩) L.length c ∧ L.length ≤ c ∧ c ≤ 9223372036854775807 ∧ b < w.heap.size ∧ ∀ i (hi : i < L.length), ∃ u, w.cell? ⟨b, off + i, none⟩ = some u ∧ Sits w u L[i]
theorem SitsL.below {w w' : World} {v : Value} {L : List (List Int)} (h : SitsL w v L) (hb : Below w.heap.size w w') : SitsL w' v L := by
  obtain ⟨b, off, c, rfl, h1, h2, h3, h4⟩ := h
  refine ⟨b, off, c, rfl, h1, h2, Nat.lt_of_lt_of_le h3 hb.size, fun i hi => ?_⟩
  obtain ⟨u, hu, hs⟩ := h4 i hi
  exact ⟨u, (hb.cell (by exact h3)).trans hu, hs.below hb⟩
/-- A made row is an owned one. -/
theorem ownsRow_of_rowIs {w : World} {g n : Nat} {T : TypeId} {f : Nat → Value} (h : w.rowIs g T n f) (hm : n ≤ maxLen) : w.ownsRow g T 1 (.slice (some ⟨g, 0, none⟩) n n) n ((List.range n).map f) := by
  obtain ⟨c, hc, hs, hf⟩ := h
  refine ⟨by simp, .inr ⟨g, n, c, rfl, Nat.le_refl _, hc, by omega, hm, by omega, ?_⟩⟩
  apply List.ext_getElem?
  intro i
  by_cases hi : i < n
  · have := hf i hi
    simp [hi] at this ⊢
    exact this
  · rw [List.getElem?_eq_none (by simp; omega), List.getElem?_eq_none (by simp; omega)]
theorem rowIs_below {w w' : World} {B g n : Nat} {T : TypeId} {f : Nat → Value} (h : w.rowIs g T n f) (hb : Below B w w') (hg : g < B) : w'.rowIs g T n f := h.of_block (hb.block g hg)
theorem grownBy_setCellAt (W : World) (b k : Nat) (v : Value) : W.grownBy (W.setCell ⟨b, k, none⟩ v) (some b) :=
  ⟨rfl, rfl, rfl, by simp, fun i _ hne => Below.heap_setCell _ _ _ i (fun e => hne (by rw [e]))⟩
/-- the first k rows are copied, into blocks behind g -/
def Copied (w : World) (g : Nat) (U : Nat → Value) (L : List (List Int)) (k : Nat) : Prop :=
  ∀ i (hi : i < L.length), i < k → ∃ h, U i = .slice (some ⟨h, 0, none⟩) L[i].length L[i].length ∧ g < h ∧ Own w g (U i) L[i]
theorem Copied.below {w w' : World} {g k : Nat} {U : Nat → Value} {L : List (List Int)} (h : Copied w g U L k) (hb : Below w.heap.size w w') : Copied w' g U L k := by
  intro i hi hk
  obtain ⟨q, h1, h2, h3⟩ := h i hi hk
  exact ⟨q, h1, h2, h3.below hb⟩
theorem Copied.kept {w w' : World} {g k : Nat} {U : Nat → Value} {L : List (List Int)} (h : Copied w g U L k) (hb : w.grownBy w' (some g)) : Copied w' g U L k := by
  intro i hi hk
  obtain ⟨q, h1, h2, h3⟩ := h i hi hk
  refine ⟨q, h1, h2, h3.kept hb (.inr ?_)⟩
  rw [h1]
  simp only [Value.ownBlock, ne_eq, Option.some.injEq]
  omega
theorem Copied.step {w : World} {g k q : Nat} {U : Nat → Value} {L : List (List Int)} (h : Copied w g U L k) (hk : k < L.length) (hq : g < q) (ho : Own w g (.slice (some ⟨q, 0, none⟩) L[k].length L[k].length) L[k]) :
    Copied w g (fun j => if j = k then .slice (some ⟨q, 0, none⟩) L[k].length L[k].length else U j) L (k + 1) := by
  intro i hi hk1
  by_cases e : i = k
  · subst e
    exact ⟨q, by simp, hq, by simpa using ho⟩
  · obtain ⟨q', h1, h2, h3⟩ := h i hi (by omega)
    exact ⟨q', by simp [e, h1], h2, by simpa [e] using h3⟩
/-- what toIntSS hands back -/
def Rows2 (w : World) (g : Nat) (v : Value) (L : List (List Int)) : Prop := Lists w g v L ∧ SitsL w v L
theorem Rows2.below {w w' : World} {g : Nat} {v : Value} {L : List (List Int)} (h : Rows2 w g v L) (hb : Below w.heap.size w w') : Rows2 w' g v L := ⟨h.1.below hb, h.2.below hb⟩
theorem Rows2.of {w : World} {g : Nat} {U : Nat → Value} {L : List (List Int)} (h : Copied w g U L L.length) (hr : w.rowIs g 22 L.length U) (hm : L.length ≤ 1048576) : Rows2 w g (.slice (some ⟨g, 0, none⟩) L.length L.length) L := by
  refine ⟨⟨(List.range L.length).map U, by simp, ownsRow_of_rowIs hr (by unfold maxLen; omega), fun i h1 h2 => ?_⟩, g, 0, L.length, rfl, Nat.le_refl _, by omega, hr.lt, fun i hi => ?_⟩
  · obtain ⟨q, _, _, h3⟩ := h i h1 h1
    simpa using h3
  · obtain ⟨q, h1, _, h3⟩ := h i hi hi
    refine ⟨U i, by rw [Nat.zero_add]; exact hr.cell hi, ?_⟩
    rw [h1] at h3 ⊢
    exact h3.sits
theorem run_make_intss (n : Nat) (hn : n ≤ 1048576) (w : World) : Sem.run Try.prog (Instr.makeSlice 28 (.int .i64 n) (.int .i64 n)) w = .ok (.slice (some ⟨w.heap.size, 0, none⟩) n n) (w.alloc (.cells (madeCells #[.slice none 0 0] n) 22)) :=
  run_make_row' 28 22 (.slice none 0 0) 24 Try.underlying28 Try.infoL rfl .i64 .i64 n (by omega) (by omega) w
theorem toIntSS_any (v : Value) (L : List (List Int)) (w : World) (h : ReadsL w v L) (hl : L.length ≤ 1048576) (hl2 : ∀ i (hi : i < L.length), L[i].length ≤ 1048576) :
    Calls Try.prog 105 #[v] w fun e w' => e = .returned (.slice (some ⟨w.heap.size, 0, none⟩) L.length L.length) ∧ Rows2 w' w.heap.size (.slice (some ⟨w.heap.size, 0, none⟩) L.length L.length) L ∧ Below w.heap.size w w' := by
  obtain ⟨ao, c, rfl, hc1, hm, h⟩ := h
  unfold maxLen at hm
  have hmk := run_make_intss L.length hl w
  have hr0 := World.rowIs_made w (.slice none 0 0) L.length 22
  have hB0 : Below w.heap.size w (w.alloc (.cells (madeCells #[.slice none 0 0] L.length) 22)) := (Below.refl _ _).alloc (Nat.le_refl _) _
  have hS0 : w.heap.size < (w.alloc (.cells (madeCells #[.slice none 0 0] L.length) 22)).heap.size := by simp
  obtain ⟨wm, hwm⟩ : ∃ wm, wm = w.alloc (.cells (madeCells #[.slice none 0 0] L.length) 22) := ⟨_, rfl⟩
  rw [← hwm] at hmk hr0 hB0 hS0
  clear hwm
  have HL2 := hid hl2
  have HR0 := hid hr0
  have HB0 := hid hB0
  clear hl2 hr0 hB0
  rcases h with h | ⟨b, off, rfl, hb, hc⟩
  · have H := hid h
    clear h
    go_enter Try.func105, Try.ntmps105
    go_wp2_with fail
    go_loopw [4] (fun i wr => i = .int .i64 0 ∧ wr = wm) (fun i _ => L.length - (intOf i).toNat)
    case atStart => exact ⟨rfl, rfl⟩
    case round =>
      obtain ⟨rfl, rfl⟩ := hrel
      have hlt : ¬ (0 : Int) < (L.length : Int) := by rw [H.out]; simp
      go_wp2_with fail
      go_ret
      exact ⟨rfl, Rows2.of (U := fun _ => .slice none 0 0) (fun i hi => absurd hi (by rw [H.out]; simp)) HR0.out hl, HB0.out⟩
  · have HC := hid hc
    clear hc
    go_enter Try.func105, Try.ntmps105
    go_wp2_with fail
    go_loopw [4] (fun i wr => ∃ k : Nat, k ≤ L.length ∧ i = .int .i64 k ∧ (∃ U : Nat → Value, wr.rowIs w.heap.size 22 L.length U ∧ Copied wr w.heap.size U L k) ∧ Below w.heap.size w wr ∧ w.heap.size < wr.heap.size) (fun i _ => L.length - (intOf i).toNat)
    case atStart => exact ⟨0, Nat.zero_le _, rfl, ⟨_, HR0.out, fun i hi hk => absurd hk (by omega)⟩, HB0.out, hS0⟩
    case round =>
      obtain ⟨k, hk, rfl, ⟨U, hrow, hcop⟩, hbel, hsz⟩ := hrel
      by_cases hlt : k < L.length
      · obtain ⟨z, hz, hread⟩ := HC.out k hlt
        have hcx : wr.cell? ⟨b, off + k, none⟩ = some z := (hbel.cell (by exact hb)).trans hz
        have HRD := hid (hread.below hbel)
        obtain ⟨l, hll⟩ : ∃ l, l = L[k] := ⟨_, rfl⟩
        have hl2 := HL2.out k hlt
        rw [← hll] at HRD hl2
        have HLL := hid hll
        have HROW := hid hrow
        have HCOP := hid hcop
        have HB := hid hbel
        clear hread hz hrow hcop hbel hll
        go_wp2_with (first | (go_at_call 32; refine (toIntS_any _ l _ HRD.out hl2).mono ?_; rintro e w1 ⟨rfl, hown, hb1⟩; have HO := hid hown; have HB1 := hid hb1; clear hown hb1; have HR1 := hid (rowIs_below HROW.out HB1.out hsz); obtain ⟨zz, hcz⟩ : ∃ zz, w1.cell? ⟨w.heap.size, k, none⟩ = some zz := ⟨_, HR1.out.cell hlt⟩; have hfz := HR1.out.frozen k) | fail)
        have HG := hid (grownBy_setCellAt w1 w.heap.size k (.slice (some ⟨wr.heap.size, 0, none⟩) l.length l.length))
        have HR2 := hid (HR1.out.set k (.slice (some ⟨wr.heap.size, 0, none⟩) l.length l.length))
        have HC2 := hid (((HCOP.out.below HB1.out).kept HG.out).step (q := wr.heap.size) hlt hsz (by
          rw [← HLL.out]
          exact (HO.out.mono (by omega)).kept HG.out (.inr (by simp only [Value.ownBlock, ne_eq, Option.some.injEq]; omega))))
        have HBB := hid ((HB.out.trans (HB1.out.mono (by omega))).setCell (p := ⟨w.heap.size, k, none⟩) (Nat.le_refl _) (.slice (some ⟨wr.heap.size, 0, none⟩) l.length l.length))
        have hs1 := HB1.out.size
        go_roundw
        case rel => exact ⟨k + 1, by omega, by go_num, ⟨_, HR2.out, by rw [← HLL.out] at HC2; exact HC2.out⟩, HBB.out, by simp; omega⟩
        case measure => simp [intOf]; omega
      · obtain rfl : k = L.length := by omega
        have HROW := hid hrow
        have HCOP := hid hcop
        have HB := hid hbel
        clear hrow hcop hbel
        go_wp2_with fail
        go_ret
        exact ⟨rfl, Rows2.of HCOP.out HROW.out hl, HB.out⟩
end Go.Proofs.Yteimfdpkodcfbaa

/- Contracts: eqIntSS, heldIntSS. Conditions: the slices read as lists of lists. -/
namespace Go.Proofs.Yteimfdpkodcfbaa
open Go.RowKit
set_option linter.unusedVariables false

/-- how many numbers there are in the first k lists -/
def preLen (L : List (List Int)) : Nat → Nat
  | 0 => 0
  | k + 1 => preLen L k + (L.getD k []).length
theorem preLen_mono (L : List (List Int)) {a b : Nat} (h : a ≤ b) : preLen L a ≤ preLen L b := by
  induction b with
  | zero => rw [show a = 0 by omega]; exact Nat.le_refl _
  | succ b ih =>
    by_cases e : a = b + 1
    · rw [e]; exact Nat.le_refl _
    · have := ih (by omega)
      rw [preLen]; omega
/-- each number is marked, from m on -/
def Marked (m : Int) (L : List (List Int)) : Prop := ∀ i (h : i < L.length), L[i] = marks (m + preLen L i) L[i].length
theorem heldIntSS_any (v : Value) (L : List (List Int)) (base : Nat) (m : Int) (w : World) (h : Lists w base v L) (hx : Marked m L) (h0 : 0 ≤ m) (h1 : m ≤ 1073741824) (hl : preLen L L.length ≤ 1073741824) :
    Calls Try.prog 30 #[v, .int .i64 m] w fun e w' => e = .returned (.int .i64 (m + preLen L L.length)) ∧ w = w' := by
  rcases h.form with ⟨rfl, rfl⟩ | ⟨g, cap, rfl, _, hg, hc1, hm, hc⟩
  · go_enter Try.func30, Try.ntmps30
    go_wp2_with fail
    refine wp_loop_rounds 1 ?_
    rw [rounds_succ]
    go_wp2
    go_ret
    exact ⟨by simp [preLen], rfl⟩
  · have HC := hid hc
    have HX := hid hx
    clear hc h hx
    go_enter Try.func30, Try.ntmps30
    go_wp2_with fail
    go_loop [1, 5] (fun kv i => ∃ t : Nat, t ≤ L.length ∧ i = .int .i64 t ∧ kv = .int .i64 (m + preLen L t)) (fun _ i => L.length - (intOf i).toNat)
    case atStart => exact ⟨0, Nat.zero_le _, rfl, by simp [preLen]⟩
    case round =>
      obtain ⟨t, ht, rfl, rfl⟩ := hrel
      have hpm := preLen_mono L ht
      by_cases hlt : t < L.length
      · obtain ⟨z, hz, hown⟩ := HC.out t hlt
        have HZ := hid hown.reads
        have hpn := preLen_mono L (show t + 1 ≤ L.length from hlt)
        have HP := hid (show preLen L (t + 1) = preLen L t + L[t].length by rw [preLen]; simp [List.getD_eq_getElem?_getD, hlt])
        have HMK := hid (HX.out t hlt)
        rw [HP.out] at hpn
        obtain ⟨l, hll⟩ : ∃ l, l = L[t] := ⟨_, rfl⟩
        rw [← hll] at HZ HP HMK hpn
        obtain ⟨p, hp⟩ : ∃ p, p = preLen L t := ⟨_, rfl⟩
        rw [← hp] at HP HMK hpn hpm ⊢
        have h3 : 0 ≤ m + (p : Int) := by omega
        have h4 : m + (p : Int) ≤ 1099511627776 := by omega
        have h5 : l.length ≤ 1099511627776 := by omega
        clear hown hll hp
        go_wp2_with (first | (go_at_call 21; refine (heldIntS_any _ l _ _ HZ.out HMK.out h3 h4 h5).mono ?_; rintro e w1 ⟨rfl, rfl⟩) | fail)
        go_round
        case rel => exact ⟨t + 1, by omega, by go_num, by rw [HP.out]; go_num⟩
        case measure => simp [intOf]; omega
      · obtain rfl : t = L.length := by omega
        go_wp2_with fail
        go_ret
        exact ⟨rfl, rfl⟩
end Go.Proofs.Yteimfdpkodcfbaa

/- Contract: markIntSS. Conditions: the slice reads as a list of lists, its rows owned and apart from each other. -/
namespace Go.Proofs.Yteimfdpkodcfbaa
open Go.RowKit
set_option linter.unusedVariables false

/-- v is a slice of slices, its own row from block base on, whose elements are owned slices, no two of them on one block, that read as L. -/
def ListsA (w : World) (base : Nat) (v : Value) (L : List (List Int)) : Prop :=
  ∃ vs : List Value, vs.length = L.length ∧ w.ownsRow base 22 1 v L.length vs ∧ (∀ i (h1 : i < L.length) (h2 : i < vs.length), Own w base vs[i] L[i]) ∧
    ∀ i j (h1 : i < vs.length) (h2 : j < vs.length) (g : Nat), i ≠ j → vs[i].ownBlock = some g → vs[j].ownBlock ≠ some g
theorem ListsA.lists {w : World} {base : Nat} {v : Value} {L : List (List Int)} (h : ListsA w base v L) : Lists w base v L := by
  obtain ⟨vs, h1, h2, h3, _⟩ := h
  exact ⟨vs, h1, h2, h3⟩
theorem ListsA.below {w w' : World} {base : Nat} {v : Value} {L : List (List Int)} (h : ListsA w base v L) (hb : Below w.heap.size w w') : ListsA w' base v L := by
  obtain ⟨vs, h1, h2, h3, h4⟩ := h
  exact ⟨vs, h1, ownsRow_below h2 hb, fun i a b => (h3 i a b).below hb, h4⟩
theorem ListsA.mono {w : World} {base base' : Nat} {v : Value} {L : List (List Int)} (h : ListsA w base v L) (hb : base' ≤ base) : ListsA w base' v L := by
  obtain ⟨vs, h1, h2, h3, h4⟩ := h
  exact ⟨vs, h1, ownsRow_mono h2 hb, fun i a b => (h3 i a b).mono hb, h4⟩
theorem row_kept_int {w w' : World} {base b0 : Nat} {x v : Value} {n : Nat} {vs : List Value} {xs : List Int} {T : TypeId} (hv : w.ownsRow b0 T 1 v n vs) (hT : T ≠ 3) (h : Own w base x xs) (hg : w.grownBy w' x.ownBlock) : w'.ownsRow b0 T 1 v n vs := by
  refine World.ownsRow.kept hv hg ?_
  rcases hv.2 with ⟨rfl, _⟩ | ⟨g', cap', cur', rfl, _, hgg', _⟩
  · exact .inl rfl
  · right
    rcases h.2 with ⟨rfl, _⟩ | ⟨g, cap, cur, rfl, _, hgg, _⟩
    · simp [Value.ownBlock]
    · simp only [Value.ownBlock, ne_eq, Option.some.injEq]
      intro e
      rw [e, hgg] at hgg'
      simp at hgg'
      exact hT hgg'.2.symm
theorem ListsA.mark {w w' : World} {base : Nat} {v : Value} {L : List (List Int)} {vs : List Value} {t : Nat} {ys : List Int} (h1 : vs.length = L.length) (h2 : w.ownsRow base 22 1 v L.length vs)
    (h3 : ∀ i (h1 : i < L.length) (h2 : i < vs.length), Own w base vs[i] L[i]) (h4 : ∀ i j (h1 : i < vs.length) (h2 : j < vs.length) (g : Nat), i ≠ j → vs[i].ownBlock = some g → vs[j].ownBlock ≠ some g)
    (ht : t < vs.length) (hu : Own w' base vs[t] ys) (hg : w.grownBy w' vs[t].ownBlock) : ListsA w' base v (L.set t ys) := by
  have htl : t < L.length := by omega
  refine ⟨vs, by simp [h1], by rw [List.length_set]; exact row_kept_int h2 (by decide) (h3 t htl ht) hg, fun i a b => ?_, h4⟩
  rw [List.length_set] at a
  by_cases e : t = i
  · subst e
    simpa using hu
  · rw [List.getElem_set_ne e]
    refine Own.kept (h3 i a b) hg ?_
    rcases (h3 i a b).form with ⟨hn, _⟩ | ⟨g, cap, hs, _⟩
    · exact .inl (by rw [hn]; rfl)
    · right
      intro e2
      have e3 : vs[i].ownBlock = some g := by rw [hs]; rfl
      exact h4 i t b ht g (fun e => by omega) e3 (by rw [← e2, e3])
theorem markIntSS_any (v : Value) (L : List (List Int)) (base : Nat) (m : Int) (w : World) (h : ListsA w base v L) (h0 : 0 ≤ m) (h1 : m ≤ 1073741824) (hl : preLen L L.length ≤ 1073741824) :
    Calls Try.prog 29 #[v, .int .i64 m] w fun e w' => e = .returned (.int .i64 (m + preLen L L.length)) ∧ ∃ M : List (List Int), ListsA w' base v M ∧ M.length = L.length ∧ (∀ i (a : i < M.length) (b : i < L.length), M[i] = marks (m + preLen L i) L[i].length) ∧ Below base w w' ∧ w.heap.size ≤ w'.heap.size := by
  have HL := hid h
  rcases h.lists.form with ⟨rfl, rfl⟩ | ⟨g, cap, rfl, hbg, hg, hc1, hm, hc⟩
  · go_enter Try.func29, Try.ntmps29
    go_wp2_with fail
    refine wp_loop_rounds 1 ?_
    rw [rounds_succ]
    go_wp2
    go_ret
    exact ⟨by simp [preLen], [], HL.out, rfl, fun i a => by simp at a, Below.refl _ _, Nat.le_refl _⟩
  · clear hc h
    go_enter Try.func29, Try.ntmps29
    go_wp2_with fail
    go_loopw [1, 5] (fun kv i wr => ∃ t : Nat, t ≤ L.length ∧ i = .int .i64 t ∧ kv = .int .i64 (m + preLen L t) ∧ (∃ M : List (List Int), ListsA wr base (.slice (some ⟨g, 0, none⟩) L.length cap) M ∧ M.length = L.length ∧ (∀ i (a : i < M.length) (b : i < L.length), M[i].length = L[i].length ∧ (i < t → M[i] = marks (m + preLen L i) L[i].length))) ∧ Below base w wr ∧ w.heap.size ≤ wr.heap.size) (fun _ i _ => L.length - (intOf i).toNat)
    case atStart => exact ⟨0, Nat.zero_le _, rfl, by simp [preLen], ⟨L, HL.out, rfl, fun i a b => ⟨rfl, fun h => by omega⟩⟩, Below.refl _ _, Nat.le_refl _⟩
    case round =>
      obtain ⟨t, ht, rfl, rfl, ⟨M, hM, hMl, hMe⟩, hbel, hsz⟩ := hrel
      have HM := hid hM
      have HB := hid hbel
      have HME := hid hMe
      have hpm := preLen_mono L ht
      clear hM hbel hMe
      by_cases hlt : t < L.length
      · obtain ⟨vs, v1, v2, v3, v4⟩ := HM.out
        have htM : t < M.length := by omega
        have htv : t < vs.length := by omega
        have hcz : wr.cell? ⟨g, t, none⟩ = some vs[t] := by
          have v2' := v2
          rw [hMl] at v2'
          have := World.ownsRow.cellAt v2' t (by omega)
          rw [this, List.getElem?_eq_getElem htv]
        have HO := hid (v3 t htM htv)
        obtain ⟨l, hll⟩ : ∃ l, l = M[t] := ⟨_, rfl⟩
        have hle : l.length = L[t].length := by rw [hll]; exact (HME.out t htM hlt).1
        have hpn := preLen_mono L (show t + 1 ≤ L.length from hlt)
        have HP := hid (show preLen L (t + 1) = preLen L t + l.length by rw [preLen, hle]; simp [List.getD_eq_getElem?_getD, hlt])
        rw [HP.out] at hpn
        rw [← hll] at HO
        have HLE := hid hle
        have HV1 := hid v1
        have HV2 := hid v2
        have HV3 := hid v3
        have HV4 := hid v4
        obtain ⟨p, hp⟩ : ∃ p, p = preLen L t := ⟨_, rfl⟩
        rw [← hp] at HP hpn hpm ⊢
        have HPP := hid hp
        obtain ⟨z, hz⟩ : ∃ z, z = vs[t] := ⟨_, rfl⟩
        rw [← hz] at hcz HO
        have HZ := hid hz
        have h3 : 0 ≤ m + (p : Int) := by omega
        have h4 : m + (p : Int) ≤ 1099511627776 := by omega
        have h5 : l.length ≤ 1099511627776 := by omega
        clear hll hle v1 v2 v3 v4 hp hz
        go_wp2_with (first | (go_at_call 20; refine (markIntS_any _ l base _ _ HO.out h3 h4 h5).mono ?_; rintro e w1 ⟨rfl, hown, hgr⟩; have HOW := hid hown; have HGR := hid hgr; clear hown hgr) | fail)
        have HN := hid (ListsA.mark HV1.out HV2.out HV3.out HV4.out htv (by rw [← HZ.out]; exact HOW.out) (by rw [← HZ.out]; exact HGR.out))
        have HBN := hid (HB.out.grown HGR.out (by omega) (fun q hq => (World.ownsRow.lt HO.out.row q hq).1))
        have HSN := hid (Nat.le_trans hsz HGR.out.size)
        have HEN := hid (show ∀ i (a : i < (M.set t (marks (m + p) l.length)).length) (b : i < L.length), (M.set t (marks (m + p) l.length))[i].length = L[i].length ∧ (i < t + 1 → (M.set t (marks (m + p) l.length))[i] = marks (m + preLen L i) L[i].length) from fun i a b => by
          by_cases e : t = i
          · subst e
            rw [List.getElem_set_self, marks_length, ← HLE.out, ← HPP.out]
            exact ⟨rfl, fun _ => rfl⟩
          · rw [List.getElem_set_ne e]
            have := HME.out i (by simpa using a) b
            exact ⟨this.1, fun h => this.2 (by omega)⟩)
        go_roundw
        case rel => exact ⟨t + 1, by omega, by go_num, by rw [HP.out]; go_num, ⟨_, HN.out, by simp [hMl], HEN.out⟩, HBN.out, HSN.out⟩
        case measure => simp [intOf]; omega
      · obtain rfl : t = L.length := by omega
        go_wp2_with fail
        go_ret
        exact ⟨rfl, M, HM.out, hMl, fun i a b => (HME.out i a b).2 b, HB.out, hsz⟩
end Go.Proofs.Yteimfdpkodcfbaa

/- Contract: eqIntSS of two lists that are the same. Conditions: the slices read as lists of lists. -/
namespace Go.Proofs.Yteimfdpkodcfbaa
open Go.RowKit
set_option linter.unusedVariables false

theorem eqIntSS_any (v u : Value) (L : List (List Int)) (B1 B2 : Nat) (w : World) (h : Lists w B1 v L) (h' : Lists w B2 u L) :
    Calls Try.prog 28 #[v, u] w fun e w' => e = .returned (.bool true) ∧ Below w.heap.size w w' := by
  rcases h.form with ⟨rfl, rfl⟩ | ⟨g, cap, rfl, _, hg, hc1, hm, hc⟩
  · rcases h'.form with ⟨rfl, _⟩ | ⟨g', cap', rfl, _, hg', hc1', hm', hc'⟩
    all_goals
      go_enter Try.func28, Try.ntmps28
      go_wp2_with fail
      refine wp_loop_rounds 1 ?_
      rw [rounds_succ]
      go_wp2
      go_ret
      exact ⟨rfl, Below.refl _ _⟩
  · rcases h'.form with ⟨rfl, rfl⟩ | ⟨g', cap', rfl, _, hg', hc1', hm', hc'⟩
    · go_enter Try.func28, Try.ntmps28
      go_wp2_with fail
      refine wp_loop_rounds 1 ?_
      rw [rounds_succ]
      go_wp2
      go_ret
      exact ⟨rfl, Below.refl _ _⟩
    · have HC := hid hc
      have HC' := hid hc'
      clear hc hc' h h'
      go_enter Try.func28, Try.ntmps28
      go_wp2_with fail
      go_loopw [5] (fun i wr => ∃ t : Nat, t ≤ L.length ∧ i = .int .i64 t ∧ Below w.heap.size w wr) (fun i _ => L.length - (intOf i).toNat)
      case atStart => exact ⟨0, Nat.zero_le _, rfl, Below.refl _ _⟩
      case round =>
        obtain ⟨t, ht, rfl, hbel⟩ := hrel
        have HB := hid hbel
        by_cases hlt : t < L.length
        · obtain ⟨z, hz, hown⟩ := HC.out t hlt
          obtain ⟨z', hz', hown'⟩ := HC'.out t hlt
          have hcx : wr.cell? ⟨g, t, none⟩ = some z := (hbel.cell (by exact hg)).trans hz
          have hcx' : wr.cell? ⟨g', t, none⟩ = some z' := (hbel.cell (by exact hg')).trans hz'
          have HZ := hid (hown.reads.below hbel)
          have HZ' := hid (hown'.reads.below hbel)
          have HS := hid hbel.size
          have hgr : g < wr.heap.size := by have := hbel.size; omega
          have hgr' : g' < wr.heap.size := by have := hbel.size; omega
          obtain ⟨l, hl⟩ : ∃ l, l = L[t] := ⟨_, rfl⟩
          rw [← hl] at HZ HZ'
          have hd : decide (l = l) = true := by simp
          clear hz hz' hown hown' hbel hl
          go_wp2_with fail
          go_region_held3 (fun w' => w'.cell? ⟨g, t, none⟩ = some z ∧ w'.cell? ⟨g', t, none⟩ = some z')
            (first | exact ⟨hcx, hcx'⟩ | exact ⟨(HB1.out.cell (by exact hgr)).trans hcx, (HB1.out.cell (by exact hgr')).trans hcx'⟩ | go_keep | fail)
            (first
              | (go_at_call 19; refine (eqIntS_any _ _ l l _ ?_ ?_).mono ?_; (exact HZ.out.below (Below.refl _ _).drew); (exact HZ'.out.below (Below.refl _ _).drew); rintro e w1 ⟨rfl, hb1⟩; have HB1 := hid (Below_chain (Below.refl wr.heap.size wr).drew hb1); clear hb1; (try rw [hd]); (try simp only [decide_true]))
              | fail)
          all_goals
            go_wp2_with fail
            go_roundw
            case rel => exact ⟨t + 1, by omega, by go_num, Below_chain HB.out HB1.out⟩
            case measure => simp [intOf]; omega
        · obtain rfl : t = L.length := by omega
          go_wp2_with fail
          go_ret
          exact ⟨rfl, HB.out⟩
end Go.Proofs.Yteimfdpkodcfbaa

/- Plain facts on marks in a list of lists. No conditions. -/
namespace Go.Proofs.Yteimfdpkodcfbaa
open Go.RowKit
set_option linter.unusedVariables false

theorem preLen_same {L M : List (List Int)} (hl : M.length = L.length) (h : ∀ i (a : i < M.length) (b : i < L.length), M[i].length = L[i].length) : ∀ i, preLen M i = preLen L i
  | 0 => rfl
  | i + 1 => by
    rw [preLen, preLen, preLen_same hl h i]
    by_cases hi : i < L.length
    · have hi' : i < M.length := by omega
      have := h i hi' hi
      simp [List.getD_eq_getElem?_getD, hi, hi', this]
    · have hi' : ¬ i < M.length := by omega
      simp [List.getD_eq_getElem?_getD, hi, hi']
theorem preLen_le {L : List (List Int)} {c : Nat} (h : ∀ l ∈ L, l.length ≤ c) : ∀ i, preLen L i ≤ c * i
  | 0 => Nat.le_refl _
  | i + 1 => by
    have ih := preLen_le h i
    have hd : (L.getD i []).length ≤ c := by
      by_cases hi : i < L.length
      · simpa [List.getD_eq_getElem?_getD, hi] using h _ (List.getElem_mem hi)
      · simp [List.getD_eq_getElem?_getD, hi]
    rw [preLen, Nat.mul_succ]; omega
theorem marked_of {L M : List (List Int)} {m : Int} (hl : M.length = L.length) (h : ∀ i (a : i < M.length) (b : i < L.length), M[i] = marks (m + preLen L i) L[i].length) : Marked m M ∧ preLen M M.length = preLen L L.length := by
  have hs : ∀ i (a : i < M.length) (b : i < L.length), M[i].length = L[i].length := fun i a b => by rw [h i a b, marks_length]
  have hp := preLen_same hl hs
  refine ⟨fun i a => ?_, by rw [hp, hl]⟩
  rw [hp, hs i a (by omega)]
  exact h i a (by omega)
end Go.Proofs.Yteimfdpkodcfbaa

/- Slices that own their row but may end before it (what a slice with three indexes leaves): as Own, Lives; markIntS at them. No conditions. -/
namespace Go.Proofs.Yteimfdpkodcfbaa
open Go.RowKit
set_option linter.unusedVariables false

/-- v is a slice of ints that reads as xs: nil and empty, or the head of an unfrozen row from block base on. -/
def OwnE (w : World) (base : Nat) (v : Value) (xs : List Int) : Prop :=
  (v = .slice none 0 0 ∧ xs = []) ∨ ∃ g cap cur, v = .slice (some ⟨g, 0, none⟩) xs.length cap ∧ base ≤ g ∧ w.heap[g]? = some (.cells cur 3 (0, 0)) ∧ xs.length ≤ cap ∧ cap ≤ maxLen ∧ cap ≤ cur.size ∧ cur.toList.take xs.length = xs.map (Value.int .i64)
theorem Own.e {w : World} {base : Nat} {v : Value} {xs : List Int} (h : Own w base v xs) : OwnE w base v xs := by
  obtain ⟨h1, h2⟩ := h
  rcases h2 with ⟨rfl, hn⟩ | ⟨g, cap, cur, rfl, hg, hgg, h3, h4, h5, h6⟩
  · exact .inl ⟨rfl, List.eq_nil_of_length_eq_zero hn⟩
  · exact .inr ⟨g, cap, cur, rfl, hg, hgg, h3, h4, by omega, by rwa [Nat.mul_one] at h6⟩
theorem OwnE.form {w : World} {base : Nat} {v : Value} {xs : List Int} (h : OwnE w base v xs) :
    (v = .slice none 0 0 ∧ xs = []) ∨ ∃ g cap, v = .slice (some ⟨g, 0, none⟩) xs.length cap ∧ base ≤ g ∧ g < w.heap.size ∧ xs.length ≤ cap ∧ cap ≤ maxLen ∧
      (∀ i, i < xs.length → w.cell? ⟨g, 0 + i, none⟩ = some (.int .i64 (xs.getD i 0))) ∧ (∀ i, w.frozen? ⟨g, i, none⟩ = false) := by
  rcases h with h | ⟨g, cap, cur, rfl, hg, hgg, h1, h2, h3, h4⟩
  · exact .inl h
  · refine .inr ⟨g, cap, rfl, hg, (Array.getElem?_eq_some_iff.1 hgg).1, h1, h2, fun i hi => ?_, fun i => ?_⟩
    · have e : (cur.toList.take xs.length)[i]? = some (.int .i64 (xs.getD i 0)) := by
        rw [h4]; simp [List.getElem?_map, List.getElem?_eq_getElem hi, List.getD_eq_getElem?_getD]
      rw [List.getElem?_take_of_lt hi] at e
      unfold World.cell?
      simp [hgg]
      simpa using e
    · unfold World.frozen?
      simp [hgg]
theorem OwnE.reads {w : World} {base : Nat} {v : Value} {xs : List Int} (h : OwnE w base v xs) : Reads w v xs := by
  rcases h.form with ⟨rfl, rfl⟩ | ⟨g, cap, rfl, _, hlt, h1, h2, hc, _⟩
  · exact ⟨none, 0, rfl, Nat.le_refl _, by unfold maxLen; omega, .inl rfl⟩
  · exact ⟨_, cap, rfl, h1, h2, .inr ⟨g, 0, rfl, hlt, hc⟩⟩
theorem OwnE.low {w : World} {base : Nat} {v : Value} {xs : List Int} (h : OwnE w base v xs) (k : Nat) (hk : v.ownBlock = some k) : base ≤ k ∧ k < w.heap.size := by
  rcases h with ⟨rfl, _⟩ | ⟨g, cap, cur, rfl, hg, hgg, _⟩
  · simp [Value.ownBlock] at hk
  · have : g = k := by simpa [Value.ownBlock] using hk
    subst this
    exact ⟨hg, (Array.getElem?_eq_some_iff.1 hgg).1⟩
theorem OwnE.of_block {w w' : World} {base : Nat} {v : Value} {xs : List Int} (h : OwnE w base v xs) (hb : ∀ k, v.ownBlock = some k → w'.heap[k]? = w.heap[k]?) : OwnE w' base v xs := by
  rcases h with h | ⟨g, cap, cur, rfl, hg, hgg, rest⟩
  · exact .inl h
  · exact .inr ⟨g, cap, cur, rfl, hg, (hb g rfl).trans hgg, rest⟩
theorem OwnE.below {w w' : World} {base : Nat} {v : Value} {xs : List Int} (h : OwnE w base v xs) (hb : Below w.heap.size w w') : OwnE w' base v xs :=
  h.of_block fun k hk => hb.block k (h.low k hk).2
theorem OwnE.mono {w : World} {base base' : Nat} {v : Value} {xs : List Int} (h : OwnE w base v xs) (hb : base' ≤ base) : OwnE w base' v xs := by
  rcases h with h | ⟨g, cap, cur, rfl, hg, rest⟩
  · exact .inl h
  · exact .inr ⟨g, cap, cur, rfl, Nat.le_trans hb hg, rest⟩
theorem OwnE.kept {w w' : World} {base : Nat} {v : Value} {xs : List Int} {row : Option Nat} (h : OwnE w base v xs) (hg : w.grownBy w' row) (hne : v.ownBlock = none ∨ v.ownBlock ≠ row) : OwnE w' base v xs :=
  h.of_block fun k hk => hg.block k (h.low k hk).2 (by rw [← hk]; rcases hne with hn | hn; · rw [hn] at hk; simp at hk
                                                       · exact hn)
theorem OwnE.set {w : World} {base g cap : Nat} {xs : List Int} (h : OwnE w base (.slice (some ⟨g, 0, none⟩) xs.length cap) xs) (j : Nat) (u : Int) :
    OwnE (w.setCell ⟨g, j, none⟩ (.int .i64 u)) base (.slice (some ⟨g, 0, none⟩) xs.length cap) (xs.set j u) ∧ w.grownBy (w.setCell ⟨g, j, none⟩ (.int .i64 u)) (some g) := by
  refine ⟨?_, ⟨rfl, rfl, rfl, by simp, fun i _ hne => Below.heap_setCell _ _ _ i (fun e => hne (by rw [e]))⟩⟩
  rcases h with ⟨h, _⟩ | ⟨g', cap', cur, e, hg, hgg, h1, h2, h3, h4⟩
  · simp at h
  · simp only [Value.slice.injEq, Option.some.injEq, Addr.mk.injEq, and_true] at e
    obtain ⟨rfl, _, rfl⟩ := e
    refine .inr ⟨g, cap, cur.setIfInBounds j (.int .i64 u), by simp, hg, ?_, by simpa using h1, h2, by simpa using h3, ?_⟩
    · unfold World.setCell
      simp [Array.getElem?_modify, hgg]
    · rw [List.length_set, List.map_set, ← h4]
      simp [List.take_set]
def LivesE (w : World) (lo hi : Nat) (v : Value) (xs : List Int) : Prop := OwnE w lo v xs ∧ ∀ k, v.ownBlock = some k → k < hi
theorem OwnE.livesE {w : World} {lo : Nat} {v : Value} {xs : List Int} (h : OwnE w lo v xs) : LivesE w lo w.heap.size v xs := ⟨h, fun k hk => (h.low k hk).2⟩
theorem Own.livesE {w : World} {lo : Nat} {v : Value} {xs : List Int} (h : Own w lo v xs) : LivesE w lo w.heap.size v xs := h.e.livesE
theorem LivesE.below {w w' : World} {lo hi : Nat} {v : Value} {xs : List Int} (h : LivesE w lo hi v xs) (hb : Below w.heap.size w w') : LivesE w' lo hi v xs := ⟨h.1.below hb, h.2⟩
theorem LivesE.reads {w : World} {lo hi : Nat} {v : Value} {xs : List Int} (h : LivesE w lo hi v xs) : Reads w v xs := h.1.reads
theorem LivesE.low {w : World} {lo hi : Nat} {v : Value} {xs : List Int} (h : LivesE w lo hi v xs) : ∀ k, v.ownBlock = some k → lo ≤ k := fun k hk => (h.1.low k hk).1
theorem LivesE.sits {w : World} {lo hi g n c : Nat} {xs : List Int} (h : LivesE w lo hi (.slice (some ⟨g, 0, none⟩) n c) xs) : Sits w (.slice (some ⟨g, 0, none⟩) n c) xs := by
  rcases h.1.form with ⟨e, _⟩ | ⟨g', cap, e, _, hlt, h1, h2, hc, _⟩
  · simp at e
  · simp only [Value.slice.injEq, Option.some.injEq, Addr.mk.injEq, and_true] at e
    obtain ⟨rfl, rfl, rfl⟩ := e
    refine ⟨g, 0, c, rfl, h1, by unfold maxLen at h2; omega, hlt, fun i hi => ?_⟩
    rw [hc i hi, getD_at hi]
theorem LivesE.kept {w w' : World} {lo hi lo' hi' : Nat} {v u : Value} {xs ys : List Int} (h : LivesE w lo hi v xs) (h' : LivesE w lo' hi' u ys) (hg : w.grownBy w' u.ownBlock) (hne : hi ≤ lo' ∨ hi' ≤ lo) : LivesE w' lo hi v xs := by
  refine ⟨OwnE.kept h.1 hg ?_, h.2⟩
  cases hv : v.ownBlock with
  | none => exact .inl rfl
  | some k =>
    right
    intro e
    have h1 := h.2 k hv
    have h2 := h.low k hv
    have h3 := h'.2 k e.symm
    have h4 := h'.low k e.symm
    omega
theorem LivesE.marked {w w' : World} {lo hi : Nat} {v : Value} {xs ys : List Int} (h : LivesE w lo hi v xs) (ho : OwnE w' lo v ys) : LivesE w' lo hi v ys := ⟨ho, h.2⟩
theorem Below.markedE {w w1 w' : World} {lo hi : Nat} {v : Value} {xs : List Int} (h : Below w.heap.size w w1) (hl : LivesE w1 lo hi v xs) (hg : w1.grownBy w' v.ownBlock) (hlo : w.heap.size ≤ lo) : Below w.heap.size w w' :=
  h.grown hg h.size (fun k hk => Nat.le_trans hlo (hl.low k hk))
theorem markIntS_E (v : Value) (xs : List Int) (base : Nat) (m : Int) (w : World) (h : OwnE w base v xs) (h0 : 0 ≤ m) (h1 : m ≤ 1099511627776) (hl : xs.length ≤ 1099511627776) :
    Calls Try.prog 20 #[v, .int .i64 m] w fun e w' => e = .returned (.int .i64 (m + xs.length)) ∧ OwnE w' base v (marks m xs.length) ∧ w.grownBy w' v.ownBlock := by
  rcases h.form with ⟨rfl, rfl⟩ | ⟨g, cap, rfl, hg, hlt, hc1, hm, hc, hf⟩
  · go_enter Try.func20, Try.ntmps20
    go_wp2
    refine wp_loop_rounds 1 ?_
    rw [rounds_succ]
    go_wp2
    go_ret
    exact ⟨ret_int (by simp), h, World.grownBy.refl _ _⟩
  · unfold maxLen at hm
    have H := hid h
    clear h hc hf
    go_enter Try.func20, Try.ntmps20
    go_wp2
    go_loopw [1, 5] (fun a i wr => ∃ k : Nat, k ≤ xs.length ∧ i = .int .i64 k ∧ a = .int .i64 (m + k) ∧ OwnE wr base (.slice (some ⟨g, 0, none⟩) xs.length cap) (marks m k ++ xs.drop k) ∧ w.grownBy wr (some g)) (fun _ i _ => xs.length - (intOf i).toNat)
    case atStart => exact ⟨0, Nat.zero_le _, rfl, by simp, by simpa [marks] using H.out, World.grownBy.refl _ _⟩
    case round =>
      obtain ⟨k, hk, rfl, rfl, hown, hgr⟩ := hrel
      have hlen : (marks m k ++ xs.drop k).length = xs.length := by simp [marks_length]; omega
      by_cases hlt : k < xs.length
      · have hs := OwnE.set (by rw [hlen]; exact hown) k (m + k)
        rw [hlen, marks_set m xs k hlt] at hs
        rcases hown.form with ⟨h1, h2⟩ | ⟨g', cap', e, hg', hlt', hc1', hm', hc', hf'⟩
        · simp at h1
        · simp only [Value.slice.injEq, Option.some.injEq, Addr.mk.injEq, and_true] at e
          obtain ⟨rfl, el, rfl⟩ := e
          clear el
          have hcx := hc' k (by omega)
          have hfx := hf' k
          rw [Nat.zero_add] at hcx
          obtain ⟨z, hz⟩ : ∃ z, wr.cell? ⟨g, k, none⟩ = some z := ⟨_, hcx⟩
          clear hcx
          have HS := hid hs
          have HG := hid hgr
          clear hs hgr hc' hf' hown hlen hm' hc1'
          go_wp2
          go_roundw
          case rel => exact ⟨k + 1, by omega, by go_num, by go_num, HS.out.1, grownBy_trans HG.out HS.out.2⟩
          case measure => simp [intOf]; omega
      · obtain rfl : k = xs.length := by omega
        rw [List.drop_length, List.append_nil] at hown
        have HO := hid hown
        have HG := hid hgr
        clear hown hgr hlen
        go_wp2
        go_ret
        exact ⟨rfl, HO.out, HG.out⟩
end Go.Proofs.Yteimfdpkodcfbaa

/- Results that are lists of lists, whose rows may be longer than what is handed out (slices with three indexes); contracts at them: eqIntSS, heldIntSS, markIntSS. Conditions: the slices read as lists of lists. -/
namespace Go.Proofs.Yteimfdpkodcfbaa
open Go.RowKit
set_option linter.unusedVariables false
set_option maxRecDepth 4000

/-- v is a slice whose elements are the slices vs, which read as L; all rows lie from lo on and below hi, no two elements on one row; rows may go on behind the caps. -/
structure LsE (w : World) (lo hi : Nat) (v : Value) (vs : List Value) (L : List (List Int)) : Prop where
  len : vs.length = L.length
  outer : (v = .slice none 0 0 ∧ vs = []) ∨ ∃ g cap cur, v = .slice (some ⟨g, 0, none⟩) vs.length cap ∧ lo ≤ g ∧ g < hi ∧ w.heap[g]? = some (.cells cur 22 (0, 0)) ∧ vs.length ≤ cap ∧ cap ≤ maxLen ∧ cap ≤ cur.size ∧ cur.toList.take vs.length = vs
  rows : ∀ i (h : i < vs.length) (h2 : i < L.length), LivesE w lo hi vs[i] L[i]
  apart : ∀ i j (h1 : i < vs.length) (h2 : j < vs.length) (g : Nat), i ≠ j → vs[i].ownBlock = some g → vs[j].ownBlock ≠ some g
def ListsE (w : World) (lo hi : Nat) (v : Value) (L : List (List Int)) : Prop := ∃ vs, LsE w lo hi v vs L
theorem cells_take {w : World} {g n : Nat} {T : TypeId} {cur : Array Value} {vs : List Value} (hg : w.heap[g]? = some (.cells cur T (0, 0))) (ht : cur.toList.take n = vs) (i : Nat) (hi : i < vs.length) (hn : n = vs.length) : w.cell? ⟨g, i, none⟩ = some vs[i] := by
  have e : (cur.toList.take n)[i]? = some vs[i] := by rw [ht]; exact List.getElem?_eq_getElem hi
  rw [List.getElem?_take_of_lt (by omega)] at e
  unfold World.cell?
  simp [hg]
  simpa using e
theorem LsE.cell {w : World} {lo hi g n c : Nat} {vs : List Value} {L : List (List Int)} (h : LsE w lo hi (.slice (some ⟨g, 0, none⟩) n c) vs L) : n = vs.length ∧ vs.length ≤ c ∧ c ≤ 9223372036854775807 ∧ lo ≤ g ∧ g < hi ∧ g < w.heap.size ∧ ∀ i (hi : i < vs.length), w.cell? ⟨g, i, none⟩ = some vs[i] := by
  rcases h.outer with ⟨e, _⟩ | ⟨g', cap, cur, e, h1, h2, hg, h3, h4, h5, h6⟩
  · simp at e
  · simp only [Value.slice.injEq, Option.some.injEq, Addr.mk.injEq, and_true] at e
    obtain ⟨rfl, rfl, rfl⟩ := e
    exact ⟨rfl, h3, by unfold maxLen at h4; omega, h1, h2, (Array.getElem?_eq_some_iff.1 hg).1, fun i hi => cells_take hg h6 i hi rfl⟩
theorem LsE.reads {w : World} {lo hi : Nat} {v : Value} {vs : List Value} {L : List (List Int)} (h : LsE w lo hi v vs L) : ReadsL w v L := by
  rcases h.outer with ⟨rfl, e⟩ | ⟨g, cap, cur, rfl, h1, h2, hg, h3, h4, h5, h6⟩
  · have hL : L = [] := List.eq_nil_of_length_eq_zero (by rw [← h.len, e]; rfl)
    subst hL
    exact ⟨none, 0, rfl, Nat.le_refl _, by unfold maxLen; omega, .inl rfl⟩
  · refine ⟨_, cap, by rw [h.len], by rw [← h.len]; exact h3, h4, .inr ⟨g, 0, rfl, (Array.getElem?_eq_some_iff.1 hg).1, fun i hi => ?_⟩⟩
    have hi2 : i < vs.length := by rw [h.len]; exact hi
    exact ⟨vs[i], by rw [Nat.zero_add]; exact cells_take hg h6 i hi2 rfl, (h.rows i hi2 hi).reads⟩
theorem ListsE.reads {w : World} {lo hi : Nat} {v : Value} {L : List (List Int)} (h : ListsE w lo hi v L) : ReadsL w v L := by
  obtain ⟨vs, h⟩ := h
  exact h.reads
theorem LsE.below {w w' : World} {lo hi : Nat} {v : Value} {vs : List Value} {L : List (List Int)} (h : LsE w lo hi v vs L) (hb : Below w.heap.size w w') : LsE w' lo hi v vs L := by
  refine ⟨h.len, ?_, fun i a b => (h.rows i a b).below hb, h.apart⟩
  rcases h.outer with h1 | ⟨g, cap, cur, e, h1, h2, hg, rest⟩
  · exact .inl h1
  · exact .inr ⟨g, cap, cur, e, h1, h2, (hb.block g (Array.getElem?_eq_some_iff.1 hg).1).trans hg, rest⟩
theorem ListsE.below {w w' : World} {lo hi : Nat} {v : Value} {L : List (List Int)} (h : ListsE w lo hi v L) (hb : Below w.heap.size w w') : ListsE w' lo hi v L := by
  obtain ⟨vs, h⟩ := h
  exact ⟨vs, h.below hb⟩
theorem ListsE.mono {w : World} {lo hi lo' hi' : Nat} {v : Value} {L : List (List Int)} (h : ListsE w lo hi v L) (h1 : lo' ≤ lo) (h2 : hi ≤ hi') : ListsE w lo' hi' v L := by
  obtain ⟨vs, a, b, c, d⟩ := h
  refine ⟨vs, a, ?_, fun i x y => ⟨(c i x y).1.mono h1, fun k hk => Nat.lt_of_lt_of_le ((c i x y).2 k hk) h2⟩, d⟩
  rcases b with b | ⟨g, cap, cur, e, g1, g2, rest⟩
  · exact .inl b
  · exact .inr ⟨g, cap, cur, e, Nat.le_trans h1 g1, Nat.lt_of_lt_of_le g2 h2, rest⟩
theorem ListsA.listsE {w : World} {base : Nat} {v : Value} {L : List (List Int)} (h : ListsA w base v L) : ListsE w base w.heap.size v L := by
  obtain ⟨vs, a, b, c, d⟩ := h
  refine ⟨vs, a, ?_, fun i x y => (c i y x).livesE, d⟩
  rcases b.2 with ⟨e, hn⟩ | ⟨g, cap, cur, e, hg, hgg, h3, h4, h5, h6⟩
  · exact .inl ⟨e, List.eq_nil_of_length_eq_zero (by omega)⟩
  · exact .inr ⟨g, cap, cur, by rw [a]; exact e, hg, (Array.getElem?_eq_some_iff.1 hgg).1, hgg, by omega, h4, by omega, by rw [a]; simpa using h6⟩
/-- A list of lists stays while another value's row is marked. -/
theorem ListsE.kept {w w' : World} {lo hi : Nat} {v : Value} {L : List (List Int)} {row : Option Nat} (h : ListsE w lo hi v L) (hg : w.grownBy w' row) (hne : ∀ k, row = some k → k < lo ∨ hi ≤ k) : ListsE w' lo hi v L := by
  obtain ⟨vs, a, b, c, d⟩ := h
  refine ⟨vs, a, ?_, fun i x y => ⟨(c i x y).1.of_block fun k hk => hg.block k ((c i x y).1.low k hk).2 (fun e => ?_), (c i x y).2⟩, d⟩
  · rcases b with b | ⟨g, cap, cur, e, g1, g2, hgg, rest⟩
    · exact .inl b
    · exact .inr ⟨g, cap, cur, e, g1, g2, (hg.block g (Array.getElem?_eq_some_iff.1 hgg).1 (fun e => by have := hne g e.symm; omega)).trans hgg, rest⟩
  · have h1 := ((c i x y).1.low k hk).1
    have h2 := (c i x y).2 k hk
    have := hne k e.symm
    omega
theorem LsE.mark {w w' : World} {lo hi t : Nat} {v : Value} {vs : List Value} {L : List (List Int)} {ys : List Int} (h : LsE w lo hi v vs L) (ht : t < vs.length) (hu : OwnE w' lo vs[t] ys) (hg : w.grownBy w' vs[t].ownBlock) : LsE w' lo hi v vs (L.set t ys) := by
  have htl : t < L.length := by rw [← h.len]; exact ht
  refine ⟨by rw [List.length_set]; exact h.len, ?_, fun i a b => ?_, h.apart⟩
  · rcases h.outer with b | ⟨g, cap, cur, e, g1, g2, hgg, rest⟩
    · exact .inl b
    · refine .inr ⟨g, cap, cur, e, g1, g2, (hg.block g (Array.getElem?_eq_some_iff.1 hgg).1 (fun e => ?_)).trans hgg, rest⟩
      rcases (h.rows t ht htl).1 with ⟨e2, _⟩ | ⟨q, cap2, cur2, e2, _, hq, _⟩
      · rw [e2] at e; simp [Value.ownBlock] at e
      · rw [e2] at e
        have e3 : g = q := Option.some.inj e
        rw [e3, hq] at hgg
        simp at hgg
  · have b' : i < L.length := by simpa using b
    by_cases e : t = i
    · subst e
      refine ⟨by simpa using hu, (h.rows t ht htl).2⟩
    · rw [List.getElem_set_ne e]
      refine ⟨OwnE.kept (h.rows i a b').1 hg ?_, (h.rows i a b').2⟩
      cases hv : vs[i].ownBlock with
      | none => exact .inl rfl
      | some q => exact .inr (fun e2 => h.apart i t a ht q (fun e3 => e e3.symm) hv e2.symm)
theorem heldIntSS_R (v : Value) (L : List (List Int)) (m : Int) (w : World) (h : ReadsL w v L) (hx : Marked m L) (h0 : 0 ≤ m) (h1 : m ≤ 1073741824) (hl : preLen L L.length ≤ 1073741824) :
    Calls Try.prog 30 #[v, .int .i64 m] w fun e w' => e = .returned (.int .i64 (m + preLen L L.length)) ∧ w = w' := by
  obtain ⟨ao, c, rfl, hc1, hm, h⟩ := h
  unfold maxLen at hm
  rcases h with rfl | ⟨b, off, rfl, hb, hc⟩
  · go_enter Try.func30, Try.ntmps30
    go_wp2_with fail
    refine wp_loop_rounds 1 ?_
    rw [rounds_succ]
    go_wp2
    go_ret
    exact ⟨by simp [preLen], rfl⟩
  · have HC := hid hc
    have HX := hid hx
    clear hc hx
    go_enter Try.func30, Try.ntmps30
    go_wp2_with fail
    go_loop [1, 5] (fun kv i => ∃ t : Nat, t ≤ L.length ∧ i = .int .i64 t ∧ kv = .int .i64 (m + preLen L t)) (fun _ i => L.length - (intOf i).toNat)
    case atStart => exact ⟨0, Nat.zero_le _, rfl, by simp [preLen]⟩
    case round =>
      obtain ⟨t, ht, rfl, rfl⟩ := hrel
      have hpm := preLen_mono L ht
      by_cases hlt : t < L.length
      · obtain ⟨z, hz, hown⟩ := HC.out t hlt
        have HZ := hid hown
        have hpn := preLen_mono L (show t + 1 ≤ L.length from hlt)
        have HP := hid (show preLen L (t + 1) = preLen L t + L[t].length by rw [preLen]; simp [List.getD_eq_getElem?_getD, hlt])
        have HMK := hid (HX.out t hlt)
        rw [HP.out] at hpn
        obtain ⟨l, hll⟩ : ∃ l, l = L[t] := ⟨_, rfl⟩
        rw [← hll] at HZ HP HMK hpn
        obtain ⟨p, hp⟩ : ∃ p, p = preLen L t := ⟨_, rfl⟩
        rw [← hp] at HP HMK hpn hpm ⊢
        have h3 : 0 ≤ m + (p : Int) := by omega
        have h4 : m + (p : Int) ≤ 1099511627776 := by omega
        have h5 : l.length ≤ 1099511627776 := by omega
        have q1 : (0 : Int) ≤ (t : Int) := by omega
        have q2 : (t : Int) < (L.length : Int) := by omega
        clear hown hll hp
        go_wp2_with (first | (go_at_call 21; refine (heldIntS_any _ l _ _ HZ.out HMK.out h3 h4 h5).mono ?_; rintro e w1 ⟨rfl, rfl⟩) | fail)
        go_round
        case rel => exact ⟨t + 1, by omega, by go_num, by rw [HP.out]; go_num⟩
        case measure => simp [intOf]; omega
      · obtain rfl : t = L.length := by omega
        go_wp2_with fail
        go_ret
        exact ⟨rfl, rfl⟩
theorem eqIntSS_R (v u : Value) (L : List (List Int)) (w : World) (h : ReadsL w v L) (h' : ReadsL w u L) :
    Calls Try.prog 28 #[v, u] w fun e w' => e = .returned (.bool true) ∧ Below w.heap.size w w' := by
  obtain ⟨ao, c, rfl, hc1, hm, h⟩ := h
  obtain ⟨ao', c', rfl, hc1', hm', h'⟩ := h'
  unfold maxLen at hm hm'
  rcases h with rfl | ⟨g, off, rfl, hg, hc⟩
  · go_enter Try.func28, Try.ntmps28
    go_wp2_with fail
    refine wp_loop_rounds 1 ?_
    rw [rounds_succ]
    go_wp2
    go_ret
    exact ⟨rfl, Below.refl _ _⟩
  · rcases h' with rfl | ⟨g', off', rfl, hg', hc'⟩
    · go_enter Try.func28, Try.ntmps28
      go_wp2_with fail
      refine wp_loop_rounds 1 ?_
      rw [rounds_succ]
      go_wp2
      go_ret
      exact ⟨rfl, Below.refl _ _⟩
    · have HC := hid hc
      have HC' := hid hc'
      clear hc hc'
      go_enter Try.func28, Try.ntmps28
      go_wp2_with fail
      go_loopw [5] (fun i wr => ∃ t : Nat, t ≤ L.length ∧ i = .int .i64 t ∧ Below w.heap.size w wr) (fun i _ => L.length - (intOf i).toNat)
      case atStart => exact ⟨0, Nat.zero_le _, rfl, Below.refl _ _⟩
      case round =>
        obtain ⟨t, ht, rfl, hbel⟩ := hrel
        have HB := hid hbel
        by_cases hlt : t < L.length
        · obtain ⟨z, hz, hown⟩ := HC.out t hlt
          obtain ⟨z', hz', hown'⟩ := HC'.out t hlt
          have hcx : wr.cell? ⟨g, off + t, none⟩ = some z := (hbel.cell (by exact hg)).trans hz
          have hcx' : wr.cell? ⟨g', off' + t, none⟩ = some z' := (hbel.cell (by exact hg')).trans hz'
          have HZ := hid (hown.below hbel)
          have HZ' := hid (hown'.below hbel)
          have hgr : g < wr.heap.size := by have := hbel.size; omega
          have hgr' : g' < wr.heap.size := by have := hbel.size; omega
          obtain ⟨l, hl⟩ : ∃ l, l = L[t] := ⟨_, rfl⟩
          rw [← hl] at HZ HZ'
          have hd : decide (l = l) = true := by simp
          have q1 : (0 : Int) ≤ (t : Int) := by omega
          have q2 : (t : Int) < (L.length : Int) := by omega
          clear hz hz' hown hown' hbel hl
          go_wp2_with fail
          go_region_held3 (fun w' => w'.cell? ⟨g, off + t, none⟩ = some z ∧ w'.cell? ⟨g', off' + t, none⟩ = some z')
            (first | exact ⟨hcx, hcx'⟩ | exact ⟨(HB1.out.cell (by exact hgr)).trans hcx, (HB1.out.cell (by exact hgr')).trans hcx'⟩ | go_keep | fail)
            (first
              | (go_at_call 19; refine (eqIntS_any _ _ l l _ ?_ ?_).mono ?_; (exact HZ.out.below (Below.refl _ _).drew); (exact HZ'.out.below (Below.refl _ _).drew); rintro e w1 ⟨rfl, hb1⟩; have HB1 := hid (Below_chain (Below.refl wr.heap.size wr).drew hb1); clear hb1; (try rw [hd]); (try simp only [decide_true]))
              | fail)
          all_goals
            go_wp2_with fail
            go_roundw
            case rel => exact ⟨t + 1, by omega, by go_num, Below_chain HB.out HB1.out⟩
            case measure => simp [intOf]; omega
        · obtain rfl : t = L.length := by omega
          go_wp2_with fail
          go_ret
          exact ⟨rfl, HB.out⟩
theorem markIntSS_E (v : Value) (L : List (List Int)) (lo hi : Nat) (m : Int) (w : World) (h : ListsE w lo hi v L) (h0 : 0 ≤ m) (h1 : m ≤ 1073741824) (hl : preLen L L.length ≤ 1073741824) :
    Calls Try.prog 29 #[v, .int .i64 m] w fun e w' => e = .returned (.int .i64 (m + preLen L L.length)) ∧ ∃ M : List (List Int), ListsE w' lo hi v M ∧ M.length = L.length ∧ (∀ i (a : i < M.length) (b : i < L.length), M[i] = marks (m + preLen L i) L[i].length) ∧ Below lo w w' ∧ w.heap.size ≤ w'.heap.size := by
  obtain ⟨vs, hL⟩ := h
  have HL := hid hL
  have hlen := hL.len
  rcases hL.outer with ⟨rfl, hn⟩ | ⟨g, cap, cur, rfl, hbg, hgh, hg, hc1, hm, _⟩
  · obtain rfl : L = [] := List.eq_nil_of_length_eq_zero (by rw [← hlen, hn]; rfl)
    go_enter Try.func29, Try.ntmps29
    go_wp2_with fail
    refine wp_loop_rounds 1 ?_
    rw [rounds_succ]
    go_wp2
    go_ret
    exact ⟨by simp [preLen], [], ⟨vs, HL.out⟩, rfl, fun i a => by simp at a, Below.refl _ _, Nat.le_refl _⟩
  · unfold maxLen at hm
    have HLEN := hid hlen
    have hcL : L.length ≤ cap := by rw [← hlen]; exact hc1
    rw [hlen] at HL ⊢
    clear hL hg hlen hc1
    go_enter Try.func29, Try.ntmps29
    go_wp2_with fail
    go_loopw [1, 5] (fun kv i wr => ∃ t : Nat, t ≤ L.length ∧ i = .int .i64 t ∧ kv = .int .i64 (m + preLen L t) ∧ (∃ M : List (List Int), LsE wr lo hi (.slice (some ⟨g, 0, none⟩) L.length cap) vs M ∧ M.length = L.length ∧ (∀ i (a : i < M.length) (b : i < L.length), M[i].length = L[i].length ∧ (i < t → M[i] = marks (m + preLen L i) L[i].length))) ∧ Below lo w wr ∧ w.heap.size ≤ wr.heap.size) (fun _ i _ => L.length - (intOf i).toNat)
    case atStart => exact ⟨0, Nat.zero_le _, rfl, by simp [preLen], ⟨L, HL.out, rfl, fun i a b => ⟨rfl, fun h => by omega⟩⟩, Below.refl _ _, Nat.le_refl _⟩
    case round =>
      obtain ⟨t, ht, rfl, rfl, ⟨M, hM, hMl, hMe⟩, hbel, hsz⟩ := hrel
      have HM := hid hM
      have HB := hid hbel
      have HME := hid hMe
      have HSZ := hid hsz
      have hpm := preLen_mono L ht
      by_cases hlt : t < L.length
      · have htM : t < M.length := by omega
        have htv : t < vs.length := by rw [HLEN.out]; exact hlt
        have hcz : wr.cell? ⟨g, t, none⟩ = some vs[t] := hM.cell.2.2.2.2.2.2 t htv
        have HO := hid (hM.rows t htv htM)
        obtain ⟨l, hll⟩ : ∃ l, l = M[t] := ⟨_, rfl⟩
        have hle : l.length = L[t].length := by rw [hll]; exact (HME.out t htM hlt).1
        have hpn := preLen_mono L (show t + 1 ≤ L.length from hlt)
        have HP := hid (show preLen L (t + 1) = preLen L t + l.length by rw [preLen, hle]; simp [List.getD_eq_getElem?_getD, hlt])
        rw [HP.out] at hpn
        rw [← hll] at HO
        have HLE := hid hle
        have HML := hid hMl
        obtain ⟨p, hp⟩ : ∃ p, p = preLen L t := ⟨_, rfl⟩
        rw [← hp] at HP hpn hpm ⊢
        have HPP := hid hp
        obtain ⟨z, hz⟩ : ∃ z, z = vs[t] := ⟨_, rfl⟩
        rw [← hz] at hcz HO
        have HZ := hid hz
        have h3 : 0 ≤ m + (p : Int) := by omega
        have h4 : m + (p : Int) ≤ 1099511627776 := by omega
        have h5 : l.length ≤ 1099511627776 := by omega
        have q1 : (0 : Int) ≤ (t : Int) := by omega
        have q2 : (t : Int) < (L.length : Int) := by omega
        clear hll hle hp hz hM hMl hMe hbel hsz
        go_wp2_with (first | (go_at_call 20; refine (markIntS_E _ l lo _ _ HO.out.1 h3 h4 h5).mono ?_; rintro e w1 ⟨rfl, hown, hgr⟩; have HOW := hid hown; have HGR := hid hgr; clear hown hgr) | fail)
        have HN := hid (HM.out.mark htv (by rw [← HZ.out]; exact HOW.out) (by rw [← HZ.out]; exact HGR.out))
        have HBN := hid (HB.out.grown HGR.out (by have h1 := (HM.out.cell).2.2.2.1; have h2 := (HM.out.cell).2.2.2.2.2.1; omega) (fun q hq => (HO.out.1.low q hq).1))
        have HSN := hid (Nat.le_trans HSZ.out HGR.out.size)
        have HEN := hid (show ∀ i (a : i < (M.set t (marks (m + p) l.length)).length) (b : i < L.length), (M.set t (marks (m + p) l.length))[i].length = L[i].length ∧ (i < t + 1 → (M.set t (marks (m + p) l.length))[i] = marks (m + preLen L i) L[i].length) from fun i a b => by
          by_cases e : t = i
          · subst e
            rw [List.getElem_set_self, marks_length, ← HLE.out, ← HPP.out]
            exact ⟨rfl, fun _ => rfl⟩
          · rw [List.getElem_set_ne e]
            have := HME.out i (by simpa using a) b
            exact ⟨this.1, fun h => this.2 (by omega)⟩)
        go_roundw
        case rel => exact ⟨t + 1, by omega, by go_num, by rw [HP.out]; go_num, ⟨_, HN.out, by simp [HML.out], HEN.out⟩, HBN.out, HSN.out⟩
        case measure => simp [intOf]; omega
      · obtain rfl : t = L.length := by omega
        clear hM hbel hsz
        go_wp2_with fail
        go_ret
        exact ⟨rfl, M, ⟨vs, HM.out⟩, hMl, fun i a b => (HME.out i a b).2 b, HB.out, HSZ.out⟩
end Go.Proofs.Yteimfdpkodcfbaa

/- Rows of integers that are filled from the front. No conditions. -/
namespace Go.Proofs.Yteimfdpkodcfbaa
open Go.RowKit
set_option linter.unusedVariables false

theorem one_cell9 (k : IntKind) (x : Int) : ∀ u ∈ [Value.int k x], u.oneCell' = true := by
  intro u hu
  simp at hu
  subst hu
  rfl
/-- the numbers made so far, zeros behind them -/
def rowTo (L : List Int) (k j : Nat) : Int := if j < k then L.getD j 0 else 0
theorem rowTo_set {w : World} {g : Nat} {L : List Int} {k : Nat} {d : Int} (hk : k < L.length) (hd : d = L.getD k 0) (h : w.rowIs g 3 L.length (fun j => .int .i64 (rowTo L k j))) :
    (w.setCell ⟨g, k, none⟩ (.int .i64 d)).rowIs g 3 L.length (fun j => .int .i64 (rowTo L (k + 1) j)) := by
  refine (h.set k (.int .i64 d)).congr (fun i hi => ?_)
  by_cases e : i = k
  · subst e
    rw [if_pos rfl, rowTo, if_pos (by omega), hd]
  · rw [if_neg e]
    unfold rowTo
    by_cases h1 : i < k
    · rw [if_pos h1, if_pos (by omega)]
    · rw [if_neg h1, if_neg (by omega)]
theorem rowTo_made {w : World} {L : List Int} {n : Nat} (hn : L.length = n) : (w.alloc (.cells (madeCells #[.int .i64 0] n) 3)).rowIs w.heap.size 3 L.length (fun j => .int .i64 (rowTo L 0 j)) := by
  subst hn
  exact (World.rowIs_made w (.int .i64 0) L.length 3).congr (fun i hi => by rw [rowTo, if_neg (by omega)])
theorem rowTo_own {w : World} {g n : Nat} {L : List Int} (hn : L.length = n) (hl : n ≤ 1048576) (h : w.rowIs g 3 L.length (fun j => .int .i64 (rowTo L n j))) : Own w g (.slice (some ⟨g, 0, none⟩) n n) L :=
  Own.of_rowIs (by rw [hn] at h; exact h.congr (fun i hi => by rw [rowTo, if_pos hi])) hn (by unfold maxLen; omega)
theorem ret_sb7 {u : Value} {b b' : Bool} (h : b = b') : Ending.returned (.tuple #[u, .bool b]) = .returned (.tuple #[u, .bool b']) := by rw [h]
end Go.Proofs.Yteimfdpkodcfbaa

/- One number more behind an owned slice, nil or not, and what stays beside it; the last number of a stack. Conditions: at most 2^20 numbers. -/
namespace Go.Proofs.Yteimfdpkodcfbaa
open Go.RowKit Go.Maps
set_option linter.unusedVariables false

theorem Own.lenA {w : World} {B n c : Nat} {aA : Option Addr} {G : List Int} (h : Own w B (.slice aA n c) G) : n = G.length := by
  rcases h.form with ⟨e, e2⟩ | ⟨g, cap, e, _⟩
  · simp only [Value.slice.injEq] at e
    rw [e2, e.2.1]; rfl
  · simp only [Value.slice.injEq] at e
    exact e.2.1
theorem Own.shp9 {w : World} {base : Nat} {v : Value} {xs : List Int} (h : Own w base v xs) : ∃ ao c, v = .slice ao xs.length c ∧ xs.length ≤ c ∧ c ≤ 9223372036854775807 := by
  rcases h.form with ⟨rfl, rfl⟩ | ⟨g, cap, rfl, _, _, h1, h2, _⟩
  · exact ⟨none, 0, rfl, Nat.le_refl _, by omega⟩
  · exact ⟨_, cap, rfl, h1, by unfold maxLen at h2; omega⟩
def Dj (u v : Value) : Prop := ∀ q, u.ownBlock = some q → v.ownBlock ≠ some q
theorem Dj.symm {u v : Value} (h : Dj u v) : Dj v u := fun q hq hu => h q hu hq
theorem Dj.nil (v : Value) : Dj (.slice none 0 0) v := fun q hq => by simp [Value.ownBlock] at hq
theorem Dj.len {g h n m c d n' m' c' d' : Nat} (hd : Dj (.slice (some ⟨g, 0, none⟩) n c) (.slice (some ⟨h, 0, none⟩) m d)) : Dj (.slice (some ⟨g, 0, none⟩) n' c') (.slice (some ⟨h, 0, none⟩) m' d') := hd
theorem grownBy_set9 (W : World) (b k : Nat) (v : Value) : W.grownBy (W.setCell ⟨b, k, none⟩ v) (some b) :=
  ⟨rfl, rfl, rfl, by simp, fun i _ hne => Below.heap_setCell _ _ _ i (fun e => hne (by rw [e]))⟩
structure Pushed (w w' : World) (B : Nat) (v v' : Value) (G : List Int) (x : Int) : Prop where
  own : Own w' B v' (G ++ [x])
  keep : ∀ (u : Value) (A : Nat) (ys : List Int), Own w A u ys → Dj u v → Own w' A u ys ∧ Dj u v'
  block : ∀ k, k < w.heap.size → v.ownBlock ≠ some k → w'.heap[k]? = w.heap[k]?
  below : ∀ w0 : World, w0.heap.size = B → Below w0.heap.size w0 w → Below w0.heap.size w0 w'
  under : ∀ (b : Nat) (w0 : World), b ≤ B → b ≤ w.heap.size → Below b w0 w → Below b w0 w'
  size : w.heap.size ≤ w'.heap.size
theorem wpList_push {P : Program} (w : World) {ops : Array Oper} {rest : List Oper} {o : Oper} {a : Act} {Q : Exit → Act → World → Prop} (hgd : o.guard = none) (s x : Operand) (t : TypeId)
    (ho : o.op = .call { callee := .builtin .append, args := #[s, x], argTypes := #[t, t] }) (B : Nat) (i : TypeInfo) (ht : P.underlying t = some (.slice 3)) (hi : P.info? 3 = some i) (hz : i.zero = some (.int .i64 0)) (hsize : i.size = 1) (hby : i.bytes = 8)
    (aA : Option Addr) (n c : Nat) (G : List Int) (hs : a.eval s = .slice aA n c) (hown : Own w B (.slice aA n c) G) (z : Int) (gs : Nat) (hgs : w.heap.size = gs) (hx : a.eval x = .slice (some ⟨gs, 0, none⟩) 1 1) (hn : n ≤ 1048576) (hB : B ≤ w.heap.size)
    (h : ∀ (g cap : Nat) (w' : World), Pushed w w' B (.slice aA n c) (.slice (some ⟨g, 0, none⟩) (n + 1) cap) G z → wpList P ops Q rest (a.put o.dst (.slice (some ⟨g, 0, none⟩) (n + 1) cap)) w') :
    wpList P ops Q (o :: rest) a (w.alloc (.cells #[.int .i64 z] 3)) := by
  subst hgs
  have hl : n = G.length := hown.lenA
  have hrow := hown.row
  rw [← hl] at hrow
  refine wpList_append_lies _ hgd s x t ho B 3 i (.int .i64 0) 1 8 ht hi hz hsize hby rfl (by decide) _ n _ hs (World.ownsRow.alloc hrow _) ⟨w.heap.size, 0, none⟩ 1 1 [.int .i64 z] hx rfl (fun j u hj => new_cell1 j hj) (one_cell _ _) Nat.zero_lt_one (by unfold maxLen; omega) (by omega) (by simp; omega) ?_
  intro g cap w' h1 h2 h3
  refine h g cap w' ⟨?_, fun u A ys hu hd => ⟨?_, fun q hq => ?_⟩, fun k hk hne => ?_, fun w0 e hb => ?_, fun b w0 h4 h5 hb => ?_, Nat.le_trans (by simp) h2.size⟩
  · rw [hl] at h1 ⊢
    exact Own.snoc h1
  · refine Own.kept (hu.below ((Below.refl _ _).alloc (Nat.le_refl _) _)) h2 ?_
    cases hq : u.ownBlock with
    | none => exact .inl rfl
    | some q => exact .inr (fun e => hd q hq e.symm)
  · have hlt := (World.ownsRow.lt hu q hq).2
    show some g ≠ some q
    intro e
    have e2 : g = q := Option.some.inj e
    subst e2
    rcases h3 with h3 | h3
    · exact hd g hq h3
    · simp at h3; omega
  · rw [h2.block k (by simp; omega) (fun e => hne e.symm)]
    exact ((Below.refl w.heap.size w).alloc (Nat.le_refl _) _).block k hk
  · subst e
    exact (hb.alloc hb.size _).grown h2 (Nat.le_trans hb.size (by simp)) (fun k hk => (World.ownsRow.lt hrow k hk).1)
  · exact (hb.alloc h5 _).grown h2 (Nat.le_trans h5 (by simp)) (fun k hk => Nat.le_trans h4 (World.ownsRow.lt hrow k hk).1)
theorem Own.cutP {w : World} {B go co n : Nat} {a : Int} {r : List Int} (h : Own w B (.slice (some ⟨go, 0, none⟩) n co) ((a :: r).reverse)) : Own w B (.slice (some ⟨go, 0, none⟩) r.length co) r.reverse := by
  have h1 := h.cut r.length (by simp)
  rwa [List.reverse_cons, List.take_left' (by simp)] at h1
structure TopC (w : World) (B g t c : Nat) (a : Int) (r : List Int) : Prop where
  cell : w.cell? ⟨g, t, none⟩ = some (.int .i64 a)
  froz : w.frozen? ⟨g, t, none⟩ = false
  cap : t + 1 ≤ c
  cmax : c ≤ 9223372036854775807
  base : B ≤ g
  lt : g < w.heap.size
  cut : Own w B (.slice (some ⟨g, 0, none⟩) t c) r.reverse
  set : ∀ u : Int, Own (w.setCell ⟨g, t, none⟩ (.int .i64 u)) B (.slice (some ⟨g, 0, none⟩) (t + 1) c) ((u :: r).reverse) ∧ w.grownBy (w.setCell ⟨g, t, none⟩ (.int .i64 u)) (some g)
theorem Own.topC {w : World} {B g t c : Nat} {a : Int} {r : List Int} (h : Own w B (.slice (some ⟨g, 0, none⟩) (t + 1) c) ((a :: r).reverse)) (hr : r.length = t) : TopC w B g t c a r := by
  subst hr
  obtain ⟨c0, c1, c2, c3, c4, c5, c6⟩ := Own_cells h
  refine ⟨?_, c6 _, by simpa using c1, c2, c4, c3, h.cutP, fun u => ?_⟩
  · rw [c5 r.length (by simp)]; simp
  · have := Own.set (g := g) (cap := c) (xs := (a :: r).reverse) (base := B) (w := w) (by rw [← c0]; exact h) r.length u
    rw [← c0] at this
    rw [List.reverse_cons, List.set_append, if_neg (by simp), List.length_reverse, Nat.sub_self, List.set_cons_zero, ← List.reverse_cons] at this
    exact this
theorem Own.shapeT {w : World} {B n c : Nat} {aA : Option Addr} {a : Int} {r : List Int} (h : Own w B (.slice aA n c) ((a :: r).reverse)) : ∃ g, aA = some ⟨g, 0, none⟩ ∧ n = r.length + 1 := by
  have hl := h.lenA
  rcases h.form with ⟨_, e⟩ | ⟨g, cap, e, _⟩
  · simp at e
  · simp only [Value.slice.injEq] at e
    exact ⟨g, e.1, by simpa using e.2.1⟩
end Go.Proofs.Yteimfdpkodcfbaa

/- One list more behind an owned list of lists; lists of lists that are read. Conditions: at most 2^20 lists. -/
namespace Go.Proofs.Yteimfdpkodcfbaa
open Go.RowKit
set_option linter.unusedVariables false
set_option maxRecDepth 4000

theorem Lists.readsL {w : World} {B : Nat} {v : Value} {L : List (List Int)} (h : Lists w B v L) : ReadsL w v L := by
  rcases h.form with ⟨rfl, rfl⟩ | ⟨g, cap, rfl, _, hg, h1, h2, hc⟩
  · exact ⟨none, 0, rfl, Nat.le_refl _, by unfold maxLen; omega, .inl rfl⟩
  · refine ⟨_, cap, rfl, h1, by unfold maxLen; omega, .inr ⟨g, 0, rfl, hg, fun i hi => ?_⟩⟩
    obtain ⟨u, hu, ho⟩ := hc i hi
    exact ⟨u, by rw [Nat.zero_add]; exact hu, ho.reads⟩
theorem Lists.lenA {w : World} {B n c : Nat} {aA : Option Addr} {L : List (List Int)} (h : Lists w B (.slice aA n c) L) : n = L.length := by
  rcases h.form with ⟨e, e2⟩ | ⟨g, cap, e, _⟩
  · simp only [Value.slice.injEq] at e
    rw [e2, e.2.1]; rfl
  · simp only [Value.slice.injEq] at e
    exact e.2.1
theorem wpList_pushL {P : Program} (w : World) {ops : Array Oper} {rest : List Oper} {o : Oper} {a : Act} {Q : Exit → Act → World → Prop} (hgd : o.guard = none) (s x : Operand) (t : TypeId)
    (ho : o.op = .call { callee := .builtin .append, args := #[s, x], argTypes := #[t, t] }) (B : Nat) (i : TypeInfo) (ht : P.underlying t = some (.slice 22)) (hi : P.info? 22 = some i) (hz : i.zero = some (.slice none 0 0)) (hsize : i.size = 1) (hby : i.bytes = 24)
    (aA : Option Addr) (n c : Nat) (L : List (List Int)) (hs : a.eval s = .slice aA n c) (hL : Lists w B (.slice aA n c) L) (u : Value) (l : List Int) (hu : Own w B u l) (gs : Nat) (hgs : w.heap.size = gs) (hx : a.eval x = .slice (some ⟨gs, 0, none⟩) 1 1) (hn : n ≤ 1048576) (hB : B ≤ w.heap.size)
    (h : ∀ (g cap : Nat) (w' : World), Lists w' B (.slice (some ⟨g, 0, none⟩) (n + 1) cap) (L ++ [l]) → (∀ w0 : World, w0.heap.size = B → Below w0.heap.size w0 w → Below w0.heap.size w0 w') → wpList P ops Q rest (a.put o.dst (.slice (some ⟨g, 0, none⟩) (n + 1) cap)) w') :
    wpList P ops Q (o :: rest) a (w.alloc (.cells #[u] 22)) := by
  subst hgs
  have hl := hL.lenA
  subst hl
  have hb : Below w.heap.size w (w.alloc (.cells #[u] 22)) := (Below.refl _ _).alloc (Nat.le_refl _) _
  obtain ⟨vs, hvl, hvr, hve⟩ := hL.below hb
  refine wpList_append_lies _ hgd s x t ho B 22 i (.slice none 0 0) 1 24 ht hi hz hsize hby rfl (by decide) _ L.length _ hs hvr ⟨w.heap.size, 0, none⟩ 1 1 [u] hx rfl (fun j u hj => new_cellV j hj) hu.one Nat.zero_lt_one (by unfold maxLen; omega) (by omega) (by simp; omega) ?_
  intro g cap w' h1 h2 h3
  refine h g cap w' ?_ (fun w0 e hb0 => ?_)
  · exact Lists_push hvl hvr hve (hu.below hb) h1 h2
  · subst e
    exact (hb0.alloc hb0.size _).grown h2 (Nat.le_trans hb0.size (by simp)) (fun k hk => (World.ownsRow.lt hvr k hk).1)
/-- The like, and the row that is put behind stays as it was. -/
theorem wpList_pushL2 {P : Program} (w : World) {ops : Array Oper} {rest : List Oper} {o : Oper} {a : Act} {Q : Exit → Act → World → Prop} (hgd : o.guard = none) (s x : Operand) (t : TypeId)
    (ho : o.op = .call { callee := .builtin .append, args := #[s, x], argTypes := #[t, t] }) (B : Nat) (i : TypeInfo) (ht : P.underlying t = some (.slice 22)) (hi : P.info? 22 = some i) (hz : i.zero = some (.slice none 0 0)) (hsize : i.size = 1) (hby : i.bytes = 24)
    (aA : Option Addr) (n c : Nat) (L : List (List Int)) (hs : a.eval s = .slice aA n c) (hL : Lists w B (.slice aA n c) L) (u : Value) (l : List Int) (hu : Own w B u l) (gs : Nat) (hgs : w.heap.size = gs) (hx : a.eval x = .slice (some ⟨gs, 0, none⟩) 1 1) (hn : n ≤ 1048576) (hB : B ≤ w.heap.size)
    (h : ∀ (g cap : Nat) (w' : World), Lists w' B (.slice (some ⟨g, 0, none⟩) (n + 1) cap) (L ++ [l]) → Own w' B u l → (∀ w0 : World, w0.heap.size = B → Below w0.heap.size w0 w → Below w0.heap.size w0 w') → wpList P ops Q rest (a.put o.dst (.slice (some ⟨g, 0, none⟩) (n + 1) cap)) w') :
    wpList P ops Q (o :: rest) a (w.alloc (.cells #[u] 22)) := by
  subst hgs
  have hl := hL.lenA
  subst hl
  have hb : Below w.heap.size w (w.alloc (.cells #[u] 22)) := (Below.refl _ _).alloc (Nat.le_refl _) _
  obtain ⟨vs, hvl, hvr, hve⟩ := hL.below hb
  refine wpList_append_lies _ hgd s x t ho B 22 i (.slice none 0 0) 1 24 ht hi hz hsize hby rfl (by decide) _ L.length _ hs hvr ⟨w.heap.size, 0, none⟩ 1 1 [u] hx rfl (fun j u hj => new_cellV j hj) hu.one Nat.zero_lt_one (by unfold maxLen; omega) (by omega) (by simp; omega) ?_
  intro g cap w' h1 h2 h3
  refine h g cap w' ?_ (Own.kept_type (hu.below hb) (T := 22) (by decide) hvr h2) (fun w0 e hb0 => ?_)
  · exact Lists_push hvl hvr hve (hu.below hb) h1 h2
  · subst e
    exact (hb0.alloc hb0.size _).grown h2 (Nat.le_trans hb0.size (by simp)) (fun k hk => (World.ownsRow.lt hvr k hk).1)
/-- The like, and all rows of ints stay as they were. -/
theorem wpList_pushL3 {P : Program} (w : World) {ops : Array Oper} {rest : List Oper} {o : Oper} {a : Act} {Q : Exit → Act → World → Prop} (hgd : o.guard = none) (s x : Operand) (t : TypeId)
    (ho : o.op = .call { callee := .builtin .append, args := #[s, x], argTypes := #[t, t] }) (B : Nat) (i : TypeInfo) (ht : P.underlying t = some (.slice 22)) (hi : P.info? 22 = some i) (hz : i.zero = some (.slice none 0 0)) (hsize : i.size = 1) (hby : i.bytes = 24)
    (aA : Option Addr) (n c : Nat) (L : List (List Int)) (hs : a.eval s = .slice aA n c) (hL : Lists w B (.slice aA n c) L) (u : Value) (l : List Int) (hu : Own w B u l) (gs : Nat) (hgs : w.heap.size = gs) (hx : a.eval x = .slice (some ⟨gs, 0, none⟩) 1 1) (hn : n ≤ 1048576) (hB : B ≤ w.heap.size)
    (h : ∀ (g cap : Nat) (w' : World), Lists w' B (.slice (some ⟨g, 0, none⟩) (n + 1) cap) (L ++ [l]) → (∀ (B' : Nat) (x : Value) (xs : List Int), Own w B' x xs → Own w' B' x xs) → (∀ w0 : World, w0.heap.size = B → Below w0.heap.size w0 w → Below w0.heap.size w0 w') → wpList P ops Q rest (a.put o.dst (.slice (some ⟨g, 0, none⟩) (n + 1) cap)) w') :
    wpList P ops Q (o :: rest) a (w.alloc (.cells #[u] 22)) := by
  subst hgs
  have hl := hL.lenA
  subst hl
  have hb : Below w.heap.size w (w.alloc (.cells #[u] 22)) := (Below.refl _ _).alloc (Nat.le_refl _) _
  obtain ⟨vs, hvl, hvr, hve⟩ := hL.below hb
  refine wpList_append_lies _ hgd s x t ho B 22 i (.slice none 0 0) 1 24 ht hi hz hsize hby rfl (by decide) _ L.length _ hs hvr ⟨w.heap.size, 0, none⟩ 1 1 [u] hx rfl (fun j u hj => new_cellV j hj) hu.one Nat.zero_lt_one (by unfold maxLen; omega) (by omega) (by simp; omega) ?_
  intro g cap w' h1 h2 h3
  refine h g cap w' ?_ (fun B' x xs hx => Own.kept_type (hx.below hb) (T := 22) (by decide) hvr h2) (fun w0 e hb0 => ?_)
  · exact Lists_push hvl hvr hve (hu.below hb) h1 h2
  · subst e
    exact (hb0.alloc hb0.size _).grown h2 (Nat.le_trans hb0.size (by simp)) (fun k hk => (World.ownsRow.lt hvr k hk).1)
end Go.Proofs.Yteimfdpkodcfbaa

/- Rows that were filled one after the other, and contracts: szIntSS by the sum, toIntSS with rows apart, markIntSS that leaves later blocks alone. Conditions: the slices read as lists of lists. -/
namespace Go.Proofs.Yteimfdpkodcfbaa
open Go.RowKit
set_option linter.unusedVariables false
set_option maxRecDepth 4000

/-- the first k rows of M stand, in blocks behind g that rise -/
structure Filled (w : World) (g : Nat) (U : Nat → Value) (M : List (List Int)) (k : Nat) : Prop where
  own : ∀ i (hi : i < M.length), i < k → Own w (g + 1) (U i) M[i]
  up : ∀ i j, i < j → j < k → j < M.length → ∀ a b, (U i).ownBlock = some a → (U j).ownBlock = some b → a < b
theorem Filled.zero (w : World) (g : Nat) (U : Nat → Value) (M : List (List Int)) : Filled w g U M 0 := ⟨fun i hi h => absurd h (by omega), fun i j h h2 => absurd h2 (by omega)⟩
theorem Filled.below {w w' : World} {g k : Nat} {U : Nat → Value} {M : List (List Int)} (h : Filled w g U M k) (hb : Below w.heap.size w w') : Filled w' g U M k := ⟨fun i hi hk => (h.own i hi hk).below hb, h.up⟩
theorem Filled.kept {w w' : World} {g k : Nat} {U : Nat → Value} {M : List (List Int)} (h : Filled w g U M k) (hg : w.grownBy w' (some g)) : Filled w' g U M k :=
  ⟨fun i hi hk => (h.own i hi hk).kept hg (by
    rcases (h.own i hi hk).form with ⟨hn, _⟩ | ⟨q, cap, hq, hgq, _⟩
    · exact .inl (by rw [hn]; rfl)
    · refine .inr ?_
      rw [hq]
      simp only [Value.ownBlock, ne_eq, Option.some.injEq]
      omega), h.up⟩
theorem Filled.step {w0 w : World} {g k : Nat} {U : Nat → Value} {M : List (List Int)} {u : Value} (h0 : Filled w0 g U M k) (h : Filled w g U M k) (hk : k < M.length) (hu : Own w (g + 1) u M[k]) (hb : ∀ b, u.ownBlock = some b → w0.heap.size ≤ b) :
    Filled w g (fun j => if j = k then u else U j) M (k + 1) := by
  refine ⟨fun i hi hik => ?_, fun i j hij hj hjM a b ha hbb => ?_⟩
  · by_cases e : i = k
    · subst e
      simpa using hu
    · simpa [e] using h.own i hi (by omega)
  · rw [if_neg (by omega)] at ha
    by_cases e : j = k
    · rw [if_pos e] at hbb
      have h1 := hb b hbb
      have h2 := (World.ownsRow.lt (h0.own i (by omega) (by omega)) a ha).2
      omega
    · rw [if_neg e] at hbb
      exact h.up i j hij (by omega) hjM a b ha hbb
/-- a list of lists whose rows are apart, all of them below H -/
def ListsU (w : World) (base H : Nat) (v : Value) (L : List (List Int)) : Prop :=
  ∃ vs : List Value, vs.length = L.length ∧ w.ownsRow base 22 1 v L.length vs ∧ (∀ i (h1 : i < L.length) (h2 : i < vs.length), Own w base vs[i] L[i]) ∧
    (∀ i j (h1 : i < vs.length) (h2 : j < vs.length) (g : Nat), i ≠ j → vs[i].ownBlock = some g → vs[j].ownBlock ≠ some g) ∧ ∀ i (h1 : i < vs.length) (g : Nat), vs[i].ownBlock = some g → g < H
theorem ListsU.listsA {w : World} {base H : Nat} {v : Value} {L : List (List Int)} (h : ListsU w base H v L) : ListsA w base v L := by
  obtain ⟨vs, a, b, c, d, _⟩ := h
  exact ⟨vs, a, b, c, d⟩
theorem ListsU.below {w w' : World} {base H : Nat} {v : Value} {L : List (List Int)} (h : ListsU w base H v L) (hb : Below w.heap.size w w') : ListsU w' base H v L := by
  obtain ⟨vs, a, b, c, d, e⟩ := h
  exact ⟨vs, a, ownsRow_below b hb, fun i x y => (c i x y).below hb, d, e⟩
theorem Filled.listsU {w : World} {g n : Nat} {U : Nat → Value} {M : List (List Int)} (h : Filled w g U M n) (hr : w.rowIs g 22 n U) (hn : M.length = n) (hm : n ≤ maxLen) : ListsU w g w.heap.size (.slice (some ⟨g, 0, none⟩) n n) M := by
  subst hn
  have hg : ∀ i (hi : i < ((List.range M.length).map U).length), ((List.range M.length).map U)[i] = U i := fun i hi => by simp
  refine ⟨(List.range M.length).map U, by simp, ownsRow_of_rowIs hr hm, fun i h1 h2 => ?_, fun i j h1 h2 a hij ha hb => ?_, fun i h1 a ha => ?_⟩
  · rw [hg i h2]
    exact (h.own i h1 h1).mono (by omega)
  · rw [hg i h1] at ha
    rw [hg j h2] at hb
    have h1' : i < M.length := by simpa using h1
    have h2' : j < M.length := by simpa using h2
    rcases Nat.lt_or_gt_of_ne hij with h3 | h3
    · exact absurd (h.up i j h3 h2' h2' a a ha hb) (by omega)
    · exact absurd (h.up j i h3 h1' h1' a a hb ha) (by omega)
  · rw [hg i h1] at ha
    have h1' : i < M.length := by simpa using h1
    exact (World.ownsRow.lt (h.own i h1' h1') a ha).2
theorem Own.stay {w w' : World} {B : Nat} {v : Value} {xs : List Int} (h : Own w B v xs) (hk : ∀ k, B ≤ k → k < w.heap.size → w'.heap[k]? = w.heap[k]?) : Own w' B v xs := by
  have hlt := World.ownsRow.lt h
  refine ⟨h.1, ?_⟩
  rcases h.2 with hnil | ⟨g, cap, cur, rfl, hg, hgg, rest⟩
  · exact .inl hnil
  · have := hlt g rfl
    exact .inr ⟨g, cap, cur, rfl, hg, by rw [hk g this.1 this.2]; exact hgg, rest⟩
theorem ownsRow_stay {w w' : World} {B n : Nat} {T : TypeId} {v : Value} {vs : List Value} (h : w.ownsRow B T 1 v n vs) (hk : ∀ k, B ≤ k → k < w.heap.size → w'.heap[k]? = w.heap[k]?) : w'.ownsRow B T 1 v n vs := by
  have hlt := World.ownsRow.lt h
  refine ⟨h.1, ?_⟩
  rcases h.2 with hnil | ⟨g, cap, cur, rfl, hg, hgg, rest⟩
  · exact .inl hnil
  · have := hlt g rfl
    exact .inr ⟨g, cap, cur, rfl, hg, by rw [hk g this.1 this.2]; exact hgg, rest⟩
theorem ListsA.stay {w w' : World} {B : Nat} {v : Value} {L : List (List Int)} (h : ListsA w B v L) (hk : ∀ k, B ≤ k → k < w.heap.size → w'.heap[k]? = w.heap[k]?) : ListsA w' B v L := by
  obtain ⟨vs, a, b, c, d⟩ := h
  exact ⟨vs, a, ownsRow_stay b hk, fun i x y => (c i x y).stay hk, d⟩
theorem szIntSS_sum (v : Value) (L : List (List Int)) (m : Int) (w : World) (h : ReadsL w v L) (h0 : 0 ≤ m) (h1 : m ≤ 1073741824) :
    Calls Try.prog 102 #[v, .int .i64 m] w fun e w' => ∃ q : Int, e = .returned (.int .i64 q) ∧ w = w' ∧ q ≤ m ∧ (0 ≤ q → (L.length : Int) + (preLen L L.length : Int) ≤ m) := by
  obtain ⟨ao, c, rfl, hc1, hm, h⟩ := h
  unfold maxLen at hm
  by_cases hle : (L.length : Int) ≤ m
  · rcases h with h | ⟨b, off, rfl, hb, hc⟩
    · subst h
      go_enter Try.func102, Try.ntmps102
      go_wp2
      refine wp_loop_rounds 1 ?_
      rw [rounds_succ]
      go_wp2
      go_ret
      exact ⟨_, rfl, rfl, by simp, fun _ => by simp [preLen]; omega⟩
    · have HC := hid hc
      clear hc
      go_enter Try.func102, Try.ntmps102
      go_wp2_with fail
      go_loop [1, 5] (fun q i => ∃ (t : Nat) (p : Int), t ≤ L.length ∧ i = .int .i64 t ∧ q = .int .i64 p ∧ 0 ≤ p ∧ p = m - L.length - (preLen L t : Int)) (fun _ i => L.length - (intOf i).toNat)
      case atStart => exact ⟨0, m - L.length, Nat.zero_le _, rfl, by first | rfl | go_num, by omega, by simp [preLen]⟩
      case round =>
        obtain ⟨t, p, ht, rfl, rfl, hp0, hpm⟩ := hrel
        have HPM := hid hpm
        by_cases hlt : t < L.length
        · obtain ⟨z, hz, hread⟩ := HC.out t hlt
          obtain ⟨l, hl⟩ : ∃ l, l = L[t] := ⟨_, rfl⟩
          have HPL := hid (show preLen L (t + 1) = preLen L t + l.length by rw [preLen, hl]; simp [List.getD_eq_getElem?_getD, hlt])
          rw [← hl] at hread
          have HR := hid hread
          have hp1 : p ≤ 1073741824 := by omega
          clear hread hl hpm
          by_cases hl2 : (l.length : Int) ≤ p
          · have HE := hid (show (if (l.length : Int) ≤ p then p - l.length else -1) = p - l.length from if_pos hl2)
            go_wp2_with (first | (go_at_call 146; refine (szIntS_any _ l p _ HR.out hp0 hp1).mono ?_; rintro e w1 ⟨rfl, rfl⟩; rw [HE.out]) | fail)
            go_round
            case rel => exact ⟨t + 1, p - l.length, by omega, by go_num, rfl, by omega, by have := HPM.out; rw [HPL.out]; omega⟩
            case measure => simp [intOf]; omega
          · have HE := hid (show (if (l.length : Int) ≤ p then p - l.length else -1) = -1 from if_neg hl2)
            go_wp2_with (first | (go_at_call 146; refine (szIntS_any _ l p _ HR.out hp0 hp1).mono ?_; rintro e w1 ⟨rfl, rfl⟩; rw [HE.out]) | fail)
            go_ret
            exact ⟨_, rfl, rfl, by omega, fun h => absurd h (by decide)⟩
        · have htl : t = L.length := by omega
          rw [htl] at HPM
          clear hpm
          go_wp2_with fail
          go_ret
          exact ⟨_, rfl, rfl, by have := HPM.out; omega, fun _ => by have := HPM.out; omega⟩
  · clear h
    go_enter Try.func102, Try.ntmps102
    go_wp2
    go_ret
    exact ⟨_, rfl, rfl, by omega, fun h => absurd h (by decide)⟩
theorem toIntSS_apart (v : Value) (L : List (List Int)) (w : World) (h : ReadsL w v L) (hl : L.length ≤ 1048576) (hl2 : ∀ i (hi : i < L.length), L[i].length ≤ 1048576) :
    Calls Try.prog 105 #[v] w fun e w' => e = .returned (.slice (some ⟨w.heap.size, 0, none⟩) L.length L.length) ∧ Rows2 w' w.heap.size (.slice (some ⟨w.heap.size, 0, none⟩) L.length L.length) L ∧
      ListsU w' w.heap.size w'.heap.size (.slice (some ⟨w.heap.size, 0, none⟩) L.length L.length) L ∧ Below w.heap.size w w' := by
  obtain ⟨ao, c, rfl, hc1, hm, h⟩ := h
  unfold maxLen at hm
  have hmk := run_make_intss L.length hl w
  have hr0 := World.rowIs_made w (.slice none 0 0) L.length 22
  have hB0 : Below w.heap.size w (w.alloc (.cells (madeCells #[.slice none 0 0] L.length) 22)) := (Below.refl _ _).alloc (Nat.le_refl _) _
  have hS0 : w.heap.size < (w.alloc (.cells (madeCells #[.slice none 0 0] L.length) 22)).heap.size := by simp
  obtain ⟨wm, hwm⟩ : ∃ wm, wm = w.alloc (.cells (madeCells #[.slice none 0 0] L.length) 22) := ⟨_, rfl⟩
  rw [← hwm] at hmk hr0 hB0 hS0
  clear hwm
  have HL2 := hid hl2
  have HR0 := hid hr0
  have HB0 := hid hB0
  have HLM := hid (show L.length ≤ maxLen by unfold maxLen; omega)
  clear hl2 hr0 hB0
  rcases h with h | ⟨b, off, rfl, hb, hc⟩
  · have H := hid h
    clear h
    go_enter Try.func105, Try.ntmps105
    go_wp2_with fail
    go_loopw [4] (fun i wr => i = .int .i64 0 ∧ wr = wm) (fun i _ => L.length - (intOf i).toNat)
    case atStart => exact ⟨rfl, rfl⟩
    case round =>
      obtain ⟨rfl, rfl⟩ := hrel
      have hlt : ¬ (0 : Int) < (L.length : Int) := by rw [H.out]; simp
      go_wp2_with fail
      go_ret
      exact ⟨rfl, Rows2.of (U := fun _ => .slice none 0 0) (fun i hi => absurd hi (by rw [H.out]; simp)) HR0.out hl, Filled.listsU (U := fun _ => .slice none 0 0) ⟨fun i hi => absurd hi (by rw [H.out]; simp), fun i j _ _ hj => absurd hj (by rw [H.out]; simp)⟩ HR0.out rfl HLM.out, HB0.out⟩
  · have HC := hid hc
    clear hc
    go_enter Try.func105, Try.ntmps105
    go_wp2_with fail
    go_loopw [4] (fun i wr => ∃ k : Nat, k ≤ L.length ∧ i = .int .i64 k ∧ (∃ U : Nat → Value, wr.rowIs w.heap.size 22 L.length U ∧ Copied wr w.heap.size U L k ∧ Filled wr w.heap.size U L k) ∧ Below w.heap.size w wr ∧ w.heap.size < wr.heap.size) (fun i _ => L.length - (intOf i).toNat)
    case atStart => exact ⟨0, Nat.zero_le _, rfl, ⟨_, HR0.out, fun i hi hk => absurd hk (by omega), Filled.zero _ _ _ _⟩, HB0.out, hS0⟩
    case round =>
      obtain ⟨k, hk, rfl, ⟨U, hrow, hcop, hfil⟩, hbel, hsz⟩ := hrel
      by_cases hlt : k < L.length
      · obtain ⟨z, hz, hread⟩ := HC.out k hlt
        have hcx : wr.cell? ⟨b, off + k, none⟩ = some z := (hbel.cell (by exact hb)).trans hz
        have HRD := hid (hread.below hbel)
        obtain ⟨l, hll⟩ : ∃ l, l = L[k] := ⟨_, rfl⟩
        have hl2 := HL2.out k hlt
        rw [← hll] at HRD hl2
        have HLL := hid hll
        have HROW := hid hrow
        have HCOP := hid hcop
        have HFIL := hid hfil
        have HB := hid hbel
        clear hread hz hrow hcop hbel hll hfil
        go_wp2_with (first | (go_at_call 32; refine (toIntS_any _ l _ HRD.out hl2).mono ?_; rintro e w1 ⟨rfl, hown, hb1⟩; have HO := hid hown; have HB1 := hid hb1; clear hown hb1; have HR1 := hid (rowIs_below HROW.out HB1.out hsz); obtain ⟨zz, hcz⟩ : ∃ zz, w1.cell? ⟨w.heap.size, k, none⟩ = some zz := ⟨_, HR1.out.cell hlt⟩; have hfz := HR1.out.frozen k) | fail)
        have HG := hid (grownBy_setCellAt w1 w.heap.size k (.slice (some ⟨wr.heap.size, 0, none⟩) l.length l.length))
        have HR2 := hid (HR1.out.set k (.slice (some ⟨wr.heap.size, 0, none⟩) l.length l.length))
        have HON := hid ((HO.out.mono (show w.heap.size + 1 ≤ wr.heap.size by omega)).kept HG.out (.inr (by simp only [Value.ownBlock, ne_eq, Option.some.injEq]; omega)))
        have HC2 := hid (((HCOP.out.below HB1.out).kept HG.out).step (q := wr.heap.size) hlt hsz (by
          rw [← HLL.out]
          exact HON.out.mono (by omega)))
        have HF2 := hid (Filled.step (u := .slice (some ⟨wr.heap.size, 0, none⟩) l.length l.length) HFIL.out ((HFIL.out.below HB1.out).kept HG.out) hlt (by rw [← HLL.out]; exact HON.out) (fun q hq => by simp only [Value.ownBlock, Option.some.injEq] at hq; omega))
        have HBB := hid ((HB.out.trans (HB1.out.mono (by omega))).setCell (p := ⟨w.heap.size, k, none⟩) (Nat.le_refl _) (.slice (some ⟨wr.heap.size, 0, none⟩) l.length l.length))
        have hs1 := HB1.out.size
        go_roundw
        case rel => exact ⟨k + 1, by omega, by go_num, ⟨_, HR2.out, by rw [← HLL.out] at HC2; exact HC2.out, HF2.out⟩, HBB.out, by simp; omega⟩
        case measure => simp [intOf]; omega
      · obtain rfl : k = L.length := by omega
        have HROW := hid hrow
        have HCOP := hid hcop
        have HFIL := hid hfil
        have HB := hid hbel
        clear hrow hcop hbel hfil
        go_wp2_with fail
        go_ret
        exact ⟨rfl, Rows2.of HCOP.out HROW.out hl, HFIL.out.listsU HROW.out rfl HLM.out, HB.out⟩
theorem ListsU.mark {w w' : World} {base H : Nat} {v : Value} {L : List (List Int)} {vs : List Value} {t : Nat} {ys : List Int} (h1 : vs.length = L.length) (h2 : w.ownsRow base 22 1 v L.length vs)
    (h3 : ∀ i (h1 : i < L.length) (h2 : i < vs.length), Own w base vs[i] L[i]) (h4 : ∀ i j (h1 : i < vs.length) (h2 : j < vs.length) (g : Nat), i ≠ j → vs[i].ownBlock = some g → vs[j].ownBlock ≠ some g)
    (h5 : ∀ i (h1 : i < vs.length) (g : Nat), vs[i].ownBlock = some g → g < H)
    (ht : t < vs.length) (hu : Own w' base vs[t] ys) (hg : w.grownBy w' vs[t].ownBlock) : ListsU w' base H v (L.set t ys) := by
  have htl : t < L.length := by omega
  refine ⟨vs, by simp [h1], by rw [List.length_set]; exact row_kept_int h2 (by decide) (h3 t htl ht) hg, fun i a b => ?_, h4, h5⟩
  rw [List.length_set] at a
  by_cases e : t = i
  · subst e
    simpa using hu
  · rw [List.getElem_set_ne e]
    refine Own.kept (h3 i a b) hg ?_
    rcases (h3 i a b).form with ⟨hn, _⟩ | ⟨g, cap, hs, _⟩
    · exact .inl (by rw [hn]; rfl)
    · right
      intro e2
      have e3 : vs[i].ownBlock = some g := by rw [hs]; rfl
      exact h4 i t b ht g (fun e => by omega) e3 (by rw [← e2, e3])
theorem markIntSS_kept (v : Value) (L : List (List Int)) (base H : Nat) (m : Int) (w : World) (h : ListsU w base H v L) (h0 : 0 ≤ m) (h1 : m ≤ 1073741824) (hl : preLen L L.length ≤ 1073741824) :
    Calls Try.prog 29 #[v, .int .i64 m] w fun e w' => e = .returned (.int .i64 (m + preLen L L.length)) ∧ Below base w w' ∧ w.heap.size ≤ w'.heap.size ∧ ∀ k, H ≤ k → k < w.heap.size → w'.heap[k]? = w.heap[k]? := by
  have HL := hid h
  rcases h.listsA.lists.form with ⟨rfl, rfl⟩ | ⟨g, cap, rfl, hbg, hg, hc1, hm, hc⟩
  · go_enter Try.func29, Try.ntmps29
    go_wp2_with fail
    refine wp_loop_rounds 1 ?_
    rw [rounds_succ]
    go_wp2
    go_ret
    exact ⟨by simp [preLen], Below.refl _ _, Nat.le_refl _, fun _ _ _ => rfl⟩
  · clear hc h
    go_enter Try.func29, Try.ntmps29
    go_wp2_with fail
    go_loopw [1, 5] (fun kv i wr => ∃ t : Nat, t ≤ L.length ∧ i = .int .i64 t ∧ kv = .int .i64 (m + preLen L t) ∧ (∃ M : List (List Int), ListsU wr base H (.slice (some ⟨g, 0, none⟩) L.length cap) M ∧ M.length = L.length ∧ (∀ i (a : i < M.length) (b : i < L.length), M[i].length = L[i].length)) ∧ Below base w wr ∧ w.heap.size ≤ wr.heap.size ∧ ∀ k, H ≤ k → k < w.heap.size → wr.heap[k]? = w.heap[k]?) (fun _ i _ => L.length - (intOf i).toNat)
    case atStart => exact ⟨0, Nat.zero_le _, rfl, by simp [preLen], ⟨L, HL.out, rfl, fun i a b => rfl⟩, Below.refl _ _, Nat.le_refl _, fun _ _ _ => rfl⟩
    case round =>
      obtain ⟨t, ht, rfl, rfl, ⟨M, hM, hMl, hMe⟩, hbel, hsz, hst⟩ := hrel
      have HM := hid hM
      have HB := hid hbel
      have HME := hid hMe
      have HST := hid hst
      have hpm := preLen_mono L ht
      clear hM hbel hMe hst
      by_cases hlt : t < L.length
      · obtain ⟨vs, v1, v2, v3, v4, v5⟩ := HM.out
        have htM : t < M.length := by omega
        have htv : t < vs.length := by omega
        have hcz : wr.cell? ⟨g, t, none⟩ = some vs[t] := by
          have v2' := v2
          rw [hMl] at v2'
          have := World.ownsRow.cellAt v2' t (by omega)
          rw [this, List.getElem?_eq_getElem htv]
        have HO := hid (v3 t htM htv)
        obtain ⟨l, hll⟩ : ∃ l, l = M[t] := ⟨_, rfl⟩
        have hle : l.length = L[t].length := by rw [hll]; exact HME.out t htM hlt
        have hpn := preLen_mono L (show t + 1 ≤ L.length from hlt)
        have HP := hid (show preLen L (t + 1) = preLen L t + l.length by rw [preLen, hle]; simp [List.getD_eq_getElem?_getD, hlt])
        rw [HP.out] at hpn
        rw [← hll] at HO
        have HLE := hid hle
        have HV1 := hid v1
        have HV2 := hid v2
        have HV3 := hid v3
        have HV4 := hid v4
        have HV5 := hid v5
        obtain ⟨p, hp⟩ : ∃ p, p = preLen L t := ⟨_, rfl⟩
        rw [← hp] at HP hpn hpm ⊢
        obtain ⟨z, hz⟩ : ∃ z, z = vs[t] := ⟨_, rfl⟩
        rw [← hz] at hcz HO
        have HZ := hid hz
        have h3 : 0 ≤ m + (p : Int) := by omega
        have h4 : m + (p : Int) ≤ 1099511627776 := by omega
        have h5 : l.length ≤ 1099511627776 := by omega
        clear hll hle v1 v2 v3 v4 v5 hp hz
        go_wp2_with (first | (go_at_call 20; refine (markIntS_any _ l base _ _ HO.out h3 h4 h5).mono ?_; rintro e w1 ⟨rfl, hown, hgr⟩; have HOW := hid hown; have HGR := hid hgr; clear hown hgr) | fail)
        have HN := hid (ListsU.mark HV1.out HV2.out HV3.out HV4.out HV5.out htv (by rw [← HZ.out]; exact HOW.out) (by rw [← HZ.out]; exact HGR.out))
        have HBN := hid (HB.out.grown HGR.out (by omega) (fun q hq => (World.ownsRow.lt HO.out.row q hq).1))
        have HSN := hid (Nat.le_trans hsz HGR.out.size)
        have HSTN := hid (show ∀ k, H ≤ k → k < w.heap.size → w1.heap[k]? = w.heap[k]? from fun k h1 h2 => by
          rw [HGR.out.block k (by omega) (fun e => by
            have := HV5.out t htv k (by rw [← HZ.out]; exact e.symm)
            omega)]
          exact HST.out k h1 h2)
        have HEN := hid (show ∀ i (a : i < (M.set t (marks (m + p) l.length)).length) (b : i < L.length), (M.set t (marks (m + p) l.length))[i].length = L[i].length from fun i a b => by
          by_cases e : t = i
          · subst e
            rw [List.getElem_set_self, marks_length, ← HLE.out]
          · rw [List.getElem_set_ne e]
            exact HME.out i (by simpa using a) b)
        go_roundw
        case rel => exact ⟨t + 1, by omega, by go_num, by rw [HP.out]; go_num, ⟨_, HN.out, by simp [hMl], HEN.out⟩, HBN.out, HSN.out, HSTN.out⟩
        case measure => simp [intOf]; omega
      · obtain rfl : t = L.length := by omega
        go_wp2_with fail
        go_ret
        exact ⟨rfl, HB.out, hsz, HST.out⟩
end Go.Proofs.Yteimfdpkodcfbaa

/- Plain fact: a row is no longer than all rows together. -/
namespace Go.Proofs.Yteimfdpkodcfbaa
open Go.RowKit

theorem preLen_row {L : List (List Int)} {i : Nat} (hi : i < L.length) : L[i].length ≤ preLen L L.length := by
  have h1 := preLen_mono L (show i + 1 ≤ L.length from hi)
  have h2 : preLen L (i + 1) = preLen L i + L[i].length := by rw [preLen]; simp [List.getD_eq_getElem?_getD, hi]
  omega
end Go.Proofs.Yteimfdpkodcfbaa

/- A slice of slices of ints that came in reads as a list of lists. Conditions: none. -/
namespace Go.Proofs.Yteimfdpkodcfbaa
open Go.RowKit Go.WideShapes Go.Deep
set_option linter.unusedVariables false

theorem ReadsL.of_rows {W : World} {a : Addr} {len cap : Nat} {A : Nat → Option Addr} {L C : Nat → Nat} {Z : Nat → List Int} (hl : len ≤ cap) (hm : cap ≤ maxLen)
    (h : ∀ r, r < cap → W.cell? (a.add r) = some (.slice (A r) (L r) (C r)) ∧ IsRow .i64 W (A r) (L r) (C r) (Z r)) : ReadsL W (.slice (some a) len cap) ((List.range len).map fun r => (Z r).take (L r)) := by
  refine ⟨some a, cap, by simp, by simpa using hl, hm, ?_⟩
  by_cases h0 : len = 0
  · left; subst h0; rfl
  · right
    have hc := (h 0 (by omega)).1
    obtain ⟨b, off, spot⟩ := a
    have hspot : spot = none := by simpa [Addr.add] using World.cell?_spot hc
    subst hspot
    have hlt : b < W.heap.size := World.block_lt_of_cell? W _ hc
    refine ⟨b, off, rfl, hlt, fun i hi => ?_⟩
    have hi' : i < len := by simpa using hi
    obtain ⟨h1, h2⟩ := h i (by omega)
    have e : (⟨b, off, none⟩ : Addr).add i = ⟨b, off + i, none⟩ := by
      by_cases h : i = 0 <;> simp [Addr.add, h]
    rw [e] at h1
    refine ⟨_, h1, ?_⟩
    simp only [List.getElem_map, List.getElem_range]
    exact h2.reads.1
/-- What the reader says of an argument of type [][]int. -/
theorem rows_in {H : Type} {enc : TypeId × Value → H} {P : Program} {W : World} {base : Nat} {held : Bool} {t e q : TypeId} {fuel : Nat} {x : DataW H × List MemPlace} {a : Option Addr} {len cap : Nat}
    (ht : P.underlying t = some (.slice e)) (he : P.underlying e = some (.slice q)) (hq : P.underlying q = some (.int .i64)) (ce : P.cellsOf e = 1) (cq : P.cellsOf q = 1)
    (h : DataW.trod enc P W base (fun _ => true) held fuel t [.slice a len cap] = some x) :
    ∃ Ls : List (List Int), ReadsL W (.slice a len cap) Ls ∧ Ls.length = len ∧ ∀ l ∈ Ls, ∀ n ∈ l, (Lit.int .i64 n).wf = true := by
  rcases open_int_rows ht he hq ce cq h with ⟨hcs, _⟩ | ⟨a', len', cap', A, L, C, Z, hcs, _, hl, hm, _, hr⟩
  · simp at hcs
    obtain ⟨rfl, rfl, rfl⟩ := hcs
    exact ⟨[], ⟨none, 0, rfl, Nat.le_refl _, by unfold maxLen; omega, .inl rfl⟩, rfl, by simp⟩
  · simp at hcs
    obtain ⟨rfl, rfl, rfl⟩ := hcs
    have hrow : ∀ r, r < cap → W.cell? (a'.add r) = some (.slice (A r) (L r) (C r)) ∧ IsRow .i64 W (A r) (L r) (C r) (Z r) := by
      intro r hr0
      obtain ⟨h1, h2, h3, h4, h5, h6, h7⟩ := hr r hr0
      refine ⟨h1, ?_⟩
      cases hA : A r with
      | none =>
        have hc0 := h6 hA
        exact .inl ⟨rfl, by omega, hc0, List.eq_nil_of_length_eq_zero (by omega)⟩
      | some p => exact .inr ⟨p, rfl, h2, h3, h4, fun i hi => (h7 p hA).2 i (by omega), h5⟩
    refine ⟨_, ReadsL.of_rows hl hm hrow, by simp, fun l hl2 n hn => ?_⟩
    obtain ⟨r, hr1, rfl⟩ := List.mem_map.1 hl2
    exact (hrow r (by have := List.mem_range.1 hr1; omega)).2.wf n hn
end Go.Proofs.Yteimfdpkodcfbaa

/- Contract: ended at ints. Conditions: the slice is owned. -/
namespace Go.Proofs.Yteimfdpkodcfbaa
open Go.RowKit
set_option linter.unusedVariables false

theorem ended_any (B : Nat) (v : Value) (xs : List Int) (w : World) (h : Own w B v xs) :
    Calls Try.prog 158 #[v] w fun e w' => ∃ u, e = .returned u ∧ OwnE w B u xs ∧ u.ownBlock = v.ownBlock ∧ w = w' := by
  rcases h.form with ⟨rfl, rfl⟩ | ⟨g, cap, rfl, hb, hlt, h1, h2, hc, _⟩
  · go_enter Try.func158, Try.ntmps158
    go_wp2_with fail
    go_ret
    exact ⟨_, rfl, h.e, rfl, rfl⟩
  · have HO := hid (show OwnE w B (.slice (some ⟨g, 0, none⟩) xs.length xs.length) xs by
      rcases h.e with ⟨e, _⟩ | ⟨g', cap', cur, e, hg, hgg, h3, h4, h5, h6⟩
      · simp at e
      · simp only [Value.slice.injEq, Option.some.injEq, Addr.mk.injEq, and_true] at e
        obtain ⟨rfl, _, rfl⟩ := e
        exact .inr ⟨g, xs.length, cur, rfl, hg, hgg, Nat.le_refl _, by omega, by omega, h6⟩)
    unfold maxLen at h2
    have q1 : (0 : Int) ≤ (xs.length : Int) := by omega
    have q2 : (xs.length : Int) ≤ (cap : Int) := by omega
    clear h hc
    go_enter Try.func158, Try.ntmps158
    go_wp2_with fail
    go_ret
    exact ⟨_, rfl, HO.out, rfl, rfl⟩
end Go.Proofs.Yteimfdpkodcfbaa

/- Contract: joined, of slices of ints. Conditions: the slice is not nil, and neither are its rows; at most 2^20 numbers altogether. -/
namespace Go.Proofs.Yteimfdpkodcfbaa
open Go.RowKit
set_option linter.unusedVariables false

theorem flat_succ {P : List (List Int)} {k : Nat} (h : k < P.length) : (P.take (k + 1)).flatten = (P.take k).flatten ++ P[k] := by
  rw [List.take_succ_eq_append_getElem h, List.flatten_append]; simp
theorem flat_le {P : List (List Int)} : ∀ k, (P.take k).flatten.length ≤ P.flatten.length := by
  intro k
  have h := List.take_append_drop k P
  have h2 := congrArg (fun x => x.flatten.length) h
  simp only [List.flatten_append, List.length_append] at h2
  omega
set_option maxHeartbeats 1000000 in
theorem joined_any (v : Value) (P : List (List Int)) (w : World) (h : SitsL w v P) (hp : P.length ≤ 1048576) (ht : P.flatten.length ≤ 1048576) :
    Calls Try.prog 60 #[v] w fun e w' => e = .returned (.slice (some ⟨w.heap.size, 0, none⟩) P.flatten.length P.flatten.length) ∧ Own w' w.heap.size (.slice (some ⟨w.heap.size, 0, none⟩) P.flatten.length P.flatten.length) P.flatten ∧ Below w.heap.size w w' := by
  obtain ⟨i0, hi, hz0, hz1, hz2⟩ := info_parts Try.info3
  obtain ⟨g, off, c, rfl, hc1, hm, hg, hc⟩ := h
  obtain ⟨T, hT⟩ : ∃ T, T = P.flatten.length := ⟨_, rfl⟩
  have HT := hid hT
  rw [← hT] at ht ⊢
  obtain ⟨wm, hrun, hown0, hgrow0⟩ := run_make_own (P := Try.prog) w w.heap.size 22 3 i0 (.int .i64 0) 1 Try.underlying22 hi hz0 hz1 .i64 .i64 T (by rw [hz2]; omega) (by unfold maxLen; omega) (Nat.le_refl _)
  have HO0 := hid (show Own wm w.heap.size (.slice (some ⟨w.heap.size, 0, none⟩) 0 T) [] from hown0)
  have HB0 := hid (Below.grown (Below.refl w.heap.size w) hgrow0 (Nat.le_refl _) (fun q hq => by cases hq))
  have HC := hid hc
  have HFL := hid (fun k => flat_le (P := P) k)
  clear hown0 hgrow0 hc hT
  go_enter Try.func60, Try.ntmps60
  go_wp2_with fail
  go_loop [3, 5, 11] (fun lv _ i => ∃ k : Nat, k ≤ P.length ∧ i = .int .i64 k ∧ lv = .int .i64 ((P.take k).flatten.length : Nat)) (fun _ _ i => P.length - (intOf i).toNat)
  case atStart => exact ⟨0, Nat.zero_le _, rfl, rfl⟩
  case round =>
    obtain ⟨k, hk, rfl, rfl⟩ := hrel
    by_cases hlt : k < P.length
    · obtain ⟨z, hz, hsit⟩ := HC.out k hlt
      obtain ⟨l, hl⟩ : ∃ l, l = P[k] := ⟨_, rfl⟩
      have HN := hid (show (P.take (k + 1)).flatten.length = (P.take k).flatten.length + l.length by rw [flat_succ hlt, List.length_append, hl])
      have hle := HFL.out (k + 1)
      rw [HN.out, ← HT.out] at hle
      rw [← hl] at hsit
      obtain ⟨bz, oz, cz, rfl, _, _, _, _⟩ := hsit
      obtain ⟨S, hS⟩ : ∃ S, S = (P.take k).flatten.length := ⟨_, rfl⟩
      rw [← hS] at HN hle ⊢
      clear hl hS
      go_wp2_with fail
      go_round
      case rel => exact ⟨k + 1, by omega, by go_num, by rw [HN.out]; go_num⟩
      case measure => simp [intOf]; omega
    · obtain rfl : k = P.length := by omega
      rw [List.take_length, ← HT.out]
      go_wp2_with fail
      clear hrun
      go_loopw [6, 8, 24] (fun ov _ i wr => ∃ k : Nat, k ≤ P.length ∧ i = .int .i64 k ∧ ov = .slice (some ⟨w.heap.size, 0, none⟩) (P.take k).flatten.length T ∧ Own wr w.heap.size (.slice (some ⟨w.heap.size, 0, none⟩) (P.take k).flatten.length T) (P.take k).flatten ∧ Below w.heap.size w wr) (fun _ _ i _ => P.length - (intOf i).toNat)
      case atStart => exact ⟨0, Nat.zero_le _, rfl, rfl, HO0.out, HB0.out⟩
      case round =>
        obtain ⟨k, hk, rfl, rfl, hown, hbel⟩ := hrel
        have HO := hid hown
        have HB := hid hbel
        have hsz := hbel.size
        by_cases hlt : k < P.length
        · obtain ⟨z, hz, hsit⟩ := HC.out k hlt
          have hcx : wr.cell? ⟨g, off + k, none⟩ = some z := (hbel.cell (by exact hg)).trans hz
          have hsit := hsit.below hbel
          obtain ⟨l, hl⟩ : ∃ l, l = P[k] := ⟨_, rfl⟩
          have HN := hid (show (P.take (k + 1)).flatten = (P.take k).flatten ++ l by rw [flat_succ hlt, hl])
          have HNL := hid (show (P.take (k + 1)).flatten.length = (P.take k).flatten.length + l.length by rw [flat_succ hlt, List.length_append, hl])
          have hle := HFL.out (k + 1)
          rw [HNL.out, ← HT.out] at hle
          rw [← hl] at hsit
          obtain ⟨bz, oz, cz, rfl, hz1', hz2', hz3', hzc⟩ := hsit
          obtain ⟨S, hS⟩ : ∃ S, S = (P.take k).flatten := ⟨_, rfl⟩
          rw [← hS] at HO HN HNL hle ⊢
          have HSRC := hid (show ∀ (j : Nat) (u : Value), (l.map (Value.int .i64))[j]? = some u → wr.cell? ((⟨bz, oz, none⟩ : Addr).add j) = some u from Sits.src (n := 0) (c := 0) hzc)
          clear hl hS hz hown hbel hzc
          go_wp2_with (first
            | (at_builtin; refine wpList_append_own_spare _ rfl _ _ 22 rfl w.heap.size 3 i0 1 Try.underlying22 hi hz1 w.heap.size S.length T _ rfl HO.out.row ⟨bz, oz, none⟩ l.length cz (l.map (Value.int .i64)) rfl (by simp) HSRC.out (ints_one l) (by omega) ?_; intro w1 hown1 hgrow1; have HO1 := hid (show Own w1 w.heap.size (.slice (some ⟨w.heap.size, 0, none⟩) (S.length + l.length) T) (S ++ l) by unfold Own; rw [List.length_append, List.map_append]; exact hown1); have HB1 := hid (HB.out.grown hgrow1 hsz (fun q hq => by cases hq; exact Nat.le_refl _)); clear hown1 hgrow1)
            | fail)
          go_roundw
          case rel => exact ⟨k + 1, by omega, by go_num, by rw [HNL.out], by rw [HNL.out, HN.out]; exact HO1.out, HB1.out⟩
          case measure => simp [intOf]; omega
        · obtain rfl : k = P.length := by omega
          rw [List.take_length, ← HT.out] at HO ⊢
          clear hown hbel
          go_wp2_with fail
          go_ret
          exact ⟨rfl, HO.out, HB.out⟩
theorem joined_is (v : Value) (P : List (List Int)) (F : List Int) (n : Nat) (w : World) (h : SitsL w v P) (hp : P.length ≤ 1048576) (hF : P.flatten = F) (hn : F.length = n) (ht : n ≤ 1048576) :
    Calls Try.prog 60 #[v] w fun e w' => e = .returned (.slice (some ⟨w.heap.size, 0, none⟩) n n) ∧ Own w' w.heap.size (.slice (some ⟨w.heap.size, 0, none⟩) n n) F ∧ Below w.heap.size w w' := by
  subst hF hn
  exact joined_any v P w h hp ht
end Go.Proofs.Yteimfdpkodcfbaa
