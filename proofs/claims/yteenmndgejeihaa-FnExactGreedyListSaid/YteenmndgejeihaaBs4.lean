/- Facts and contracts (RowsL, SSL, SS, SS2, SS3, PreL, Fill, RowsIn, MoveS, MoveL, MovesIn), merged. Conditions: as told at each. -/
import Derived.Test.YteenmndgejeihaaBs1
import Derived.Deep.Matrix
import Derived.Test.YteenmndgejeihaaBs2
import Derived.Deep.RegionHeld3
import Derived.Test.YteenmndgejeihaaBs3
import Derived.Deep.OwnRows
import Derived.Lib.LazyBuf
import Derived.Handy
import Derived.Lib.SmallJoins

/- Slices of slices of ints that came in, as lists of lists; contracts: szIntS, szIntSS. Conditions: the slices read as lists (of lists). -/
namespace Go.Proofs.Yteenmndgejeihaa
open Go.RowKit
set_option linter.unusedVariables false

/-- v is a slice whose elements are slices that read as the lists of L; they may share memory. -/
def ReadsL (w : World) (v : Value) (L : List (List Int)) : Prop :=
  ∃ ao c, v = .slice ao L.length c ∧ L.length ≤ c ∧ c ≤ maxLen ∧
    (L = [] ∨ ∃ b off, ao = some ⟨b, off, none⟩ ∧ b < w.heap.size ∧ ∀ i (hi : i < L.length), ∃ u, w.cell? ⟨b, off + i, none⟩ = some u ∧ Reads w u L[i])
theorem ReadsL.below {w w' : World} {v : Value} {L : List (List Int)} (h : ReadsL w v L) (hb : Below w.heap.size w w') : ReadsL w' v L := by
  obtain ⟨ao, c, rfl, h1, h2, h⟩ := h
  refine ⟨ao, c, rfl, h1, h2, ?_⟩
  rcases h with h | ⟨b, off, rfl, h3, h4⟩
  · exact .inl h
  · refine .inr ⟨b, off, rfl, Nat.lt_of_lt_of_le h3 hb.size, fun i hi => ?_⟩
    obtain ⟨u, hu, hr⟩ := h4 i hi
    exact ⟨u, (hb.cell (by exact h3)).trans hu, hr.below hb⟩
theorem szIntS_any (v : Value) (xs : List Int) (m : Int) (w : World) (h : Reads w v xs) (h0 : 0 ≤ m) (h1 : m ≤ 1073741824) :
    Calls Try.prog 86 #[v, .int .i64 m] w fun e w' => e = .returned (.int .i64 (if (xs.length : Int) ≤ m then m - xs.length else -1)) ∧ w = w' := by
  obtain ⟨ao, c, rfl, hc1, hm, h⟩ := h.view
  clear h
  by_cases hle : (xs.length : Int) ≤ m
  · have HE := hid (show (if (xs.length : Int) ≤ m then m - xs.length else -1) = m - xs.length from if_pos hle)
    go_enter Try.func86, Try.ntmps86
    go_wp2
    go_ret
    exact ⟨rfl, rfl⟩
  · have HE := hid (show (if (xs.length : Int) ≤ m then m - xs.length else -1) = -1 from if_neg hle)
    go_enter Try.func86, Try.ntmps86
    go_wp2
    go_ret
    exact ⟨rfl, rfl⟩
theorem szIntSS_any (v : Value) (L : List (List Int)) (m : Int) (w : World) (h : ReadsL w v L) (h0 : 0 ≤ m) (h1 : m ≤ 1073741824) :
    Calls Try.prog 37 #[v, .int .i64 m] w fun e w' => ∃ q : Int, e = .returned (.int .i64 q) ∧ w = w' ∧ q ≤ m ∧ (0 ≤ q → (L.length : Int) ≤ m ∧ ∀ i (hi : i < L.length), (L[i].length : Int) ≤ m) := by
  obtain ⟨ao, c, rfl, hc1, hm, h⟩ := h
  unfold maxLen at hm
  by_cases hle : (L.length : Int) ≤ m
  · rcases h with h | ⟨b, off, rfl, hb, hc⟩
    · subst h
      go_enter Try.func37, Try.ntmps37
      go_wp2
      refine wp_loop_rounds 1 ?_
      rw [rounds_succ]
      go_wp2
      go_ret
      exact ⟨_, rfl, rfl, by simp, fun _ => ⟨hle, fun i hi => absurd hi (by simp)⟩⟩
    · have HC := hid hc
      clear hc
      go_enter Try.func37, Try.ntmps37
      go_wp2_with fail
      go_loop [1, 5] (fun q i => ∃ (t : Nat) (p : Int), t ≤ L.length ∧ i = .int .i64 t ∧ q = .int .i64 p ∧ 0 ≤ p ∧ p ≤ m ∧ ∀ j (hj : j < L.length), j < t → (L[j].length : Int) ≤ m) (fun _ i => L.length - (intOf i).toNat)
      case atStart => exact ⟨0, m - L.length, Nat.zero_le _, rfl, by first | rfl | go_num, by omega, by omega, fun j _ hj => absurd hj (by omega)⟩
      case round =>
        obtain ⟨t, p, ht, rfl, rfl, hp0, hpm, hall⟩ := hrel
        have HALL := hid hall
        clear hall
        by_cases hlt : t < L.length
        · obtain ⟨z, hz, hread⟩ := HC.out t hlt
          obtain ⟨l, hl⟩ : ∃ l, l = L[t] := ⟨_, rfl⟩
          have HL := hid hl
          rw [← hl] at hread
          have HR := hid hread
          have hp1 : p ≤ 1073741824 := by omega
          clear hread hl
          by_cases hl2 : (l.length : Int) ≤ p
          · have HE := hid (show (if (l.length : Int) ≤ p then p - l.length else -1) = p - l.length from if_pos hl2)
            go_wp2_with (first | (go_at_call 86; refine (szIntS_any _ l p _ HR.out hp0 hp1).mono ?_; rintro e w1 ⟨rfl, rfl⟩; rw [HE.out]) | fail)
            go_round
            case rel => exact ⟨t + 1, p - l.length, by omega, by go_num, rfl, by omega, by omega, fun j hj hjt => by
              by_cases hjj : j < t
              · exact HALL.out j hj hjj
              · have : j = t := by omega
                subst this
                rw [← HL.out]; omega⟩
            case measure => simp [intOf]; omega
          · have HE := hid (show (if (l.length : Int) ≤ p then p - l.length else -1) = -1 from if_neg hl2)
            go_wp2_with (first | (go_at_call 86; refine (szIntS_any _ l p _ HR.out hp0 hp1).mono ?_; rintro e w1 ⟨rfl, rfl⟩; rw [HE.out]) | fail)
            go_ret
            exact ⟨_, rfl, rfl, by omega, fun h => absurd h (by decide)⟩
        · have htl : t = L.length := by omega
          go_wp2_with fail
          go_ret
          exact ⟨_, rfl, rfl, hpm, fun _ => by first | exact ⟨hle, fun i hi => HALL.out i hi (by omega)⟩ | exact fun i hi => HALL.out i hi (by omega)⟩
  · clear h
    go_enter Try.func37, Try.ntmps37
    go_wp2
    go_ret
    exact ⟨_, rfl, rfl, by omega, fun h => absurd h (by decide)⟩
end Go.Proofs.Yteenmndgejeihaa

/- Contract: toIntSS; slices of slices that are not nil and whose rows are not. Conditions: the slice reads as a list of at most 2^20 lists of at most 2^20 numbers. -/
namespace Go.Proofs.Yteenmndgejeihaa
open Go.RowKit
set_option linter.unusedVariables false
set_option maxRecDepth 4000

/-- v is a slice that is not nil of slices that are not nil, and reads as L. -/
def SitsL (w : World) (v : Value) (L : List (List Int)) : Prop :=
  ∃ b off c, v = .slice (some ⟨b, off, none⟩) L.length c ∧ L.length ≤ c ∧ c ≤ 9223372036854775807 ∧ b < w.heap.size ∧ ∀ i (hi : i < L.length), ∃ u, w.cell? ⟨b, off + i, none⟩ = some u ∧ Sits w u L[i]
theorem SitsL.below {w w' : World} {v : Value} {L : List (List Int)} (h : SitsL w v L) (hb : Below w.heap.size w w') : SitsL w' v L := by
  obtain ⟨b, off, c, rfl, h1, h2, h3, h4⟩ := h
  refine ⟨b, off, c, rfl, h1, h2, Nat.lt_of_lt_of_le h3 hb.size, fun i hi => ?_⟩
  obtain ⟨u, hu, hs⟩ := h4 i hi
  exact ⟨u, (hb.cell (by exact h3)).trans hu, hs.below hb⟩
/-- A made row is an owned one. -/
theorem ownsRow_of_rowIs {w : World} {g n : Nat} {T : TypeId} {f : Nat → Value} (h : w.rowIs g T n f) (hm : n ≤ maxLen) : w.ownsRow g T 1 (.slice (some ⟨g, 0, none⟩) n n) n ((List.range n).map f) := by
  obtain ⟨c, hc, hs, hf⟩ := h
  refine ⟨by simp, .inr ⟨g, n, c, rfl, Nat.le_refl _, hc, by omega, hm, by omega, ?_⟩⟩
  apply List.ext_getElem?
  intro i
  by_cases hi : i < n
  · have := hf i hi
    simp [hi] at this ⊢
    exact this
  · rw [List.getElem?_eq_none (by simp; omega), List.getElem?_eq_none (by simp; omega)]
theorem rowIs_below {w w' : World} {B g n : Nat} {T : TypeId} {f : Nat → Value} (h : w.rowIs g T n f) (hb : Below B w w') (hg : g < B) : w'.rowIs g T n f := h.of_block (hb.block g hg)
theorem grownBy_setCellAt (W : World) (b k : Nat) (v : Value) : W.grownBy (W.setCell ⟨b, k, none⟩ v) (some b) :=
  ⟨rfl, rfl, rfl, by simp, fun i _ hne => Below.heap_setCell _ _ _ i (fun e => hne (by rw [e]))⟩
/-- the first k rows are copied, into blocks behind g -/
def Copied (w : World) (g : Nat) (U : Nat → Value) (L : List (List Int)) (k : Nat) : Prop :=
  ∀ i (hi : i < L.length), i < k → ∃ h, U i = .slice (some ⟨h, 0, none⟩) L[i].length L[i].length ∧ g < h ∧ Own w g (U i) L[i]
theorem Copied.below {w w' : World} {g k : Nat} {U : Nat → Value} {L : List (List Int)} (h : Copied w g U L k) (hb : Below w.heap.size w w') : Copied w' g U L k := by
  intro i hi hk
  obtain ⟨q, h1, h2, h3⟩ := h i hi hk
  exact ⟨q, h1, h2, h3.below hb⟩
theorem Copied.kept {w w' : World} {g k : Nat} {U : Nat → Value} {L : List (List Int)} (h : Copied w g U L k) (hb : w.grownBy w' (some g)) : Copied w' g U L k := by
  intro i hi hk
  obtain ⟨q, h1, h2, h3⟩ := h i hi hk
  refine ⟨q, h1, h2, h3.kept hb (.inr ?_)⟩
  rw [h1]
  simp only [Value.ownBlock, ne_eq, Option.some.injEq]
  omega
theorem Copied.step {w : World} {g k q : Nat} {U : Nat → Value} {L : List (List Int)} (h : Copied w g U L k) (hk : k < L.length) (hq : g < q) (ho : Own w g (.slice (some ⟨q, 0, none⟩) L[k].length L[k].length) L[k]) :
    Copied w g (fun j => if j = k then .slice (some ⟨q, 0, none⟩) L[k].length L[k].length else U j) L (k + 1) := by
  intro i hi hk1
  by_cases e : i = k
  · subst e
    exact ⟨q, by simp, hq, by simpa using ho⟩
  · obtain ⟨q', h1, h2, h3⟩ := h i hi (by omega)
    exact ⟨q', by simp [e, h1], h2, by simpa [e] using h3⟩
/-- what toIntSS hands back -/
def Rows2 (w : World) (g : Nat) (v : Value) (L : List (List Int)) : Prop := Lists w g v L ∧ SitsL w v L
theorem Rows2.below {w w' : World} {g : Nat} {v : Value} {L : List (List Int)} (h : Rows2 w g v L) (hb : Below w.heap.size w w') : Rows2 w' g v L := ⟨h.1.below hb, h.2.below hb⟩
theorem Rows2.of {w : World} {g : Nat} {U : Nat → Value} {L : List (List Int)} (h : Copied w g U L L.length) (hr : w.rowIs g 22 L.length U) (hm : L.length ≤ 1048576) : Rows2 w g (.slice (some ⟨g, 0, none⟩) L.length L.length) L := by
  refine ⟨⟨(List.range L.length).map U, by simp, ownsRow_of_rowIs hr (by unfold maxLen; omega), fun i h1 h2 => ?_⟩, g, 0, L.length, rfl, Nat.le_refl _, by omega, hr.lt, fun i hi => ?_⟩
  · obtain ⟨q, _, _, h3⟩ := h i h1 h1
    simpa using h3
  · obtain ⟨q, h1, _, h3⟩ := h i hi hi
    refine ⟨U i, by rw [Nat.zero_add]; exact hr.cell hi, ?_⟩
    rw [h1] at h3 ⊢
    exact h3.sits
theorem run_make_intss (n : Nat) (hn : n ≤ 1048576) (w : World) : Sem.run Try.prog (Instr.makeSlice 45 (.int .i64 n) (.int .i64 n)) w = .ok (.slice (some ⟨w.heap.size, 0, none⟩) n n) (w.alloc (.cells (madeCells #[.slice none 0 0] n) 22)) :=
  run_make_row' 45 22 (.slice none 0 0) 24 Try.underlying45 Try.infoL rfl .i64 .i64 n (by omega) (by omega) w
theorem toIntSS_any (v : Value) (L : List (List Int)) (w : World) (h : ReadsL w v L) (hl : L.length ≤ 1048576) (hl2 : ∀ i (hi : i < L.length), L[i].length ≤ 1048576) :
    Calls Try.prog 40 #[v] w fun e w' => e = .returned (.slice (some ⟨w.heap.size, 0, none⟩) L.length L.length) ∧ Rows2 w' w.heap.size (.slice (some ⟨w.heap.size, 0, none⟩) L.length L.length) L ∧ Below w.heap.size w w' := by
  obtain ⟨ao, c, rfl, hc1, hm, h⟩ := h
  unfold maxLen at hm
  have hmk := run_make_intss L.length hl w
  have hr0 := World.rowIs_made w (.slice none 0 0) L.length 22
  have hB0 : Below w.heap.size w (w.alloc (.cells (madeCells #[.slice none 0 0] L.length) 22)) := (Below.refl _ _).alloc (Nat.le_refl _) _
  have hS0 : w.heap.size < (w.alloc (.cells (madeCells #[.slice none 0 0] L.length) 22)).heap.size := by simp
  obtain ⟨wm, hwm⟩ : ∃ wm, wm = w.alloc (.cells (madeCells #[.slice none 0 0] L.length) 22) := ⟨_, rfl⟩
  rw [← hwm] at hmk hr0 hB0 hS0
  clear hwm
  have HL2 := hid hl2
  have HR0 := hid hr0
  have HB0 := hid hB0
  clear hl2 hr0 hB0
  rcases h with h | ⟨b, off, rfl, hb, hc⟩
  · have H := hid h
    clear h
    go_enter Try.func40, Try.ntmps40
    go_wp2_with fail
    go_loopw [4] (fun i wr => i = .int .i64 0 ∧ wr = wm) (fun i _ => L.length - (intOf i).toNat)
    case atStart => exact ⟨rfl, rfl⟩
    case round =>
      obtain ⟨rfl, rfl⟩ := hrel
      have hlt : ¬ (0 : Int) < (L.length : Int) := by rw [H.out]; simp
      go_wp2_with fail
      go_ret
      exact ⟨rfl, Rows2.of (U := fun _ => .slice none 0 0) (fun i hi => absurd hi (by rw [H.out]; simp)) HR0.out hl, HB0.out⟩
  · have HC := hid hc
    clear hc
    go_enter Try.func40, Try.ntmps40
    go_wp2_with fail
    go_loopw [4] (fun i wr => ∃ k : Nat, k ≤ L.length ∧ i = .int .i64 k ∧ (∃ U : Nat → Value, wr.rowIs w.heap.size 22 L.length U ∧ Copied wr w.heap.size U L k) ∧ Below w.heap.size w wr ∧ w.heap.size < wr.heap.size) (fun i _ => L.length - (intOf i).toNat)
    case atStart => exact ⟨0, Nat.zero_le _, rfl, ⟨_, HR0.out, fun i hi hk => absurd hk (by omega)⟩, HB0.out, hS0⟩
    case round =>
      obtain ⟨k, hk, rfl, ⟨U, hrow, hcop⟩, hbel, hsz⟩ := hrel
      by_cases hlt : k < L.length
      · obtain ⟨z, hz, hread⟩ := HC.out k hlt
        have hcx : wr.cell? ⟨b, off + k, none⟩ = some z := (hbel.cell (by exact hb)).trans hz
        have HRD := hid (hread.below hbel)
        obtain ⟨l, hll⟩ : ∃ l, l = L[k] := ⟨_, rfl⟩
        have hl2 := HL2.out k hlt
        rw [← hll] at HRD hl2
        have HLL := hid hll
        have HROW := hid hrow
        have HCOP := hid hcop
        have HB := hid hbel
        clear hread hz hrow hcop hbel hll
        go_wp2_with (first | (go_at_call 24; refine (toIntS_any _ l _ HRD.out hl2).mono ?_; rintro e w1 ⟨rfl, hown, hb1⟩; have HO := hid hown; have HB1 := hid hb1; clear hown hb1; have HR1 := hid (rowIs_below HROW.out HB1.out hsz); obtain ⟨zz, hcz⟩ : ∃ zz, w1.cell? ⟨w.heap.size, k, none⟩ = some zz := ⟨_, HR1.out.cell hlt⟩; have hfz := HR1.out.frozen k) | fail)
        have HG := hid (grownBy_setCellAt w1 w.heap.size k (.slice (some ⟨wr.heap.size, 0, none⟩) l.length l.length))
        have HR2 := hid (HR1.out.set k (.slice (some ⟨wr.heap.size, 0, none⟩) l.length l.length))
        have HC2 := hid (((HCOP.out.below HB1.out).kept HG.out).step (q := wr.heap.size) hlt hsz (by
          rw [← HLL.out]
          exact (HO.out.mono (by omega)).kept HG.out (.inr (by simp only [Value.ownBlock, ne_eq, Option.some.injEq]; omega))))
        have HBB := hid ((HB.out.trans (HB1.out.mono (by omega))).setCell (p := ⟨w.heap.size, k, none⟩) (Nat.le_refl _) (.slice (some ⟨wr.heap.size, 0, none⟩) l.length l.length))
        have hs1 := HB1.out.size
        go_roundw
        case rel => exact ⟨k + 1, by omega, by go_num, ⟨_, HR2.out, by rw [← HLL.out] at HC2; exact HC2.out⟩, HBB.out, by simp; omega⟩
        case measure => simp [intOf]; omega
      · obtain rfl : k = L.length := by omega
        have HROW := hid hrow
        have HCOP := hid hcop
        have HB := hid hbel
        clear hrow hcop hbel
        go_wp2_with fail
        go_ret
        exact ⟨rfl, Rows2.of HCOP.out HROW.out hl, HB.out⟩
end Go.Proofs.Yteenmndgejeihaa

/- Contracts: eqIntSS, heldIntSS. Conditions: the slices read as lists of lists. -/
namespace Go.Proofs.Yteenmndgejeihaa
open Go.RowKit
set_option linter.unusedVariables false

/-- how many numbers there are in the first k lists -/
def preLen (L : List (List Int)) : Nat → Nat
  | 0 => 0
  | k + 1 => preLen L k + (L.getD k []).length
theorem preLen_mono (L : List (List Int)) {a b : Nat} (h : a ≤ b) : preLen L a ≤ preLen L b := by
  induction b with
  | zero => rw [show a = 0 by omega]; exact Nat.le_refl _
  | succ b ih =>
    by_cases e : a = b + 1
    · rw [e]; exact Nat.le_refl _
    · have := ih (by omega)
      rw [preLen]; omega
/-- each number is marked, from m on -/
def Marked (m : Int) (L : List (List Int)) : Prop := ∀ i (h : i < L.length), L[i] = marks (m + preLen L i) L[i].length
theorem heldIntSS_any (v : Value) (L : List (List Int)) (base : Nat) (m : Int) (w : World) (h : Lists w base v L) (hx : Marked m L) (h0 : 0 ≤ m) (h1 : m ≤ 1073741824) (hl : preLen L L.length ≤ 1073741824) :
    Calls Try.prog 51 #[v, .int .i64 m] w fun e w' => e = .returned (.int .i64 (m + preLen L L.length)) ∧ w = w' := by
  rcases h.form with ⟨rfl, rfl⟩ | ⟨g, cap, rfl, _, hg, hc1, hm, hc⟩
  · go_enter Try.func51, Try.ntmps51
    go_wp2_with fail
    refine wp_loop_rounds 1 ?_
    rw [rounds_succ]
    go_wp2
    go_ret
    exact ⟨by simp [preLen], rfl⟩
  · have HC := hid hc
    have HX := hid hx
    clear hc h hx
    go_enter Try.func51, Try.ntmps51
    go_wp2_with fail
    go_loop [1, 5] (fun kv i => ∃ t : Nat, t ≤ L.length ∧ i = .int .i64 t ∧ kv = .int .i64 (m + preLen L t)) (fun _ i => L.length - (intOf i).toNat)
    case atStart => exact ⟨0, Nat.zero_le _, rfl, by simp [preLen]⟩
    case round =>
      obtain ⟨t, ht, rfl, rfl⟩ := hrel
      have hpm := preLen_mono L ht
      by_cases hlt : t < L.length
      · obtain ⟨z, hz, hown⟩ := HC.out t hlt
        have HZ := hid hown.reads
        have hpn := preLen_mono L (show t + 1 ≤ L.length from hlt)
        have HP := hid (show preLen L (t + 1) = preLen L t + L[t].length by rw [preLen]; simp [List.getD_eq_getElem?_getD, hlt])
        have HMK := hid (HX.out t hlt)
        rw [HP.out] at hpn
        obtain ⟨l, hll⟩ : ∃ l, l = L[t] := ⟨_, rfl⟩
        rw [← hll] at HZ HP HMK hpn
        obtain ⟨p, hp⟩ : ∃ p, p = preLen L t := ⟨_, rfl⟩
        rw [← hp] at HP HMK hpn hpm ⊢
        have h3 : 0 ≤ m + (p : Int) := by omega
        have h4 : m + (p : Int) ≤ 1099511627776 := by omega
        have h5 : l.length ≤ 1099511627776 := by omega
        clear hown hll hp
        go_wp2_with (first | (go_at_call 22; refine (heldIntS_any _ l _ _ HZ.out HMK.out h3 h4 h5).mono ?_; rintro e w1 ⟨rfl, rfl⟩) | fail)
        go_round
        case rel => exact ⟨t + 1, by omega, by go_num, by rw [HP.out]; go_num⟩
        case measure => simp [intOf]; omega
      · obtain rfl : t = L.length := by omega
        go_wp2_with fail
        go_ret
        exact ⟨rfl, rfl⟩
end Go.Proofs.Yteenmndgejeihaa

/- Contract: markIntSS. Conditions: the slice reads as a list of lists, its rows owned and apart from each other. -/
namespace Go.Proofs.Yteenmndgejeihaa
open Go.RowKit
set_option linter.unusedVariables false

/-- v is a slice of slices, its own row from block base on, whose elements are owned slices, no two of them on one block, that read as L. -/
def ListsA (w : World) (base : Nat) (v : Value) (L : List (List Int)) : Prop :=
  ∃ vs : List Value, vs.length = L.length ∧ w.ownsRow base 22 1 v L.length vs ∧ (∀ i (h1 : i < L.length) (h2 : i < vs.length), Own w base vs[i] L[i]) ∧
    ∀ i j (h1 : i < vs.length) (h2 : j < vs.length) (g : Nat), i ≠ j → vs[i].ownBlock = some g → vs[j].ownBlock ≠ some g
theorem ListsA.lists {w : World} {base : Nat} {v : Value} {L : List (List Int)} (h : ListsA w base v L) : Lists w base v L := by
  obtain ⟨vs, h1, h2, h3, _⟩ := h
  exact ⟨vs, h1, h2, h3⟩
theorem ListsA.below {w w' : World} {base : Nat} {v : Value} {L : List (List Int)} (h : ListsA w base v L) (hb : Below w.heap.size w w') : ListsA w' base v L := by
  obtain ⟨vs, h1, h2, h3, h4⟩ := h
  exact ⟨vs, h1, ownsRow_below h2 hb, fun i a b => (h3 i a b).below hb, h4⟩
theorem ListsA.mono {w : World} {base base' : Nat} {v : Value} {L : List (List Int)} (h : ListsA w base v L) (hb : base' ≤ base) : ListsA w base' v L := by
  obtain ⟨vs, h1, h2, h3, h4⟩ := h
  exact ⟨vs, h1, ownsRow_mono h2 hb, fun i a b => (h3 i a b).mono hb, h4⟩
theorem row_kept_int {w w' : World} {base b0 : Nat} {x v : Value} {n : Nat} {vs : List Value} {xs : List Int} {T : TypeId} (hv : w.ownsRow b0 T 1 v n vs) (hT : T ≠ 3) (h : Own w base x xs) (hg : w.grownBy w' x.ownBlock) : w'.ownsRow b0 T 1 v n vs := by
  refine World.ownsRow.kept hv hg ?_
  rcases hv.2 with ⟨rfl, _⟩ | ⟨g', cap', cur', rfl, _, hgg', _⟩
  · exact .inl rfl
  · right
    rcases h.2 with ⟨rfl, _⟩ | ⟨g, cap, cur, rfl, _, hgg, _⟩
    · simp [Value.ownBlock]
    · simp only [Value.ownBlock, ne_eq, Option.some.injEq]
      intro e
      rw [e, hgg] at hgg'
      simp at hgg'
      exact hT hgg'.2.symm
theorem ListsA.mark {w w' : World} {base : Nat} {v : Value} {L : List (List Int)} {vs : List Value} {t : Nat} {ys : List Int} (h1 : vs.length = L.length) (h2 : w.ownsRow base 22 1 v L.length vs)
    (h3 : ∀ i (h1 : i < L.length) (h2 : i < vs.length), Own w base vs[i] L[i]) (h4 : ∀ i j (h1 : i < vs.length) (h2 : j < vs.length) (g : Nat), i ≠ j → vs[i].ownBlock = some g → vs[j].ownBlock ≠ some g)
    (ht : t < vs.length) (hu : Own w' base vs[t] ys) (hg : w.grownBy w' vs[t].ownBlock) : ListsA w' base v (L.set t ys) := by
  have htl : t < L.length := by omega
  refine ⟨vs, by simp [h1], by rw [List.length_set]; exact row_kept_int h2 (by decide) (h3 t htl ht) hg, fun i a b => ?_, h4⟩
  rw [List.length_set] at a
  by_cases e : t = i
  · subst e
    simpa using hu
  · rw [List.getElem_set_ne e]
    refine Own.kept (h3 i a b) hg ?_
    rcases (h3 i a b).form with ⟨hn, _⟩ | ⟨g, cap, hs, _⟩
    · exact .inl (by rw [hn]; rfl)
    · right
      intro e2
      have e3 : vs[i].ownBlock = some g := by rw [hs]; rfl
      exact h4 i t b ht g (fun e => by omega) e3 (by rw [← e2, e3])
theorem markIntSS_any (v : Value) (L : List (List Int)) (base : Nat) (m : Int) (w : World) (h : ListsA w base v L) (h0 : 0 ≤ m) (h1 : m ≤ 1073741824) (hl : preLen L L.length ≤ 1073741824) :
    Calls Try.prog 47 #[v, .int .i64 m] w fun e w' => e = .returned (.int .i64 (m + preLen L L.length)) ∧ ∃ M : List (List Int), ListsA w' base v M ∧ M.length = L.length ∧ (∀ i (a : i < M.length) (b : i < L.length), M[i] = marks (m + preLen L i) L[i].length) ∧ Below base w w' ∧ w.heap.size ≤ w'.heap.size := by
  have HL := hid h
  rcases h.lists.form with ⟨rfl, rfl⟩ | ⟨g, cap, rfl, hbg, hg, hc1, hm, hc⟩
  · go_enter Try.func47, Try.ntmps47
    go_wp2_with fail
    refine wp_loop_rounds 1 ?_
    rw [rounds_succ]
    go_wp2
    go_ret
    exact ⟨by simp [preLen], [], HL.out, rfl, fun i a => by simp at a, Below.refl _ _, Nat.le_refl _⟩
  · clear hc h
    go_enter Try.func47, Try.ntmps47
    go_wp2_with fail
    go_loopw [1, 5] (fun kv i wr => ∃ t : Nat, t ≤ L.length ∧ i = .int .i64 t ∧ kv = .int .i64 (m + preLen L t) ∧ (∃ M : List (List Int), ListsA wr base (.slice (some ⟨g, 0, none⟩) L.length cap) M ∧ M.length = L.length ∧ (∀ i (a : i < M.length) (b : i < L.length), M[i].length = L[i].length ∧ (i < t → M[i] = marks (m + preLen L i) L[i].length))) ∧ Below base w wr ∧ w.heap.size ≤ wr.heap.size) (fun _ i _ => L.length - (intOf i).toNat)
    case atStart => exact ⟨0, Nat.zero_le _, rfl, by simp [preLen], ⟨L, HL.out, rfl, fun i a b => ⟨rfl, fun h => by omega⟩⟩, Below.refl _ _, Nat.le_refl _⟩
    case round =>
      obtain ⟨t, ht, rfl, rfl, ⟨M, hM, hMl, hMe⟩, hbel, hsz⟩ := hrel
      have HM := hid hM
      have HB := hid hbel
      have HME := hid hMe
      have hpm := preLen_mono L ht
      clear hM hbel hMe
      by_cases hlt : t < L.length
      · obtain ⟨vs, v1, v2, v3, v4⟩ := HM.out
        have htM : t < M.length := by omega
        have htv : t < vs.length := by omega
        have hcz : wr.cell? ⟨g, t, none⟩ = some vs[t] := by
          have v2' := v2
          rw [hMl] at v2'
          have := World.ownsRow.cellAt v2' t (by omega)
          rw [this, List.getElem?_eq_getElem htv]
        have HO := hid (v3 t htM htv)
        obtain ⟨l, hll⟩ : ∃ l, l = M[t] := ⟨_, rfl⟩
        have hle : l.length = L[t].length := by rw [hll]; exact (HME.out t htM hlt).1
        have hpn := preLen_mono L (show t + 1 ≤ L.length from hlt)
        have HP := hid (show preLen L (t + 1) = preLen L t + l.length by rw [preLen, hle]; simp [List.getD_eq_getElem?_getD, hlt])
        rw [HP.out] at hpn
        rw [← hll] at HO
        have HLE := hid hle
        have HV1 := hid v1
        have HV2 := hid v2
        have HV3 := hid v3
        have HV4 := hid v4
        obtain ⟨p, hp⟩ : ∃ p, p = preLen L t := ⟨_, rfl⟩
        rw [← hp] at HP hpn hpm ⊢
        have HPP := hid hp
        obtain ⟨z, hz⟩ : ∃ z, z = vs[t] := ⟨_, rfl⟩
        rw [← hz] at hcz HO
        have HZ := hid hz
        have h3 : 0 ≤ m + (p : Int) := by omega
        have h4 : m + (p : Int) ≤ 1099511627776 := by omega
        have h5 : l.length ≤ 1099511627776 := by omega
        clear hll hle v1 v2 v3 v4 hp hz
        go_wp2_with (first | (go_at_call 21; refine (markIntS_any _ l base _ _ HO.out h3 h4 h5).mono ?_; rintro e w1 ⟨rfl, hown, hgr⟩; have HOW := hid hown; have HGR := hid hgr; clear hown hgr) | fail)
        have HN := hid (ListsA.mark HV1.out HV2.out HV3.out HV4.out htv (by rw [← HZ.out]; exact HOW.out) (by rw [← HZ.out]; exact HGR.out))
        have HBN := hid (HB.out.grown HGR.out (by omega) (fun q hq => (World.ownsRow.lt HO.out.row q hq).1))
        have HSN := hid (Nat.le_trans hsz HGR.out.size)
        have HEN := hid (show ∀ i (a : i < (M.set t (marks (m + p) l.length)).length) (b : i < L.length), (M.set t (marks (m + p) l.length))[i].length = L[i].length ∧ (i < t + 1 → (M.set t (marks (m + p) l.length))[i] = marks (m + preLen L i) L[i].length) from fun i a b => by
          by_cases e : t = i
          · subst e
            rw [List.getElem_set_self, marks_length, ← HLE.out, ← HPP.out]
            exact ⟨rfl, fun _ => rfl⟩
          · rw [List.getElem_set_ne e]
            have := HME.out i (by simpa using a) b
            exact ⟨this.1, fun h => this.2 (by omega)⟩)
        go_roundw
        case rel => exact ⟨t + 1, by omega, by go_num, by rw [HP.out]; go_num, ⟨_, HN.out, by simp [hMl], HEN.out⟩, HBN.out, HSN.out⟩
        case measure => simp [intOf]; omega
      · obtain rfl : t = L.length := by omega
        go_wp2_with fail
        go_ret
        exact ⟨rfl, M, HM.out, hMl, fun i a b => (HME.out i a b).2 b, HB.out, hsz⟩
end Go.Proofs.Yteenmndgejeihaa

/- Contract: eqIntSS of two lists that are the same. Conditions: the slices read as lists of lists. -/
namespace Go.Proofs.Yteenmndgejeihaa
open Go.RowKit
set_option linter.unusedVariables false

theorem eqIntSS_any (v u : Value) (L : List (List Int)) (B1 B2 : Nat) (w : World) (h : Lists w B1 v L) (h' : Lists w B2 u L) :
    Calls Try.prog 43 #[v, u] w fun e w' => e = .returned (.bool true) ∧ Below w.heap.size w w' := by
  rcases h.form with ⟨rfl, rfl⟩ | ⟨g, cap, rfl, _, hg, hc1, hm, hc⟩
  · rcases h'.form with ⟨rfl, _⟩ | ⟨g', cap', rfl, _, hg', hc1', hm', hc'⟩
    all_goals
      go_enter Try.func43, Try.ntmps43
      go_wp2_with fail
      refine wp_loop_rounds 1 ?_
      rw [rounds_succ]
      go_wp2
      go_ret
      exact ⟨rfl, Below.refl _ _⟩
  · rcases h'.form with ⟨rfl, rfl⟩ | ⟨g', cap', rfl, _, hg', hc1', hm', hc'⟩
    · go_enter Try.func43, Try.ntmps43
      go_wp2_with fail
      refine wp_loop_rounds 1 ?_
      rw [rounds_succ]
      go_wp2
      go_ret
      exact ⟨rfl, Below.refl _ _⟩
    · have HC := hid hc
      have HC' := hid hc'
      clear hc hc' h h'
      go_enter Try.func43, Try.ntmps43
      go_wp2_with fail
      go_loopw [5] (fun i wr => ∃ t : Nat, t ≤ L.length ∧ i = .int .i64 t ∧ Below w.heap.size w wr) (fun i _ => L.length - (intOf i).toNat)
      case atStart => exact ⟨0, Nat.zero_le _, rfl, Below.refl _ _⟩
      case round =>
        obtain ⟨t, ht, rfl, hbel⟩ := hrel
        have HB := hid hbel
        by_cases hlt : t < L.length
        · obtain ⟨z, hz, hown⟩ := HC.out t hlt
          obtain ⟨z', hz', hown'⟩ := HC'.out t hlt
          have hcx : wr.cell? ⟨g, t, none⟩ = some z := (hbel.cell (by exact hg)).trans hz
          have hcx' : wr.cell? ⟨g', t, none⟩ = some z' := (hbel.cell (by exact hg')).trans hz'
          have HZ := hid (hown.reads.below hbel)
          have HZ' := hid (hown'.reads.below hbel)
          have HS := hid hbel.size
          have hgr : g < wr.heap.size := by have := hbel.size; omega
          have hgr' : g' < wr.heap.size := by have := hbel.size; omega
          obtain ⟨l, hl⟩ : ∃ l, l = L[t] := ⟨_, rfl⟩
          rw [← hl] at HZ HZ'
          have hd : decide (l = l) = true := by simp
          clear hz hz' hown hown' hbel hl
          go_wp2_with fail
          go_region_held3 (fun w' => w'.cell? ⟨g, t, none⟩ = some z ∧ w'.cell? ⟨g', t, none⟩ = some z')
            (first | exact ⟨hcx, hcx'⟩ | exact ⟨(HB1.out.cell (by exact hgr)).trans hcx, (HB1.out.cell (by exact hgr')).trans hcx'⟩ | go_keep | fail)
            (first
              | (go_at_call 20; refine (eqIntS_any _ _ l l _ ?_ ?_).mono ?_; (exact HZ.out.below (Below.refl _ _).drew); (exact HZ'.out.below (Below.refl _ _).drew); rintro e w1 ⟨rfl, hb1⟩; have HB1 := hid (Below_chain (Below.refl wr.heap.size wr).drew hb1); clear hb1; (try rw [hd]); (try simp only [decide_true]))
              | fail)
          all_goals
            go_wp2_with fail
            go_roundw
            case rel => exact ⟨t + 1, by omega, by go_num, Below_chain HB.out HB1.out⟩
            case measure => simp [intOf]; omega
        · obtain rfl : t = L.length := by omega
          go_wp2_with fail
          go_ret
          exact ⟨rfl, HB.out⟩
end Go.Proofs.Yteenmndgejeihaa

/- Plain facts on marks in a list of lists. No conditions. -/
namespace Go.Proofs.Yteenmndgejeihaa
open Go.RowKit
set_option linter.unusedVariables false

theorem preLen_same {L M : List (List Int)} (hl : M.length = L.length) (h : ∀ i (a : i < M.length) (b : i < L.length), M[i].length = L[i].length) : ∀ i, preLen M i = preLen L i
  | 0 => rfl
  | i + 1 => by
    rw [preLen, preLen, preLen_same hl h i]
    by_cases hi : i < L.length
    · have hi' : i < M.length := by omega
      have := h i hi' hi
      simp [List.getD_eq_getElem?_getD, hi, hi', this]
    · have hi' : ¬ i < M.length := by omega
      simp [List.getD_eq_getElem?_getD, hi, hi']
theorem preLen_le {L : List (List Int)} {c : Nat} (h : ∀ l ∈ L, l.length ≤ c) : ∀ i, preLen L i ≤ c * i
  | 0 => Nat.le_refl _
  | i + 1 => by
    have ih := preLen_le h i
    have hd : (L.getD i []).length ≤ c := by
      by_cases hi : i < L.length
      · simpa [List.getD_eq_getElem?_getD, hi] using h _ (List.getElem_mem hi)
      · simp [List.getD_eq_getElem?_getD, hi]
    rw [preLen, Nat.mul_succ]; omega
theorem marked_of {L M : List (List Int)} {m : Int} (hl : M.length = L.length) (h : ∀ i (a : i < M.length) (b : i < L.length), M[i] = marks (m + preLen L i) L[i].length) : Marked m M ∧ preLen M M.length = preLen L L.length := by
  have hs : ∀ i (a : i < M.length) (b : i < L.length), M[i].length = L[i].length := fun i a b => by rw [h i a b, marks_length]
  have hp := preLen_same hl hs
  refine ⟨fun i a => ?_, by rw [hp, hl]⟩
  rw [hp, hs i a (by omega)]
  exact h i a (by omega)
end Go.Proofs.Yteenmndgejeihaa

/- Rows that were filled one after the other, and contracts: szIntSS by the sum, toIntSS with rows apart, markIntSS that leaves later blocks alone. Conditions: the slices read as lists of lists. -/
namespace Go.Proofs.Yteenmndgejeihaa
open Go.RowKit
set_option linter.unusedVariables false
set_option maxRecDepth 4000

/-- the first k rows of M stand, in blocks behind g that rise -/
structure Filled (w : World) (g : Nat) (U : Nat → Value) (M : List (List Int)) (k : Nat) : Prop where
  own : ∀ i (hi : i < M.length), i < k → Own w (g + 1) (U i) M[i]
  up : ∀ i j, i < j → j < k → j < M.length → ∀ a b, (U i).ownBlock = some a → (U j).ownBlock = some b → a < b
theorem Filled.zero (w : World) (g : Nat) (U : Nat → Value) (M : List (List Int)) : Filled w g U M 0 := ⟨fun i hi h => absurd h (by omega), fun i j h h2 => absurd h2 (by omega)⟩
theorem Filled.below {w w' : World} {g k : Nat} {U : Nat → Value} {M : List (List Int)} (h : Filled w g U M k) (hb : Below w.heap.size w w') : Filled w' g U M k := ⟨fun i hi hk => (h.own i hi hk).below hb, h.up⟩
theorem Filled.kept {w w' : World} {g k : Nat} {U : Nat → Value} {M : List (List Int)} (h : Filled w g U M k) (hg : w.grownBy w' (some g)) : Filled w' g U M k :=
  ⟨fun i hi hk => (h.own i hi hk).kept hg (by
    rcases (h.own i hi hk).form with ⟨hn, _⟩ | ⟨q, cap, hq, hgq, _⟩
    · exact .inl (by rw [hn]; rfl)
    · refine .inr ?_
      rw [hq]
      simp only [Value.ownBlock, ne_eq, Option.some.injEq]
      omega), h.up⟩
theorem Filled.step {w0 w : World} {g k : Nat} {U : Nat → Value} {M : List (List Int)} {u : Value} (h0 : Filled w0 g U M k) (h : Filled w g U M k) (hk : k < M.length) (hu : Own w (g + 1) u M[k]) (hb : ∀ b, u.ownBlock = some b → w0.heap.size ≤ b) :
    Filled w g (fun j => if j = k then u else U j) M (k + 1) := by
  refine ⟨fun i hi hik => ?_, fun i j hij hj hjM a b ha hbb => ?_⟩
  · by_cases e : i = k
    · subst e
      simpa using hu
    · simpa [e] using h.own i hi (by omega)
  · rw [if_neg (by omega)] at ha
    by_cases e : j = k
    · rw [if_pos e] at hbb
      have h1 := hb b hbb
      have h2 := (World.ownsRow.lt (h0.own i (by omega) (by omega)) a ha).2
      omega
    · rw [if_neg e] at hbb
      exact h.up i j hij (by omega) hjM a b ha hbb
/-- a list of lists whose rows are apart, all of them below H -/
def ListsU (w : World) (base H : Nat) (v : Value) (L : List (List Int)) : Prop :=
  ∃ vs : List Value, vs.length = L.length ∧ w.ownsRow base 22 1 v L.length vs ∧ (∀ i (h1 : i < L.length) (h2 : i < vs.length), Own w base vs[i] L[i]) ∧
    (∀ i j (h1 : i < vs.length) (h2 : j < vs.length) (g : Nat), i ≠ j → vs[i].ownBlock = some g → vs[j].ownBlock ≠ some g) ∧ ∀ i (h1 : i < vs.length) (g : Nat), vs[i].ownBlock = some g → g < H
theorem ListsU.listsA {w : World} {base H : Nat} {v : Value} {L : List (List Int)} (h : ListsU w base H v L) : ListsA w base v L := by
  obtain ⟨vs, a, b, c, d, _⟩ := h
  exact ⟨vs, a, b, c, d⟩
theorem ListsU.below {w w' : World} {base H : Nat} {v : Value} {L : List (List Int)} (h : ListsU w base H v L) (hb : Below w.heap.size w w') : ListsU w' base H v L := by
  obtain ⟨vs, a, b, c, d, e⟩ := h
  exact ⟨vs, a, ownsRow_below b hb, fun i x y => (c i x y).below hb, d, e⟩
theorem Filled.listsU {w : World} {g n : Nat} {U : Nat → Value} {M : List (List Int)} (h : Filled w g U M n) (hr : w.rowIs g 22 n U) (hn : M.length = n) (hm : n ≤ maxLen) : ListsU w g w.heap.size (.slice (some ⟨g, 0, none⟩) n n) M := by
  subst hn
  have hg : ∀ i (hi : i < ((List.range M.length).map U).length), ((List.range M.length).map U)[i] = U i := fun i hi => by simp
  refine ⟨(List.range M.length).map U, by simp, ownsRow_of_rowIs hr hm, fun i h1 h2 => ?_, fun i j h1 h2 a hij ha hb => ?_, fun i h1 a ha => ?_⟩
  · rw [hg i h2]
    exact (h.own i h1 h1).mono (by omega)
  · rw [hg i h1] at ha
    rw [hg j h2] at hb
    have h1' : i < M.length := by simpa using h1
    have h2' : j < M.length := by simpa using h2
    rcases Nat.lt_or_gt_of_ne hij with h3 | h3
    · exact absurd (h.up i j h3 h2' h2' a a ha hb) (by omega)
    · exact absurd (h.up j i h3 h1' h1' a a hb ha) (by omega)
  · rw [hg i h1] at ha
    have h1' : i < M.length := by simpa using h1
    exact (World.ownsRow.lt (h.own i h1' h1') a ha).2
theorem Own.stay {w w' : World} {B : Nat} {v : Value} {xs : List Int} (h : Own w B v xs) (hk : ∀ k, B ≤ k → k < w.heap.size → w'.heap[k]? = w.heap[k]?) : Own w' B v xs := by
  have hlt := World.ownsRow.lt h
  refine ⟨h.1, ?_⟩
  rcases h.2 with hnil | ⟨g, cap, cur, rfl, hg, hgg, rest⟩
  · exact .inl hnil
  · have := hlt g rfl
    exact .inr ⟨g, cap, cur, rfl, hg, by rw [hk g this.1 this.2]; exact hgg, rest⟩
theorem ownsRow_stay {w w' : World} {B n : Nat} {T : TypeId} {v : Value} {vs : List Value} (h : w.ownsRow B T 1 v n vs) (hk : ∀ k, B ≤ k → k < w.heap.size → w'.heap[k]? = w.heap[k]?) : w'.ownsRow B T 1 v n vs := by
  have hlt := World.ownsRow.lt h
  refine ⟨h.1, ?_⟩
  rcases h.2 with hnil | ⟨g, cap, cur, rfl, hg, hgg, rest⟩
  · exact .inl hnil
  · have := hlt g rfl
    exact .inr ⟨g, cap, cur, rfl, hg, by rw [hk g this.1 this.2]; exact hgg, rest⟩
theorem ListsA.stay {w w' : World} {B : Nat} {v : Value} {L : List (List Int)} (h : ListsA w B v L) (hk : ∀ k, B ≤ k → k < w.heap.size → w'.heap[k]? = w.heap[k]?) : ListsA w' B v L := by
  obtain ⟨vs, a, b, c, d⟩ := h
  exact ⟨vs, a, ownsRow_stay b hk, fun i x y => (c i x y).stay hk, d⟩
theorem szIntSS_sum (v : Value) (L : List (List Int)) (m : Int) (w : World) (h : ReadsL w v L) (h0 : 0 ≤ m) (h1 : m ≤ 1073741824) :
    Calls Try.prog 37 #[v, .int .i64 m] w fun e w' => ∃ q : Int, e = .returned (.int .i64 q) ∧ w = w' ∧ q ≤ m ∧ (0 ≤ q → (L.length : Int) + (preLen L L.length : Int) ≤ m) := by
  obtain ⟨ao, c, rfl, hc1, hm, h⟩ := h
  unfold maxLen at hm
  by_cases hle : (L.length : Int) ≤ m
  · rcases h with h | ⟨b, off, rfl, hb, hc⟩
    · subst h
      go_enter Try.func37, Try.ntmps37
      go_wp2
      refine wp_loop_rounds 1 ?_
      rw [rounds_succ]
      go_wp2
      go_ret
      exact ⟨_, rfl, rfl, by simp, fun _ => by simp [preLen]; omega⟩
    · have HC := hid hc
      clear hc
      go_enter Try.func37, Try.ntmps37
      go_wp2_with fail
      go_loop [1, 5] (fun q i => ∃ (t : Nat) (p : Int), t ≤ L.length ∧ i = .int .i64 t ∧ q = .int .i64 p ∧ 0 ≤ p ∧ p = m - L.length - (preLen L t : Int)) (fun _ i => L.length - (intOf i).toNat)
      case atStart => exact ⟨0, m - L.length, Nat.zero_le _, rfl, by first | rfl | go_num, by omega, by simp [preLen]⟩
      case round =>
        obtain ⟨t, p, ht, rfl, rfl, hp0, hpm⟩ := hrel
        have HPM := hid hpm
        by_cases hlt : t < L.length
        · obtain ⟨z, hz, hread⟩ := HC.out t hlt
          obtain ⟨l, hl⟩ : ∃ l, l = L[t] := ⟨_, rfl⟩
          have HPL := hid (show preLen L (t + 1) = preLen L t + l.length by rw [preLen, hl]; simp [List.getD_eq_getElem?_getD, hlt])
          rw [← hl] at hread
          have HR := hid hread
          have hp1 : p ≤ 1073741824 := by omega
          clear hread hl hpm
          by_cases hl2 : (l.length : Int) ≤ p
          · have HE := hid (show (if (l.length : Int) ≤ p then p - l.length else -1) = p - l.length from if_pos hl2)
            go_wp2_with (first | (go_at_call 86; refine (szIntS_any _ l p _ HR.out hp0 hp1).mono ?_; rintro e w1 ⟨rfl, rfl⟩; rw [HE.out]) | fail)
            go_round
            case rel => exact ⟨t + 1, p - l.length, by omega, by go_num, rfl, by omega, by have := HPM.out; rw [HPL.out]; omega⟩
            case measure => simp [intOf]; omega
          · have HE := hid (show (if (l.length : Int) ≤ p then p - l.length else -1) = -1 from if_neg hl2)
            go_wp2_with (first | (go_at_call 86; refine (szIntS_any _ l p _ HR.out hp0 hp1).mono ?_; rintro e w1 ⟨rfl, rfl⟩; rw [HE.out]) | fail)
            go_ret
            exact ⟨_, rfl, rfl, by omega, fun h => absurd h (by decide)⟩
        · have htl : t = L.length := by omega
          rw [htl] at HPM
          clear hpm
          go_wp2_with fail
          go_ret
          exact ⟨_, rfl, rfl, by have := HPM.out; omega, fun _ => by have := HPM.out; omega⟩
  · clear h
    go_enter Try.func37, Try.ntmps37
    go_wp2
    go_ret
    exact ⟨_, rfl, rfl, by omega, fun h => absurd h (by decide)⟩
theorem toIntSS_apart (v : Value) (L : List (List Int)) (w : World) (h : ReadsL w v L) (hl : L.length ≤ 1048576) (hl2 : ∀ i (hi : i < L.length), L[i].length ≤ 1048576) :
    Calls Try.prog 40 #[v] w fun e w' => e = .returned (.slice (some ⟨w.heap.size, 0, none⟩) L.length L.length) ∧ Rows2 w' w.heap.size (.slice (some ⟨w.heap.size, 0, none⟩) L.length L.length) L ∧
      ListsU w' w.heap.size w'.heap.size (.slice (some ⟨w.heap.size, 0, none⟩) L.length L.length) L ∧ Below w.heap.size w w' := by
  obtain ⟨ao, c, rfl, hc1, hm, h⟩ := h
  unfold maxLen at hm
  have hmk := run_make_intss L.length hl w
  have hr0 := World.rowIs_made w (.slice none 0 0) L.length 22
  have hB0 : Below w.heap.size w (w.alloc (.cells (madeCells #[.slice none 0 0] L.length) 22)) := (Below.refl _ _).alloc (Nat.le_refl _) _
  have hS0 : w.heap.size < (w.alloc (.cells (madeCells #[.slice none 0 0] L.length) 22)).heap.size := by simp
  obtain ⟨wm, hwm⟩ : ∃ wm, wm = w.alloc (.cells (madeCells #[.slice none 0 0] L.length) 22) := ⟨_, rfl⟩
  rw [← hwm] at hmk hr0 hB0 hS0
  clear hwm
  have HL2 := hid hl2
  have HR0 := hid hr0
  have HB0 := hid hB0
  have HLM := hid (show L.length ≤ maxLen by unfold maxLen; omega)
  clear hl2 hr0 hB0
  rcases h with h | ⟨b, off, rfl, hb, hc⟩
  · have H := hid h
    clear h
    go_enter Try.func40, Try.ntmps40
    go_wp2_with fail
    go_loopw [4] (fun i wr => i = .int .i64 0 ∧ wr = wm) (fun i _ => L.length - (intOf i).toNat)
    case atStart => exact ⟨rfl, rfl⟩
    case round =>
      obtain ⟨rfl, rfl⟩ := hrel
      have hlt : ¬ (0 : Int) < (L.length : Int) := by rw [H.out]; simp
      go_wp2_with fail
      go_ret
      exact ⟨rfl, Rows2.of (U := fun _ => .slice none 0 0) (fun i hi => absurd hi (by rw [H.out]; simp)) HR0.out hl, Filled.listsU (U := fun _ => .slice none 0 0) ⟨fun i hi => absurd hi (by rw [H.out]; simp), fun i j _ _ hj => absurd hj (by rw [H.out]; simp)⟩ HR0.out rfl HLM.out, HB0.out⟩
  · have HC := hid hc
    clear hc
    go_enter Try.func40, Try.ntmps40
    go_wp2_with fail
    go_loopw [4] (fun i wr => ∃ k : Nat, k ≤ L.length ∧ i = .int .i64 k ∧ (∃ U : Nat → Value, wr.rowIs w.heap.size 22 L.length U ∧ Copied wr w.heap.size U L k ∧ Filled wr w.heap.size U L k) ∧ Below w.heap.size w wr ∧ w.heap.size < wr.heap.size) (fun i _ => L.length - (intOf i).toNat)
    case atStart => exact ⟨0, Nat.zero_le _, rfl, ⟨_, HR0.out, fun i hi hk => absurd hk (by omega), Filled.zero _ _ _ _⟩, HB0.out, hS0⟩
    case round =>
      obtain ⟨k, hk, rfl, ⟨U, hrow, hcop, hfil⟩, hbel, hsz⟩ := hrel
      by_cases hlt : k < L.length
      · obtain ⟨z, hz, hread⟩ := HC.out k hlt
        have hcx : wr.cell? ⟨b, off + k, none⟩ = some z := (hbel.cell (by exact hb)).trans hz
        have HRD := hid (hread.below hbel)
        obtain ⟨l, hll⟩ : ∃ l, l = L[k] := ⟨_, rfl⟩
        have hl2 := HL2.out k hlt
        rw [← hll] at HRD hl2
        have HLL := hid hll
        have HROW := hid hrow
        have HCOP := hid hcop
        have HFIL := hid hfil
        have HB := hid hbel
        clear hread hz hrow hcop hbel hll hfil
        go_wp2_with (first | (go_at_call 24; refine (toIntS_any _ l _ HRD.out hl2).mono ?_; rintro e w1 ⟨rfl, hown, hb1⟩; have HO := hid hown; have HB1 := hid hb1; clear hown hb1; have HR1 := hid (rowIs_below HROW.out HB1.out hsz); obtain ⟨zz, hcz⟩ : ∃ zz, w1.cell? ⟨w.heap.size, k, none⟩ = some zz := ⟨_, HR1.out.cell hlt⟩; have hfz := HR1.out.frozen k) | fail)
        have HG := hid (grownBy_setCellAt w1 w.heap.size k (.slice (some ⟨wr.heap.size, 0, none⟩) l.length l.length))
        have HR2 := hid (HR1.out.set k (.slice (some ⟨wr.heap.size, 0, none⟩) l.length l.length))
        have HON := hid ((HO.out.mono (show w.heap.size + 1 ≤ wr.heap.size by omega)).kept HG.out (.inr (by simp only [Value.ownBlock, ne_eq, Option.some.injEq]; omega)))
        have HC2 := hid (((HCOP.out.below HB1.out).kept HG.out).step (q := wr.heap.size) hlt hsz (by
          rw [← HLL.out]
          exact HON.out.mono (by omega)))
        have HF2 := hid (Filled.step (u := .slice (some ⟨wr.heap.size, 0, none⟩) l.length l.length) HFIL.out ((HFIL.out.below HB1.out).kept HG.out) hlt (by rw [← HLL.out]; exact HON.out) (fun q hq => by simp only [Value.ownBlock, Option.some.injEq] at hq; omega))
        have HBB := hid ((HB.out.trans (HB1.out.mono (by omega))).setCell (p := ⟨w.heap.size, k, none⟩) (Nat.le_refl _) (.slice (some ⟨wr.heap.size, 0, none⟩) l.length l.length))
        have hs1 := HB1.out.size
        go_roundw
        case rel => exact ⟨k + 1, by omega, by go_num, ⟨_, HR2.out, by rw [← HLL.out] at HC2; exact HC2.out, HF2.out⟩, HBB.out, by simp; omega⟩
        case measure => simp [intOf]; omega
      · obtain rfl : k = L.length := by omega
        have HROW := hid hrow
        have HCOP := hid hcop
        have HFIL := hid hfil
        have HB := hid hbel
        clear hrow hcop hbel hfil
        go_wp2_with fail
        go_ret
        exact ⟨rfl, Rows2.of HCOP.out HROW.out hl, HFIL.out.listsU HROW.out rfl HLM.out, HB.out⟩
theorem ListsU.mark {w w' : World} {base H : Nat} {v : Value} {L : List (List Int)} {vs : List Value} {t : Nat} {ys : List Int} (h1 : vs.length = L.length) (h2 : w.ownsRow base 22 1 v L.length vs)
    (h3 : ∀ i (h1 : i < L.length) (h2 : i < vs.length), Own w base vs[i] L[i]) (h4 : ∀ i j (h1 : i < vs.length) (h2 : j < vs.length) (g : Nat), i ≠ j → vs[i].ownBlock = some g → vs[j].ownBlock ≠ some g)
    (h5 : ∀ i (h1 : i < vs.length) (g : Nat), vs[i].ownBlock = some g → g < H)
    (ht : t < vs.length) (hu : Own w' base vs[t] ys) (hg : w.grownBy w' vs[t].ownBlock) : ListsU w' base H v (L.set t ys) := by
  have htl : t < L.length := by omega
  refine ⟨vs, by simp [h1], by rw [List.length_set]; exact row_kept_int h2 (by decide) (h3 t htl ht) hg, fun i a b => ?_, h4, h5⟩
  rw [List.length_set] at a
  by_cases e : t = i
  · subst e
    simpa using hu
  · rw [List.getElem_set_ne e]
    refine Own.kept (h3 i a b) hg ?_
    rcases (h3 i a b).form with ⟨hn, _⟩ | ⟨g, cap, hs, _⟩
    · exact .inl (by rw [hn]; rfl)
    · right
      intro e2
      have e3 : vs[i].ownBlock = some g := by rw [hs]; rfl
      exact h4 i t b ht g (fun e => by omega) e3 (by rw [← e2, e3])
theorem markIntSS_kept (v : Value) (L : List (List Int)) (base H : Nat) (m : Int) (w : World) (h : ListsU w base H v L) (h0 : 0 ≤ m) (h1 : m ≤ 1073741824) (hl : preLen L L.length ≤ 1073741824) :
    Calls Try.prog 47 #[v, .int .i64 m] w fun e w' => e = .returned (.int .i64 (m + preLen L L.length)) ∧ Below base w w' ∧ w.heap.size ≤ w'.heap.size ∧ ∀ k, H ≤ k → k < w.heap.size → w'.heap[k]? = w.heap[k]? := by
  have HL := hid h
  rcases h.listsA.lists.form with ⟨rfl, rfl⟩ | ⟨g, cap, rfl, hbg, hg, hc1, hm, hc⟩
  · go_enter Try.func47, Try.ntmps47
    go_wp2_with fail
    refine wp_loop_rounds 1 ?_
    rw [rounds_succ]
    go_wp2
    go_ret
    exact ⟨by simp [preLen], Below.refl _ _, Nat.le_refl _, fun _ _ _ => rfl⟩
  · clear hc h
    go_enter Try.func47, Try.ntmps47
    go_wp2_with fail
    go_loopw [1, 5] (fun kv i wr => ∃ t : Nat, t ≤ L.length ∧ i = .int .i64 t ∧ kv = .int .i64 (m + preLen L t) ∧ (∃ M : List (List Int), ListsU wr base H (.slice (some ⟨g, 0, none⟩) L.length cap) M ∧ M.length = L.length ∧ (∀ i (a : i < M.length) (b : i < L.length), M[i].length = L[i].length)) ∧ Below base w wr ∧ w.heap.size ≤ wr.heap.size ∧ ∀ k, H ≤ k → k < w.heap.size → wr.heap[k]? = w.heap[k]?) (fun _ i _ => L.length - (intOf i).toNat)
    case atStart => exact ⟨0, Nat.zero_le _, rfl, by simp [preLen], ⟨L, HL.out, rfl, fun i a b => rfl⟩, Below.refl _ _, Nat.le_refl _, fun _ _ _ => rfl⟩
    case round =>
      obtain ⟨t, ht, rfl, rfl, ⟨M, hM, hMl, hMe⟩, hbel, hsz, hst⟩ := hrel
      have HM := hid hM
      have HB := hid hbel
      have HME := hid hMe
      have HST := hid hst
      have hpm := preLen_mono L ht
      clear hM hbel hMe hst
      by_cases hlt : t < L.length
      · obtain ⟨vs, v1, v2, v3, v4, v5⟩ := HM.out
        have htM : t < M.length := by omega
        have htv : t < vs.length := by omega
        have hcz : wr.cell? ⟨g, t, none⟩ = some vs[t] := by
          have v2' := v2
          rw [hMl] at v2'
          have := World.ownsRow.cellAt v2' t (by omega)
          rw [this, List.getElem?_eq_getElem htv]
        have HO := hid (v3 t htM htv)
        obtain ⟨l, hll⟩ : ∃ l, l = M[t] := ⟨_, rfl⟩
        have hle : l.length = L[t].length := by rw [hll]; exact HME.out t htM hlt
        have hpn := preLen_mono L (show t + 1 ≤ L.length from hlt)
        have HP := hid (show preLen L (t + 1) = preLen L t + l.length by rw [preLen, hle]; simp [List.getD_eq_getElem?_getD, hlt])
        rw [HP.out] at hpn
        rw [← hll] at HO
        have HLE := hid hle
        have HV1 := hid v1
        have HV2 := hid v2
        have HV3 := hid v3
        have HV4 := hid v4
        have HV5 := hid v5
        obtain ⟨p, hp⟩ : ∃ p, p = preLen L t := ⟨_, rfl⟩
        rw [← hp] at HP hpn hpm ⊢
        obtain ⟨z, hz⟩ : ∃ z, z = vs[t] := ⟨_, rfl⟩
        rw [← hz] at hcz HO
        have HZ := hid hz
        have h3 : 0 ≤ m + (p : Int) := by omega
        have h4 : m + (p : Int) ≤ 1099511627776 := by omega
        have h5 : l.length ≤ 1099511627776 := by omega
        clear hll hle v1 v2 v3 v4 v5 hp hz
        go_wp2_with (first | (go_at_call 21; refine (markIntS_any _ l base _ _ HO.out h3 h4 h5).mono ?_; rintro e w1 ⟨rfl, hown, hgr⟩; have HOW := hid hown; have HGR := hid hgr; clear hown hgr) | fail)
        have HN := hid (ListsU.mark HV1.out HV2.out HV3.out HV4.out HV5.out htv (by rw [← HZ.out]; exact HOW.out) (by rw [← HZ.out]; exact HGR.out))
        have HBN := hid (HB.out.grown HGR.out (by omega) (fun q hq => (World.ownsRow.lt HO.out.row q hq).1))
        have HSN := hid (Nat.le_trans hsz HGR.out.size)
        have HSTN := hid (show ∀ k, H ≤ k → k < w.heap.size → w1.heap[k]? = w.heap[k]? from fun k h1 h2 => by
          rw [HGR.out.block k (by omega) (fun e => by
            have := HV5.out t htv k (by rw [← HZ.out]; exact e.symm)
            omega)]
          exact HST.out k h1 h2)
        have HEN := hid (show ∀ i (a : i < (M.set t (marks (m + p) l.length)).length) (b : i < L.length), (M.set t (marks (m + p) l.length))[i].length = L[i].length from fun i a b => by
          by_cases e : t = i
          · subst e
            rw [List.getElem_set_self, marks_length, ← HLE.out]
          · rw [List.getElem_set_ne e]
            exact HME.out i (by simpa using a) b)
        go_roundw
        case rel => exact ⟨t + 1, by omega, by go_num, by rw [HP.out]; go_num, ⟨_, HN.out, by simp [hMl], HEN.out⟩, HBN.out, HSN.out, HSTN.out⟩
        case measure => simp [intOf]; omega
      · obtain rfl : t = L.length := by omega
        go_wp2_with fail
        go_ret
        exact ⟨rfl, HB.out, hsz, HST.out⟩
end Go.Proofs.Yteenmndgejeihaa

/- A slice of slices of ints that came in reads as a list of lists. Conditions: none. -/
namespace Go.Proofs.Yteenmndgejeihaa
open Go.RowKit Go.WideShapes Go.Deep
set_option linter.unusedVariables false

theorem ReadsL.of_rows {W : World} {a : Addr} {len cap : Nat} {A : Nat → Option Addr} {L C : Nat → Nat} {Z : Nat → List Int} (hl : len ≤ cap) (hm : cap ≤ maxLen)
    (h : ∀ r, r < cap → W.cell? (a.add r) = some (.slice (A r) (L r) (C r)) ∧ IsRow .i64 W (A r) (L r) (C r) (Z r)) : ReadsL W (.slice (some a) len cap) ((List.range len).map fun r => (Z r).take (L r)) := by
  refine ⟨some a, cap, by simp, by simpa using hl, hm, ?_⟩
  by_cases h0 : len = 0
  · left; subst h0; rfl
  · right
    have hc := (h 0 (by omega)).1
    obtain ⟨b, off, spot⟩ := a
    have hspot : spot = none := by simpa [Addr.add] using World.cell?_spot hc
    subst hspot
    have hlt : b < W.heap.size := World.block_lt_of_cell? W _ hc
    refine ⟨b, off, rfl, hlt, fun i hi => ?_⟩
    have hi' : i < len := by simpa using hi
    obtain ⟨h1, h2⟩ := h i (by omega)
    have e : (⟨b, off, none⟩ : Addr).add i = ⟨b, off + i, none⟩ := by
      by_cases h : i = 0 <;> simp [Addr.add, h]
    rw [e] at h1
    refine ⟨_, h1, ?_⟩
    simp only [List.getElem_map, List.getElem_range]
    exact h2.reads.1
/-- What the reader says of an argument of type [][]int. -/
theorem rows_in {H : Type} {enc : TypeId × Value → H} {P : Program} {W : World} {base : Nat} {held : Bool} {t e q : TypeId} {fuel : Nat} {x : DataW H × List MemPlace} {a : Option Addr} {len cap : Nat}
    (ht : P.underlying t = some (.slice e)) (he : P.underlying e = some (.slice q)) (hq : P.underlying q = some (.int .i64)) (ce : P.cellsOf e = 1) (cq : P.cellsOf q = 1)
    (h : DataW.trod enc P W base (fun _ => true) held fuel t [.slice a len cap] = some x) :
    ∃ Ls : List (List Int), ReadsL W (.slice a len cap) Ls ∧ Ls.length = len ∧ ∀ l ∈ Ls, ∀ n ∈ l, (Lit.int .i64 n).wf = true := by
  rcases open_int_rows ht he hq ce cq h with ⟨hcs, _⟩ | ⟨a', len', cap', A, L, C, Z, hcs, _, hl, hm, _, hr⟩
  · simp at hcs
    obtain ⟨rfl, rfl, rfl⟩ := hcs
    exact ⟨[], ⟨none, 0, rfl, Nat.le_refl _, by unfold maxLen; omega, .inl rfl⟩, rfl, by simp⟩
  · simp at hcs
    obtain ⟨rfl, rfl, rfl⟩ := hcs
    have hrow : ∀ r, r < cap → W.cell? (a'.add r) = some (.slice (A r) (L r) (C r)) ∧ IsRow .i64 W (A r) (L r) (C r) (Z r) := by
      intro r hr0
      obtain ⟨h1, h2, h3, h4, h5, h6, h7⟩ := hr r hr0
      refine ⟨h1, ?_⟩
      cases hA : A r with
      | none =>
        have hc0 := h6 hA
        exact .inl ⟨rfl, by omega, hc0, List.eq_nil_of_length_eq_zero (by omega)⟩
      | some p => exact .inr ⟨p, rfl, h2, h3, h4, fun i hi => (h7 p hA).2 i (by omega), h5⟩
    refine ⟨_, ReadsL.of_rows hl hm hrow, by simp, fun l hl2 n hn => ?_⟩
    obtain ⟨r, hr1, rfl⟩ := List.mem_map.1 hl2
    exact (hrow r (by have := List.mem_range.1 hr1; omega)).2.wf n hn
end Go.Proofs.Yteenmndgejeihaa

/- Contracts of the laws' helpers on moves and slices of moves: toMove, toMoveS, szMoveS, eqMove, eqMoveS, markMoveS. Conditions: the slices read as lists of moves; at most 2^20 of them. -/
namespace Go.Proofs.Yteenmndgejeihaa
open Go.RowKit
set_option linter.unusedVariables false
set_option maxRecDepth 4000

abbrev lmObj (k i j : Int) : Obj := .cells #[.int .i64 k, .int .i64 i, .int .i64 j] 35
abbrev mvA (k i j : Int) : Value := .agg #[.int .i64 k, .int .i64 i, .int .i64 j]
theorem sz_al {n : Nat} {w : World} (h : n ≤ w.heap.size) (o : Obj) : n ≤ (w.alloc o).heap.size := by simp; omega
theorem toMove_any (k i j : Int) (w : World) :
    Calls Try.prog 29 #[mvA k i j] w fun e w' => e = .returned (mvA k i j) ∧ Below w.heap.size w w' := by
  go_enter Try.func29, Try.ntmps29
  go_wp2_with fail
  go_returns
  exact ⟨rfl, (((Below.refl _ _).alloc (Nat.le_refl _) _).alloc (sz_al (Nat.le_refl _) _) _).alloc (sz_al (sz_al (Nat.le_refl _) _) _) _⟩
theorem Try.infoMv : (Try.prog.info? 38).map (fun i => (i.zero, i.size, i.bytes)) = some (some (mvA 0 0 0), 3, 24) := by kernel_rfl
/-- what stands in cell j when the first k moves are copied -/
def mvF (ms : List Mv) (k j : Nat) : Value := .int .i64 (if j < 3 * k then (if j % 3 = 0 then (mGet ms (j / 3)).1 else if j % 3 = 1 then (mGet ms (j / 3)).2.1 else (mGet ms (j / 3)).2.2) else 0)
theorem run_make_moves (n : Nat) (hn : n ≤ 1048576) (w : World) : Sem.run Try.prog (Instr.makeSlice 51 (.int .i64 n) (.int .i64 n)) w = .ok (.slice (some ⟨w.heap.size, 0, none⟩) n n) (w.alloc (.cells (madeCells #[.int .i64 0, .int .i64 0, .int .i64 0] (n * 3)) 38)) := by
  obtain ⟨i, hi, hzz⟩ := Option.map_eq_some_iff.1 Try.infoMv
  simp only [Prod.mk.injEq] at hzz
  obtain ⟨hz, hs, hb⟩ := hzz
  have hr := run_make (P := Try.prog) w 51 38 i (mvA 0 0 0) Try.underlying51 hi hz .i64 .i64 n n (by omega) (Int.le_refl _) (by rw [hb]; omega) (by omega)
  simp only [Int.toNat_natCast, hs] at hr
  exact hr
theorem made_moves (w : World) (ms : List Mv) (n : Nat) : (w.alloc (.cells (madeCells #[.int .i64 0, .int .i64 0, .int .i64 0] (n * 3)) 38)).rowIs w.heap.size 38 (n * 3) (mvF ms 0) := by
  have h := World.rowIs_alloc w (madeCells #[.int .i64 0, .int .i64 0, .int .i64 0] (n * 3)) 38 (mvF ms 0) (fun i hi => by
    rw [size_madeCells] at hi
    have h3 : i % 3 < 3 := Nat.mod_lt _ (by omega)
    obtain ⟨r, hr⟩ : ∃ r, r = i % 3 := ⟨_, rfl⟩
    rw [← hr] at h3
    simp only [madeCells, mvF]
    rw [Array.getElem?_eq_getElem (by simpa using hi)]
    simp [← hr]
    match r, h3 with
    | 0, _ => rfl
    | 1, _ => rfl
    | 2, _ => rfl)
  rwa [size_madeCells] at h
theorem mvF_succ {w : World} {g n k : Nat} {ms : List Mv} (h : w.rowIs g 38 (n * 3) (mvF ms k)) {m : Mv} (hm : m = mGet ms k) : (w.setCells g (k * 3) [.int .i64 m.1, .int .i64 m.2.1, .int .i64 m.2.2]).rowIs g 38 (n * 3) (mvF ms (k + 1)) := by
  refine (rowIs_setCells _ _ _ _ h).congr (fun j hj => ?_)
  subst hm
  simp only [List.length_cons, List.length_nil]
  by_cases h1 : k * 3 ≤ j ∧ j < k * 3 + (0 + 1 + 1 + 1)
  · rw [if_pos h1, mvF, if_pos (by omega)]
    obtain ⟨r, hr⟩ : ∃ r, r = j - k * 3 := ⟨_, rfl⟩
    have hj3 : j / 3 = k := by omega
    have hr3 : j % 3 = r := by omega
    rw [← hr, hj3, hr3]
    match r, show r < 3 by omega with
    | 0, _ => rfl
    | 1, _ => rfl
    | 2, _ => rfl
  · rw [if_neg h1, mvF, mvF]
    by_cases h2 : j < 3 * k
    · rw [if_pos h2, if_pos (by omega : j < 3 * (k + 1))]
    · rw [if_neg h2, if_neg (by omega : ¬ j < 3 * (k + 1))]
theorem mvF_cells {w : World} {g k n : Nat} {ms : List Mv} (h : w.rowIs g 38 (n * 3) (mvF ms n)) (hk : k < n) : w.cell? ⟨g, k * 3, none⟩ = some (.int .i64 (mGet ms k).1) ∧ w.cell? ⟨g, k * 3 + 1, none⟩ = some (.int .i64 (mGet ms k).2.1) ∧ w.cell? ⟨g, k * 3 + 2, none⟩ = some (.int .i64 (mGet ms k).2.2) := by
  refine ⟨?_, ?_, ?_⟩
  · rw [h.cell (by omega), mvF, if_pos (by omega), show k * 3 % 3 = 0 by omega, show k * 3 / 3 = k by omega]; rfl
  · rw [h.cell (by omega), mvF, if_pos (by omega), show (k * 3 + 1) % 3 = 1 by omega, show (k * 3 + 1) / 3 = k by omega]; rfl
  · rw [h.cell (by omega), mvF, if_pos (by omega), show (k * 3 + 2) % 3 = 2 by omega, show (k * 3 + 2) / 3 = k by omega]; rfl
/-- a row of moves of its own in block g -/
def RowM (w : World) (g : Nat) (ms : List Mv) : Prop := w.rowIs g 38 (ms.length * 3) (mvF ms ms.length)
theorem RowM.reads {w : World} {g : Nat} {ms : List Mv} (h : RowM w g ms) (hl : ms.length ≤ 1048576) : ReadsM w (.slice (some ⟨g, 0, none⟩) ms.length ms.length) ms := by
  refine ⟨_, ms.length, rfl, Nat.le_refl _, by unfold maxLen; omega, .inr ⟨g, 0, rfl, World.rowIs.lt h, fun t ht => ?_⟩⟩
  have := mvF_cells h ht
  rw [mGet_at ht] at this
  simpa using this
theorem RowM.below {w w' : World} {g : Nat} {ms : List Mv} (h : RowM w g ms) (hb : Below w.heap.size w w') : RowM w' g ms := World.rowIs.of_block h (hb.block g (World.rowIs.lt h))
theorem RowM.kept {w w' : World} {g : Nat} {ms : List Mv} (h : RowM w g ms) {o : Option Nat} (hg : w.grownBy w' o) (hne : some g ≠ o) : RowM w' g ms := World.rowIs.of_block h (hg.block g (World.rowIs.lt h) hne)
theorem toMoveS_any (v : Value) (ms : List Mv) (w : World) (h : ReadsM w v ms) (hl : ms.length ≤ 1048576) :
    Calls Try.prog 41 #[v] w fun e w' => e = .returned (.slice (some ⟨w.heap.size, 0, none⟩) ms.length ms.length) ∧ RowM w' w.heap.size ms ∧ Below w.heap.size w w' := by
  obtain ⟨ao, c, rfl, hc1, hm, h⟩ := h
  unfold maxLen at hm
  have hmk := run_make_moves ms.length hl w
  have hr0 := made_moves w ms ms.length
  have hB0 : Below w.heap.size w (w.alloc (.cells (madeCells #[.int .i64 0, .int .i64 0, .int .i64 0] (ms.length * 3)) 38)) := (Below.refl _ _).alloc (Nat.le_refl _) _
  have HC := hid h
  have HR0 := hid hr0
  have HB0 := hid hB0
  clear h hr0 hB0
  go_enter Try.func41, Try.ntmps41
  go_wp2_with fail
  go_loopw [4] (fun i wr => ∃ k : Nat, k ≤ ms.length ∧ i = .int .i64 k ∧ wr.rowIs w.heap.size 38 (ms.length * 3) (mvF ms k) ∧ Below w.heap.size w wr) (fun i _ => ms.length - (intOf i).toNat)
  case atStart => exact ⟨0, Nat.zero_le _, rfl, HR0.out, HB0.out⟩
  case round =>
    obtain ⟨k, hk, rfl, hrow, hbel⟩ := hrel
    have HR := hid hrow
    have HB := hid hbel
    by_cases hlt : k < ms.length
    · rcases HC.out with h | ⟨b, off, rfl, hb, hc⟩
      · rw [h] at hlt; simp at hlt
      obtain ⟨e0, e1, e2⟩ := hc k hlt
      have hc0 := (hbel.cell (p := ⟨b, off + k * 3, none⟩) (by exact hb)).trans e0
      have hc1' := (hbel.cell (p := ⟨b, off + k * 3 + 1, none⟩) (by exact hb)).trans e1
      have hc2 := (hbel.cell (p := ⟨b, off + k * 3 + 2, none⟩) (by exact hb)).trans e2
      have HK := hid (show ms[k] = mGet ms k from (mGet_at hlt).symm)
      obtain ⟨m, hm⟩ : ∃ m, m = ms[k] := ⟨_, rfl⟩
      rw [← hm] at hc0 hc1' hc2 HK
      obtain ⟨x, y, z⟩ := m
      simp only at hc0 hc1' hc2
      have hsz := World.rowIs.lt hrow
      clear e0 e1 e2 hc hm hrow hbel
      go_wp2_with (first | (go_at_call 29; refine (toMove_any x y z _).mono ?_; rintro e w1 ⟨rfl, hb1⟩; have HB1 := hid hb1; have HR1 := hid (World.rowIs.of_block HR.out (hb1.block _ hsz)); have hf0 := HR1.out.frozen (k * 3); have hf1 := HR1.out.frozen (k * 3 + 1); have hf2 := HR1.out.frozen (k * 3 + 2); have hy0 := HR1.out.cell (i := k * 3) (by omega); have hy1 := HR1.out.cell (i := k * 3 + 1) (by omega); have hy2 := HR1.out.cell (i := k * 3 + 2) (by omega); clear hb1) | fail)
      have HS := hid (mvF_succ HR1.out HK.out)
      have HBB := hid ((((HB.out.trans (HB1.out.mono HB.out.size)).setCell (p := ⟨w.heap.size, k * 3, none⟩) (Nat.le_refl _) (.int .i64 x)).setCell (p := ⟨w.heap.size, k * 3 + 1, none⟩) (Nat.le_refl _) (.int .i64 y)).setCell (p := ⟨w.heap.size, k * 3 + 2, none⟩) (Nat.le_refl _) (.int .i64 z))
      clear hf0 hf1 hf2 hy0 hy1 hy2
      go_roundw
      case rel => exact ⟨k + 1, by omega, by go_num, HS.out, HBB.out⟩
      case measure => simp [intOf]; omega
    · obtain rfl : k = ms.length := by omega
      clear hrow hbel
      go_wp2_with fail
      go_ret
      exact ⟨rfl, HR.out, HB.out⟩
theorem gb_set (W : World) (b k : Nat) (v : Value) : W.grownBy (W.setCell ⟨b, k, none⟩ v) (some b) :=
  ⟨rfl, rfl, rfl, by simp, fun i _ hne => Below.heap_setCell _ _ _ i (fun e => hne (by rw [e]))⟩
theorem szMoveS_any (v : Value) (ms : List Mv) (left : Int) (w : World) (h : ReadsM w v ms) (h0 : 0 ≤ left) (h1 : left ≤ 1048576) :
    Calls Try.prog 38 #[v, .int .i64 left] w fun e w' => e = .returned (.int .i64 (if left < ms.length then -1 else left - ms.length)) ∧ w = w' := by
  obtain ⟨ao, c, rfl, hc1, hm, h⟩ := h
  unfold maxLen at hm
  clear h
  have hw : IntKind.i64.wrap (left - (ms.length : Int)) = left - (ms.length : Int) := IntWalk.i64_in _ (by omega)
  by_cases hl : left < ms.length
  · have hl2 : left - (ms.length : Int) < 0 := by omega
    have HL := hid (show (-1 : Int) = (if left < ms.length then -1 else left - (ms.length : Int)) by rw [if_pos hl])
    go_enter Try.func38, Try.ntmps38
    go_wp2_with fail
    go_ret
    exact ⟨rfl, rfl⟩
  · have hl2 : ¬ left - (ms.length : Int) < 0 := by omega
    have HL := hid (show left - (ms.length : Int) = (if left < ms.length then -1 else left - (ms.length : Int)) by rw [if_neg hl])
    go_enter Try.func38, Try.ntmps38
    go_wp2_with fail
    go_ret
    exact ⟨rfl, rfl⟩
theorem eqMove_any (k i j : Int) (w : World) :
    Calls Try.prog 96 #[mvA k i j, mvA k i j] w fun e w' => e = .returned (.bool true) ∧ Below w.heap.size w w' := by
  have hk : (k != k) = false := by simp
  have hi : (i != i) = false := by simp
  have hj : (j != j) = false := by simp
  have HB := hid (((Below.refl w.heap.size w).alloc (Nat.le_refl _) (mvObj k i j)).alloc (sz_al (Nat.le_refl _) _) (mvObj k i j))
  go_enter Try.func96, Try.ntmps96
  go_wp2_with fail
  go_returns
  exact ⟨rfl, HB.out⟩
set_option maxHeartbeats 1000000 in
theorem eqMoveS_any (v u : Value) (ms : List Mv) (w : World) (h : ReadsM w v ms) (h' : ReadsM w u ms) :
    Calls Try.prog 44 #[v, u] w fun e w' => e = .returned (.bool true) ∧ Below w.heap.size w w' := by
  obtain ⟨ao, c, rfl, hc1, hm, h⟩ := h
  obtain ⟨bo, d, rfl, hd1, hn, h'⟩ := h'
  unfold maxLen at hm hn
  have hne : ((ms.length : Int) != (ms.length : Int)) = false := by simp
  rcases h with h | ⟨b, off, rfl, hb, hc⟩
  · subst h
    go_enter Try.func44, Try.ntmps44
    go_wp2_with fail
    refine wp_loop_rounds 1 ?_
    rw [rounds_succ]
    go_wp2_with fail
    go_ret
    exact ⟨rfl, Below.refl _ _⟩
  · rcases h' with h' | ⟨b', off', rfl, hb', hc'⟩
    · subst h'
      go_enter Try.func44, Try.ntmps44
      go_wp2_with fail
      refine wp_loop_rounds 1 ?_
      rw [rounds_succ]
      go_wp2_with fail
      go_ret
      exact ⟨rfl, Below.refl _ _⟩
    · have HC := hid hc
      have HC' := hid hc'
      clear hc hc'
      go_enter Try.func44, Try.ntmps44
      go_wp2_with fail
      go_loopw [5] (fun i wr => ∃ k : Nat, k ≤ ms.length ∧ i = .int .i64 k ∧ Below w.heap.size w wr) (fun i _ => ms.length - (intOf i).toNat)
      case atStart => exact ⟨0, Nat.zero_le _, rfl, Below.refl _ _⟩
      case round =>
        obtain ⟨k, hk, rfl, hbel⟩ := hrel
        have HB := hid hbel
        by_cases hlt : k < ms.length
        · obtain ⟨e0, e1, e2⟩ := HC.out k hlt
          obtain ⟨f0, f1, f2⟩ := HC'.out k hlt
          have hx0 := (hbel.cell (p := ⟨b, off + k * 3, none⟩) (by exact hb)).trans e0
          have hx1 := (hbel.cell (p := ⟨b, off + k * 3 + 1, none⟩) (by exact hb)).trans e1
          have hx2 := (hbel.cell (p := ⟨b, off + k * 3 + 2, none⟩) (by exact hb)).trans e2
          have hy0 := (hbel.cell (p := ⟨b', off' + k * 3, none⟩) (by exact hb')).trans f0
          have hy1 := (hbel.cell (p := ⟨b', off' + k * 3 + 1, none⟩) (by exact hb')).trans f1
          have hy2 := (hbel.cell (p := ⟨b', off' + k * 3 + 2, none⟩) (by exact hb')).trans f2
          obtain ⟨m, hm⟩ : ∃ m, m = ms[k] := ⟨_, rfl⟩
          rw [← hm] at hx0 hx1 hx2 hy0 hy1 hy2
          obtain ⟨x, y, z⟩ := m
          simp only at hx0 hx1 hx2 hy0 hy1 hy2
          have hk0 : (0 : Int) ≤ (k : Int) := by omega
          have hk1 : (k : Int) < (ms.length : Int) := by omega
          clear e0 e1 e2 f0 f1 f2 hm hbel
          go_wp2_with fail
          go_region_held3 (fun w' => w'.cell? ⟨b, off + k * 3, none⟩ = some (.int .i64 x) ∧ w'.cell? ⟨b, off + k * 3 + 1, none⟩ = some (.int .i64 y) ∧ w'.cell? ⟨b, off + k * 3 + 2, none⟩ = some (.int .i64 z) ∧ w'.cell? ⟨b', off' + k * 3, none⟩ = some (.int .i64 x) ∧ w'.cell? ⟨b', off' + k * 3 + 1, none⟩ = some (.int .i64 y) ∧ w'.cell? ⟨b', off' + k * 3 + 2, none⟩ = some (.int .i64 z))
            (first | exact ⟨hx0, hx1, hx2, hy0, hy1, hy2⟩ | exact ⟨cell_below2 hx0 HB1.out, cell_below2 hx1 HB1.out, cell_below2 hx2 HB1.out, cell_below2 hy0 HB1.out, cell_below2 hy1 HB1.out, cell_below2 hy2 HB1.out⟩ | go_keep | fail)
            (first | (go_at_call 96; refine (eqMove_any x y z _).mono ?_; rintro e w1 ⟨rfl, hb1⟩; have HB1 := hid ((Below.refl _ _).drew.trans hb1 : Below wr.heap.size wr w1); clear hb1) | fail)
          all_goals
            go_wp2_with fail
            go_roundw
            case rel => exact ⟨k + 1, by omega, by go_num, Below_chain HB.out HB1.out⟩
            case measure => simp [intOf]; omega
        · go_wp2_with fail
          go_ret
          exact ⟨rfl, HB.out⟩
set_option maxHeartbeats 1000000 in
theorem markMoveS_any (g : Nat) (ms : List Mv) (m : Int) (w : World) (h : RowM w g ms) (hl : ms.length ≤ 1048576) (h0 : 0 ≤ m) (h1 : m ≤ 1099511627776) :
    Calls Try.prog 48 #[.slice (some ⟨g, 0, none⟩) ms.length ms.length, .int .i64 m] w fun e w' => e = .returned (.int .i64 (m + 3 * ms.length)) ∧ w.grownBy w' (some g) := by
  have HR0 := hid (show ∃ f, w.rowIs g 38 (ms.length * 3) f from ⟨_, h⟩)
  have HG0 := hid (World.grownBy.refl w (some g))
  clear h
  go_enter Try.func48, Try.ntmps48
  go_wp2_with fail
  go_loopw [1, 5] (fun a i wr => ∃ k : Nat, k ≤ ms.length ∧ i = .int .i64 k ∧ a = .int .i64 (m + 3 * k) ∧ (∃ f, wr.rowIs g 38 (ms.length * 3) f) ∧ w.grownBy wr (some g)) (fun _ i _ => ms.length - (intOf i).toNat)
  case atStart => exact ⟨0, Nat.zero_le _, rfl, by simp, HR0.out, HG0.out⟩
  case round =>
    obtain ⟨k, hk, rfl, rfl, ⟨f, hrow⟩, hgr⟩ := hrel
    have HR := hid hrow
    have HG := hid hgr
    by_cases hlt : k < ms.length
    · have hf0 := hrow.frozen (k * 3)
      have hf1 := hrow.frozen (k * 3 + 1)
      have hf2 := hrow.frozen (k * 3 + 2)
      have hy0 := hrow.cell (i := k * 3) (by omega)
      have hy1 := hrow.cell (i := k * 3 + 1) (by omega)
      have hy2 := hrow.cell (i := k * 3 + 2) (by omega)
      have hw1 : IntKind.i64.wrap (m + 3 * (k : Int) + 1) = m + 3 * (k : Int) + 1 := IntWalk.i64_in _ (by omega)
      have hw2 : IntKind.i64.wrap (m + 3 * (k : Int) + 1 + 1) = m + 3 * (k : Int) + 1 + 1 := IntWalk.i64_in _ (by omega)
      have hw3 : IntKind.i64.wrap (m + 3 * (k : Int) + 1 + 1 + 1) = m + 3 * (k : Int) + 1 + 1 + 1 := IntWalk.i64_in _ (by omega)
      clear hrow hgr
      go_wp2_with fail
      have HS := hid (((HR.out.set (k * 3) (.int .i64 (m + 3 * (k : Int)))).set (k * 3 + 1) (.int .i64 (m + 3 * (k : Int) + 1))).set (k * 3 + 2) (.int .i64 (m + 3 * (k : Int) + 1 + 1)))
      have HGG := hid (((HG.out.trans (gb_set wr g (k * 3) (.int .i64 (m + 3 * (k : Int))))).trans (gb_set _ g (k * 3 + 1) (.int .i64 (m + 3 * (k : Int) + 1)))).trans (gb_set _ g (k * 3 + 2) (.int .i64 (m + 3 * (k : Int) + 1 + 1))))
      clear hf0 hf1 hf2 hy0 hy1 hy2
      go_roundw
      case rel => exact ⟨k + 1, by omega, by go_num, by go_num, ⟨_, HS.out⟩, HGG.out⟩
      case measure => simp [intOf]; omega
    · obtain rfl : k = ms.length := by omega
      clear hrow hgr
      go_wp2_with fail
      go_ret
      exact ⟨rfl, HG.out⟩
end Go.Proofs.Yteenmndgejeihaa

/- Owned rows of moves beside owned rows of numbers, when one of them is written. Conditions: none. -/
namespace Go.Proofs.Yteenmndgejeihaa
open Go.RowKit
set_option linter.unusedVariables false

theorem lm_box (w : World) (k i j : Int) : (w.alloc (lmObj k i j)).cell? ⟨w.heap.size, 0, none⟩ = some (.int .i64 k) ∧ (w.alloc (lmObj k i j)).cell? ⟨w.heap.size, 1, none⟩ = some (.int .i64 i) ∧ (w.alloc (lmObj k i j)).cell? ⟨w.heap.size, 2, none⟩ = some (.int .i64 j) := by
  have h := World.rowIs_alloc w #[.int .i64 k, .int .i64 i, .int .i64 j] 35 (fun t => if t = 0 then .int .i64 k else if t = 1 then .int .i64 i else .int .i64 j) (fun t ht => by
    match t, ht with
    | 0, _ => rfl | 1, _ => rfl | 2, _ => rfl
    | t + 3, h => exact absurd h (by simp))
  exact ⟨h.cell (i := 0) (by simp), h.cell (i := 1) (by simp), h.cell (i := 2) (by simp)⟩
theorem Lives.keptRow {w w' : World} {lo hi g : Nat} {v : Value} {xs : List Int} (h : Lives w lo hi v xs) (hg : w.grownBy w' (some g)) (hne : hi ≤ g ∨ g < lo) : Lives w' lo hi v xs := by
  refine ⟨Own.kept h.1 hg ?_, h.2⟩
  cases hv : v.ownBlock with
  | none => exact .inl rfl
  | some k =>
    right
    simp only [ne_eq, Option.some.injEq]
    have h1 := h.2 k hv
    have h2 := h.low k hv
    omega
theorem RowM.keptLives {w w' : World} {lo hi g : Nat} {ms : List Mv} {u : Value} {ys : List Int} (h : RowM w g ms) (h' : Lives w lo hi u ys) (hg : w.grownBy w' u.ownBlock) (hne : hi ≤ g ∨ g < lo) : RowM w' g ms := by
  refine h.kept hg (fun e => ?_)
  have h1 := h'.2 g e.symm
  have h2 := h'.low g e.symm
  omega
theorem Below.markedRow {w w1 w' : World} {g : Nat} (h : Below w.heap.size w w1) (hg : w1.grownBy w' (some g)) (hlo : w.heap.size ≤ g) : Below w.heap.size w w' :=
  h.grown hg h.size (fun k hk => by simp only [Option.some.injEq] at hk; omega)
end Go.Proofs.Yteenmndgejeihaa

/- A move, and a slice of moves, that came in: what they read as. Conditions: none. -/
namespace Go.Proofs.Yteenmndgejeihaa
open Go.RowKit Go.WideShapes Go.Deep
set_option linter.unusedVariables false

theorem move_in {H : Type} {enc : TypeId × Value → H} {P : Program} {W : World} {base : Nat} {spare : Nat → Bool} {held : Bool} {r : Reach} {b0 : Nat} {t : TypeId} {f0 f1 f2 : Field} {v : Value} {d : DataW H} {p : List MemPlace}
    (hs : P.underlying t = some (.struct #[f0, f1, f2])) (hone : Go.Deep.oneCellFields P #[f0, f1, f2] = true) (hC : P.cellsOf t = 3)
    (h0 : P.underlying f0.type = some (.int .i64)) (h1 : P.underlying f1.type = some (.int .i64)) (h2 : P.underlying f2.type = some (.int .i64))
    (hv : Value.okWide P W r b0 t v) (h : DataW.Trod enc P W base spare held t v d p) :
    ∃ k i j : Int, v = mvA k i j ∧ (Lit.int .i64 k).wf = true ∧ (Lit.int .i64 i).wf = true ∧ (Lit.int .i64 j).wf = true := by
  obtain ⟨v0, v1, v2, y0, y1, y2, n, rfl, _, _, e0, e1, e2⟩ := Go.Joins.open_agg3 hs hone hC hv h
  obtain ⟨k, hk, _, wk⟩ := DataW.trod_int h0 e0
  obtain ⟨i, hi, _, wi⟩ := DataW.trod_int h1 e1
  obtain ⟨j, hj, _, wj⟩ := DataW.trod_int h2 e2
  simp only [List.cons.injEq, and_true] at hk hi hj
  exact ⟨k, i, j, by rw [hk, hi, hj], wk, wi, wj⟩
theorem moves_in {H : Type} {enc : TypeId × Value → H} {P : Program} {W : World} {base : Nat} {held : Bool} {t e : TypeId} {f0 f1 f2 : Field} {fuel : Nat} {x : DataW H × List MemPlace} {a : Option Addr} {len cap : Nat}
    (ht : P.underlying t = some (.slice e)) (he : P.underlying e = some (.struct #[f0, f1, f2])) (ce : P.cellsOf e = 3)
    (o0 : f0.offset = 0) (o1 : f1.offset = 1) (o2 : f2.offset = 2) (c0 : P.cellsOf f0.type = 1) (c1 : P.cellsOf f1.type = 1) (c2 : P.cellsOf f2.type = 1)
    (h0 : P.underlying f0.type = some (.int .i64)) (h1 : P.underlying f1.type = some (.int .i64)) (h2 : P.underlying f2.type = some (.int .i64))
    (h : DataW.trod enc P W base (fun _ => true) held fuel t [.slice a len cap] = some x) :
    ∃ ms : List Mv, ReadsM W (.slice a len cap) ms ∧ ms.length = len ∧ wfM ms := by
  rcases open_slice ht h with ⟨hcs, _⟩ | ⟨a', len', cap', m, n, D, Pl, hcs, _, hl, hm, hmm, _, hx⟩
  · simp at hcs
    obtain ⟨rfl, rfl, rfl⟩ := hcs
    exact ⟨[], ⟨none, 0, rfl, Nat.le_refl _, by unfold maxLen; omega, .inl rfl⟩, rfl, by simp [wfM]⟩
  · simp at hcs
    obtain ⟨rfl, rfl, rfl⟩ := hcs
    simp only [if_true] at hmm
    have hmm' := hmm.symm
    subst hmm'
    have each : ∀ i, i < cap → ∃ q : Mv, W.cell? (a'.add (i * 3)) = some (.int .i64 q.1) ∧ W.cell? (a'.add (i * 3 + 1)) = some (.int .i64 q.2.1) ∧ W.cell? (a'.add (i * 3 + 2)) = some (.int .i64 q.2.2) ∧
        (Lit.int .i64 q.1).wf = true ∧ (Lit.int .i64 q.2.1).wf = true ∧ (Lit.int .i64 q.2.2).wf = true := by
      intro i hi
      obtain ⟨cs', g1, g2⟩ := hx i hi
      rw [ce] at g1
      obtain ⟨_, hlen, hcell⟩ := World.cells?_some g1
      obtain ⟨xs, k, hk, hxy, _, hxl, hf⟩ := DataW.trod_struct he g2
      match xs, hxl, cs', hlen with
      | [y0, y1, y2], _, [v0, v1, v2], _ =>
        have t0 := hf 0 f0 rfl
        have t1 := hf 1 f1 rfl
        have t2 := hf 2 f2 rfl
        simp [o0, o1, o2, c0, c1, c2] at t0 t1 t2
        have e0 := hcell 0 (by omega)
        have e1 := hcell 1 (by omega)
        have e2 := hcell 2 (by omega)
        rw [add_add] at e0 e1 e2
        obtain ⟨k0, hk0, _, wk0⟩ := DataW.trod_int h0 t0
        obtain ⟨k1, hk1, _, wk1⟩ := DataW.trod_int h1 t1
        obtain ⟨k2, hk2, _, wk2⟩ := DataW.trod_int h2 t2
        simp only [List.cons.injEq, and_true] at hk0 hk1 hk2
        subst hk0 hk1 hk2
        exact ⟨(k0, k1, k2), by simpa using e0, by simpa using e1, by simpa using e2, wk0, wk1, wk2⟩
    obtain ⟨q, hq⟩ := choose_lt each
    have hlq : ((List.range len).map q).length = len := by simp
    refine ⟨(List.range len).map q, ⟨some a', cap, by rw [hlq], by rw [hlq]; exact hl, hm, ?_⟩, hlq, fun m hm2 => ?_⟩
    · by_cases hz : len = 0
      · left; subst hz; rfl
      · right
        have hc := (hq 0 (by omega)).1
        obtain ⟨b, off, spot⟩ := a'
        have hspot : spot = none := by simpa [Addr.add] using World.cell?_spot hc
        subst hspot
        have hlt : b < W.heap.size := World.block_lt_of_cell? W _ hc
        refine ⟨b, off, rfl, hlt, fun i hi => ?_⟩
        have hi' : i < len := by simpa using hi
        obtain ⟨g1, g2, g3, _⟩ := hq i (by omega)
        simp only [List.getElem_map, List.getElem_range]
        have ea : ∀ z : Nat, (⟨b, off, none⟩ : Addr).add z = ⟨b, off + z, none⟩ := fun z => by
          by_cases h : z = 0 <;> simp [Addr.add, h]
        rw [ea] at g1 g2 g3
        exact ⟨g1, by rw [Nat.add_assoc]; exact g2, by rw [Nat.add_assoc]; exact g3⟩
    · obtain ⟨i, hi, rfl⟩ := List.mem_map.1 hm2
      have := hq i (by have := List.mem_range.1 hi; omega)
      exact this.2.2.2
end Go.Proofs.Yteenmndgejeihaa
