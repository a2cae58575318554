/- Plain facts: windows of a whole round; pair cycles by the ranks of their pairs; which index a rank has. No conditions beyond the stated ones. -/
import Derived.Test.YteimfdpkodcfbaaMetM
import Derived.Test.YteimfdpkodcfbaaBrM
import Derived.Test.YteimfdpkodcfbaaCRank
import Derived.Test.YteimfdpkodcfbaaRgM
namespace Go.Proofs.Yteimfdpkodcfbaa
set_option linter.unusedVariables false

theorem upTo_len9 (n : Nat) : (upTo n).length = n := by simp [upTo]
theorem upTo_getD9 {n i : Nat} (h : i < n) : (upTo n).getD i 0 = (i : Int) := by simp [upTo, h]
theorem pk_win {ws : List Int} {N i n : Nat} (hN : N = ws.length) (h1 : 1 ≤ N) (hi : i < N) : pkL ws (arL (upTo N) i n) = arL ws i n := by
  subst hN
  refine getD_ext (by rw [pkL_length, arL_len, arL_len]) (fun t ht => ?_)
  rw [pkL_length, arL_len] at ht
  rw [arL_at ht]
  have hlt : (i + t) % ws.length < ws.length := Nat.mod_lt _ (by omega)
  have e : (arL (upTo ws.length) i n).getD t 0 = (((i + t) % ws.length : Nat) : Int) := by
    rw [arL_at ht, upTo_len9, upTo_getD9 hlt]
  unfold pkL
  rw [getD_at (by rw [List.length_map, arL_len]; exact ht), List.getElem_map]
  rw [getD_at (by rw [arL_len]; exact ht)] at e
  rw [e, Int.toNat_natCast]
theorem win_placed {N n : Nat} (hn1 : 1 ≤ n) (hn : n ≤ 200) (h1 : 1 ≤ N) : ∀ l ∈ winL (upTo N) n, Placed N l := by
  intro l hl
  obtain ⟨i, hi, rfl⟩ := List.mem_map.1 hl
  refine ⟨by rw [arL_len]; exact hn1, by rw [arL_len]; exact hn, fun p hp => ?_⟩
  obtain ⟨t, ht, rfl⟩ := List.mem_map.1 hp
  have hlt : (i + t) % (upTo N).length < N := by rw [upTo_len9]; exact Nat.mod_lt _ (by omega)
  exact ⟨_, upTo_getD9 hlt, hlt⟩
/-- the windows of a word have ranks, and different ones -/
def wnB (rk : List Int → Int) (ok : List Int → Bool) (n : Nat) (ws : List Int) (k : Nat) : Bool := allTo k (fun i => !metW (fun j => rk (arL ws j n)) i (rk (arL ws i n)) && ok (arL ws i n))
theorem win_at9 {N n i : Nat} (hi : i < N) : (winL (upTo N) n).getD i [] = arL (upTo N) i n := by
  rw [List.getD_eq_getElem?_getD, List.getElem?_eq_getElem (by rw [winL_len, upTo_len9]; exact hi), winL_at (by rw [upTo_len9]; exact hi)]
  rfl
theorem metW_congr {T U : Nat → Int} {k : Nat} {r : Int} (h : ∀ i, i < k → T i = U i) : metW T k r = metW U k r := by
  rw [Bool.eq_iff_iff, metW_iff, metW_iff]
  exact ⟨fun ⟨i, hi, e⟩ => ⟨i, hi, by rw [← h i hi, e]⟩, fun ⟨i, hi, e⟩ => ⟨i, hi, by rw [h i hi, e]⟩⟩
theorem allTo_congr9 {f g : Nat → Bool} {k : Nat} (h : ∀ i, i < k → f i = g i) : allTo k f = allTo k g := by
  rw [Bool.eq_iff_iff, allTo_iff, allTo_iff]
  exact ⟨fun H i hi => by rw [← h i hi]; exact H i hi, fun H i hi => by rw [h i hi]; exact H i hi⟩
theorem lyB_win {rk : List Int → Int} {ok : List Int → Bool} {N n : Nat} {ws : List Int} (hN : N = ws.length) (h1 : 1 ≤ N) : lyB rk ok (winL (upTo N) n) ws = wnB rk ok n ws N := by
  unfold lyB wnB
  rw [winL_len, upTo_len9]
  refine allTo_congr9 (fun i hi => ?_)
  have e : ∀ j, j < N → rkT rk (winL (upTo N) n) ws j = rk (arL ws j n) := fun j hj => by
    unfold rkT
    rw [win_at9 hj, pk_win hN h1 hj]
  unfold newW
  rw [e i hi, win_at9 hi, pk_win hN h1 hi, metW_congr (fun j hj => e j (by omega))]
/-- all ranks below N come if N different ones are there -/
theorem rank_comes {T : Nat → Int} {N : Nat} (hd : ∀ a b, a < b → b < N → T a ≠ T b) (hr : ∀ i, i < N → 0 ≤ T i ∧ T i < N) {r : Int} (h0 : 0 ≤ r) (h1 : r < N) : ∃ i, i < N ∧ T i = r := by
  by_cases h : ∃ i, i < N ∧ T i = r
  · exact h
  · exfalso
    obtain ⟨i, j, hij, hj, e⟩ := pigeon N (fun i => if i < N then (T i).toNat else r.toNat) (fun i hi => by
      show (if i < N then _ else _) < N
      split
      · rename_i h2; have := hr i h2; omega
      · omega)
    have hi : i < N := by omega
    simp only [if_pos hi] at e
    have hri := hr i hi
    by_cases hjN : j < N
    · rw [if_pos hjN] at e
      have hrj := hr j hjN
      exact hd i j hij hjN (by omega)
    · rw [if_neg hjN] at e
      exact h ⟨i, hi, by omega⟩
/-- the first of the first k indices at which f holds, or k -/
def fstN (f : Nat → Bool) : Nat → Nat
  | 0 => 0
  | k + 1 => if fstN f k < k then fstN f k else if f k then k else k + 1
theorem fstN_le (f : Nat → Bool) (k : Nat) : fstN f k ≤ k := by
  induction k with
  | zero => exact Nat.le_refl _
  | succ k ih =>
    rw [fstN]
    split
    · omega
    · split <;> omega
theorem fstN_is {f : Nat → Bool} {k i : Nat} (hi : i < k) (hf : f i = true) (hb : ∀ j, j < i → f j = false) : fstN f k = i := by
  induction k with
  | zero => omega
  | succ k ih =>
    rw [fstN]
    by_cases e : i < k
    · rw [ih e, if_pos e]
    · obtain rfl : i = k := by omega
      have hk : ∀ m, m ≤ i → fstN f m = m := by
        intro m
        induction m with
        | zero => intro _; rfl
        | succ m ihm =>
          intro hm
          rw [fstN, ihm (by omega), if_neg (by omega), hb m (by omega)]
          simp
      rw [hk i (Nat.le_refl _), if_neg (by omega), hf, if_pos rfl]

/-- the rank of a pair, and whether it is one -/
def loP (l : List Int) : Int := mnT l (l.length - 1)
def hiP (l : List Int) : Int := mxT l (l.length - 1)
def rkP (n : Int) (l : List Int) : Int := crRes n [loP l, hiP l]
def okP (n : Int) (l : List Int) : Bool := combB n [loP l, hiP l]
theorem lo_two (a b : Int) : loP [a, b] = if b < a then b else a := rfl
theorem hi_two (a b : Int) : hiP [a, b] = if a < b then b else a := rfl
theorem comb_two {n : Int} (h : inB n 2 11 = true) (a b : Int) : combB n [a, b] = (decide (0 ≤ a) && decide (a < b) && decide (b < n)) := by
  have h1 := inB_iff.1 h
  have e : inB n 0 12 = true := inB_iff.2 (by omega)
  rw [Bool.eq_iff_iff]
  simp only [combB, e, risingB, allTo_iff, riseAt, Bool.and_eq_true, decide_eq_true_eq, Bool.or_eq_true, inB_iff, beq_iff_eq, Bool.true_and]
  constructor
  · rintro ⟨_, h2⟩
    have h3 := h2 0 (by simp)
    have h4 := h2 1 (by simp)
    simp at h3 h4
    omega
  · rintro ⟨⟨h2, h3⟩, h4⟩
    refine ⟨by simp; omega, fun i hi => ?_⟩
    simp at hi
    match i, hi with
    | 0, _ => simp; omega
    | 1, _ => simp; omega
theorem okP_two {n : Int} (h : inB n 2 11 = true) (a b : Int) : okP n [a, b] = true ↔ (0 ≤ a ∧ a < n) ∧ (0 ≤ b ∧ b < n) ∧ a ≠ b := by
  unfold okP
  rw [comb_two h, lo_two, hi_two]
  simp only [Bool.and_eq_true, decide_eq_true_eq]
  split <;> split <;> omega
set_option maxRecDepth 100000 in
theorem rank_two_tab' : ∀ n : Nat, n < 12 → ∀ b : Nat, b < n → ∀ a : Nat, a < b → ∀ d : Nat, d < n → ∀ c : Nat, c < d → (rankC n 0 [(a : Int), (b : Int)] == rankC n 0 [(c : Int), (d : Int)] && !(a == c && b == d)) = false := by
  decide +kernel
theorem rank_two_tab (n : Nat) (hn : n < 12) (b : Nat) (hb : b < n) (a : Nat) (ha : a < b) (d : Nat) (hd : d < n) (c : Nat) (hc : c < d) (e : rankC n 0 [(a : Int), (b : Int)] = rankC n 0 [(c : Int), (d : Int)]) : a = c ∧ b = d := by
  have := rank_two_tab' n hn b hb a ha d hd c hc
  rw [e] at this
  simpa using this
set_option maxRecDepth 100000 in
theorem rank_two_lt : ∀ n : Nat, n < 12 → ∀ b : Nat, b < n → ∀ a : Nat, a < b → rankC n 0 [(a : Int), (b : Int)] < n * (n - 1) / 2 := by
  decide +kernel
theorem rkP_lt {n : Nat} (h : inB (n : Int) 2 11 = true) {l : List Int} (hok : okP n l = true) : 0 ≤ rkP n l ∧ rkP n l < ((n * (n - 1) / 2 : Nat) : Int) := by
  have h1 := inB_iff.1 h
  unfold okP at hok
  unfold rkP
  rw [crRes_yes hok]
  rw [comb_two h] at hok
  simp only [Bool.and_eq_true, decide_eq_true_eq] at hok
  obtain ⟨a, ha⟩ : ∃ a : Nat, loP l = (a : Int) := ⟨(loP l).toNat, by omega⟩
  obtain ⟨b, hb⟩ : ∃ b : Nat, hiP l = (b : Int) := ⟨(hiP l).toNat, by omega⟩
  rw [ha, hb] at hok ⊢
  have := rank_two_lt n (by omega) b (by omega) a (by omega)
  rw [Int.toNat_natCast]
  omega
theorem rkP_inj {n : Nat} (h : inB (n : Int) 2 11 = true) {a b c d : Int} (h1 : okP n [a, b] = true) (h2 : okP n [c, d] = true) (e : rkP n [a, b] = rkP n [c, d]) : (a = c ∧ b = d) ∨ (a = d ∧ b = c) := by
  have h0 := inB_iff.1 h
  unfold rkP at e
  have k1 := h1
  have k2 := h2
  unfold okP at k1 k2
  rw [crRes_yes k1, crRes_yes k2] at e
  rw [comb_two h] at k1 k2
  simp only [Bool.and_eq_true, decide_eq_true_eq] at k1 k2
  obtain ⟨p, hp⟩ : ∃ a' : Nat, loP [a, b] = (a' : Int) := ⟨(loP [a, b]).toNat, by omega⟩
  obtain ⟨q, hq⟩ : ∃ a' : Nat, hiP [a, b] = (a' : Int) := ⟨(hiP [a, b]).toNat, by omega⟩
  obtain ⟨r, hr⟩ : ∃ a' : Nat, loP [c, d] = (a' : Int) := ⟨(loP [c, d]).toNat, by omega⟩
  obtain ⟨s, hs⟩ : ∃ a' : Nat, hiP [c, d] = (a' : Int) := ⟨(hiP [c, d]).toNat, by omega⟩
  rw [hp, hq] at e k1
  rw [hr, hs] at e k2
  rw [Int.toNat_natCast] at e
  have := rank_two_tab n (by omega) q (by omega) p (by omega) s (by omega) r (by omega) (by omega)
  rw [lo_two] at hp hr
  rw [hi_two] at hq hs
  split at hp <;> split at hq <;> split at hr <;> split at hs <;> omega
theorem rkP_turn (n a b : Int) : rkP n [a, b] = rkP n [b, a] := by
  unfold rkP
  have e1 : loP [a, b] = loP [b, a] := by rw [lo_two, lo_two]; split <;> split <;> omega
  have e2 : hiP [a, b] = hiP [b, a] := by rw [hi_two, hi_two]; split <;> split <;> omega
  rw [e1, e2]
/-- two pairs are the same, in either order -/
def samP (a b c d : Int) : Bool := (a == c && b == d) || (a == d && b == c)
theorem samP_iff {a b c d : Int} : samP a b c d = true ↔ (a = c ∧ b = d) ∨ (a = d ∧ b = c) := by simp [samP]
/-- the number behind that with the index i, going round -/
def nxW (ws : List Int) (i : Nat) : Int := ws.getD ((i + 1) % ws.length) 0
theorem arL_two {ws : List Int} {i : Nat} (hi : i < ws.length) : arL ws i 2 = [ws.getD i 0, nxW ws i] := by
  unfold arL nxW
  simp [List.range_succ, Nat.mod_eq_of_lt hi]
/-- the pair at i is one of the first k ones -/
def cmeP (ws : List Int) (k : Nat) (a b : Int) : Bool := (List.range k).any fun j => samP (ws.getD j 0) (nxW ws j) a b
theorem cmeP_iff {ws : List Int} {k : Nat} {a b : Int} : cmeP ws k a b = true ↔ ∃ j, j < k ∧ samP (ws.getD j 0) (nxW ws j) a b = true := by
  unfold cmeP
  rw [List.any_eq_true]
  simp
theorem cmeP_succ (ws : List Int) (k : Nat) (a b : Int) : cmeP ws (k + 1) a b = (cmeP ws k a b || samP (ws.getD k 0) (nxW ws k) a b) := by
  unfold cmeP
  rw [List.range_succ, List.any_append]
  simp
/-- the pair at i is new -/
def newP (ws : List Int) (i : Nat) : Bool := !(ws.getD i 0 == nxW ws i) && !cmeP ws i (ws.getD i 0) (nxW ws i)
/-- a pair cycle of n -/
def prB (n : Nat) (ws : List Int) : Bool := decide (ws.length = n * (n - 1) / 2) && (belowB ws n && allTo ws.length (newP ws))
theorem prB_iff {n : Nat} (hn : inB (n : Int) 2 11 = true) {ws : List Int} (hl : ws.length = n * (n - 1) / 2) : wnB (rkP n) (okP n) 2 ws ws.length = prB n ws := by
  have h0 := inB_iff.1 hn
  have h1 : 1 ≤ ws.length := by
    rw [hl]
    have : 2 * 1 ≤ n * (n - 1) := Nat.mul_le_mul (by omega) (by omega)
    omega
  rw [Bool.eq_iff_iff]
  unfold prB wnB belowB
  simp only [Bool.and_eq_true, decide_eq_true_eq, allTo_iff, Bool.not_eq_true']
  have hnx : ∀ i, nxW ws i = ws.getD ((i + 1) % ws.length) 0 := fun _ => rfl
  constructor
  · intro h
    have hok : ∀ i, i < ws.length → okP n [ws.getD i 0, nxW ws i] = true := fun i hi => by rw [← arL_two hi]; exact (h i hi).2
    refine ⟨hl, fun i hi => ?_, fun i hi => ?_⟩
    · have := (okP_two hn _ _).1 (hok i hi)
      rw [inB_iff]; omega
    · unfold newP
      have h2 := (okP_two hn _ _).1 (hok i hi)
      rw [Bool.and_eq_true, Bool.not_eq_true', Bool.not_eq_true']
      refine ⟨by simpa using h2.2.2, ?_⟩
      cases hc : cmeP ws i (ws.getD i 0) (nxW ws i) with
      | false => rfl
      | true =>
        exfalso
        obtain ⟨j, hj, hs⟩ := cmeP_iff.1 hc
        have h3 := (h i hi).1
        have h4 : metW (fun j => rkP n (arL ws j 2)) i (rkP n (arL ws i 2)) = true := by
          refine metW_iff.2 ⟨j, hj, ?_⟩
          show rkP n (arL ws j 2) = rkP n (arL ws i 2)
          rw [arL_two hi, arL_two (by omega)]
          rcases samP_iff.1 hs with ⟨e1, e2⟩ | ⟨e1, e2⟩
          · rw [e1, e2]
          · rw [e1, e2, rkP_turn]
        rw [h3] at h4
        simp at h4
  · rintro ⟨_, hb, hw⟩ i hi
    have hok : ∀ i, i < ws.length → okP n [ws.getD i 0, nxW ws i] = true := fun i hi => by
      have h2 := inB_iff.1 (hb i hi)
      have h3 := inB_iff.1 (hb ((i + 1) % ws.length) (Nat.mod_lt _ (by omega)))
      have h4 := hw i hi
      unfold newP at h4
      rw [Bool.and_eq_true, Bool.not_eq_true', Bool.not_eq_true'] at h4
      have h5 : ws.getD i 0 ≠ nxW ws i := by simpa using h4.1
      rw [okP_two hn]
      rw [hnx] at h5 ⊢
      exact ⟨by omega, by omega, h5⟩
    refine ⟨?_, by rw [arL_two hi]; exact hok i hi⟩
    cases hm : metW (fun j => rkP n (arL ws j 2)) i (rkP n (arL ws i 2)) with
    | false => rfl
    | true =>
      exfalso
      obtain ⟨j, hj, e⟩ := metW_iff.1 hm
      have e : rkP n (arL ws j 2) = rkP n (arL ws i 2) := e
      rw [arL_two hi, arL_two (by omega)] at e
      have h4 := hw i hi
      unfold newP at h4
      rw [Bool.and_eq_true, Bool.not_eq_true', Bool.not_eq_true'] at h4
      have h5 : cmeP ws i (ws.getD i 0) (nxW ws i) = true := cmeP_iff.2 ⟨j, hj, samP_iff.2 (rkP_inj hn (hok j (by omega)) (hok i hi) e)⟩
      rw [h4.2] at h5
      simp at h5
theorem prB_size {n : Nat} {ws : List Int} (h : prB n ws = true) : ws.length = n * (n - 1) / 2 := by
  unfold prB at h
  rw [Bool.and_eq_true, decide_eq_true_eq] at h
  exact h.1
/-- where a pair stands -/
def plcP (ws : List Int) (a b : Int) : Nat := fstN (fun i => samP (ws.getD i 0) (nxW ws i) a b) ws.length
theorem plcP_is {n : Nat} (hn : inB (n : Int) 2 11 = true) {ws : List Int} (h : prB n ws = true) {a b : Int} (hok : okP n [a, b] = true) : plcP ws a b < ws.length ∧ rkP n (arL ws (plcP ws a b) 2) = rkP n [a, b] := by
  have hl := prB_size h
  have h0 := inB_iff.1 hn
  have hw := h
  rw [← prB_iff hn hl] at hw
  unfold wnB at hw
  rw [allTo_iff] at hw
  have hok2 : ∀ i, i < ws.length → okP n (arL ws i 2) = true := fun i hi => by
    have := hw i hi
    rw [Bool.and_eq_true] at this
    exact this.2
  have hd : ∀ x y, x < y → y < ws.length → rkP n (arL ws x 2) ≠ rkP n (arL ws y 2) := fun x y hxy hy e => by
    have := hw y hy
    rw [Bool.and_eq_true, Bool.not_eq_true'] at this
    have h4 : metW (fun j => rkP n (arL ws j 2)) y (rkP n (arL ws y 2)) = true := metW_iff.2 ⟨x, hxy, e⟩
    rw [this.1] at h4
    simp at h4
  have hr := rkP_lt hn hok
  rw [← hl] at hr
  obtain ⟨i, hi, e⟩ := rank_comes (T := fun i => rkP n (arL ws i 2)) hd (fun i hi => by have := rkP_lt hn (hok2 i hi); rw [← hl] at this; exact this) hr.1 hr.2
  have e : rkP n (arL ws i 2) = rkP n [a, b] := e
  have hp : plcP ws a b = i := by
    refine fstN_is hi ?_ (fun j hj => ?_)
    · have h2 := hok2 i hi
      rw [arL_two hi] at e h2
      exact samP_iff.2 (rkP_inj hn h2 hok e)
    · cases hs : samP (ws.getD j 0) (nxW ws j) a b with
      | false => rfl
      | true =>
        exfalso
        refine hd j i hj hi ?_
        show rkP n (arL ws j 2) = rkP n (arL ws i 2)
        rw [e, arL_two (by omega)]
        rcases samP_iff.1 hs with ⟨e1, e2⟩ | ⟨e1, e2⟩
        · rw [e1, e2]
        · rw [e1, e2, rkP_turn]
  rw [hp]
  exact ⟨hi, e⟩
theorem plcP_no {n : Nat} (hn : inB (n : Int) 2 11 = true) {ws : List Int} (h : prB n ws = true) {a b : Int} (hok : okP n [a, b] = false) : ∀ i, i < ws.length → samP (ws.getD i 0) (nxW ws i) a b = false := by
  intro i hi
  have hl := prB_size h
  have hw := h
  rw [← prB_iff hn hl] at hw
  unfold wnB at hw
  rw [allTo_iff] at hw
  have h2 := hw i hi
  rw [Bool.and_eq_true, arL_two hi] at h2
  cases hs : samP (ws.getD i 0) (nxW ws i) a b with
  | false => rfl
  | true =>
    exfalso
    have h3 := (okP_two hn _ _).1 h2.2
    have : okP n [a, b] = true := by
      rw [okP_two hn]
      rcases samP_iff.1 hs with ⟨e1, e2⟩ | ⟨e1, e2⟩ <;> (rw [← e1, ← e2]; omega)
    rw [hok] at this
    simp at this
end Go.Proofs.Yteimfdpkodcfbaa
