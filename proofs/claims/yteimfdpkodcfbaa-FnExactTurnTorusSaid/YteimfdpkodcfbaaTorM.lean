/- Plain facts on tori: rows, windows, ranks of windows, places. No conditions beyond the stated ones. -/
import Derived.Test.YteimfdpkodcfbaaPcM
import Derived.Test.YteimfdpkodcfbaaSchM
import Derived.Test.YteimfdpkodcfbaaDig4
import Derived.Test.YteimfdpkodcfbaaOrM
namespace Go.Proofs.Yteimfdpkodcfbaa
set_option linter.unusedVariables false
set_option maxRecDepth 4000

/-- one row is as long as it should be, and has bits -/
def trwB (c : Nat) (l : List Int) : Bool := decide (l.length = c) && belowB l 2
/-- a torus -/
def tuB (L : List (List Int)) : Bool := decide (1 ≤ L.length ∧ L.length ≤ 16 ∧ 16 % L.length = 0) && allTo L.length (fun i => trwB (16 / L.length) (L.getD i []))
structure TuI (L : List (List Int)) (n c : Nat) : Prop where
  len : L.length = n
  prod : n * c = 16
  row : ∀ i, i < n → (L.getD i []).length = c
  bit : ∀ i, i < n → ∀ j, j < c → 0 ≤ (L.getD i []).getD j 0 ∧ (L.getD i []).getD j 0 ≤ 1
theorem TuI.n1 {L : List (List Int)} {n c : Nat} (h : TuI L n c) : 1 ≤ n ∧ n ≤ 16 ∧ 1 ≤ c ∧ c ≤ 16 := by
  have hp := h.prod
  have h1 : n ≠ 0 := fun e => by rw [e, Nat.zero_mul] at hp; omega
  have h2 : c ≠ 0 := fun e => by rw [e, Nat.mul_zero] at hp; omega
  have h3 : n * 1 ≤ n * c := Nat.mul_le_mul_left _ (by omega)
  have h4 : 1 * c ≤ n * c := Nat.mul_le_mul_right _ (by omega)
  omega
theorem TuI.c_eq {L : List (List Int)} {n c : Nat} (h : TuI L n c) : 16 / n = c ∧ 16 % n = 0 := by
  have hp := h.prod
  have := h.n1
  exact ⟨by rw [← hp, Nat.mul_div_cancel_left _ (by omega)], by rw [← hp, Nat.mul_mod_right]⟩
theorem tuB_iff {L : List (List Int)} : tuB L = true ↔ TuI L L.length (16 / L.length) := by
  unfold tuB
  rw [Bool.and_eq_true, decide_eq_true_eq, allTo_iff]
  constructor
  · rintro ⟨⟨h1, h2, h3⟩, h4⟩
    have hr : ∀ i, i < L.length → (L.getD i []).length = 16 / L.length ∧ belowB (L.getD i []) 2 = true := fun i hi => by
      have := h4 i hi
      unfold trwB at this
      rwa [Bool.and_eq_true, decide_eq_true_eq] at this
    refine ⟨rfl, Nat.mul_div_cancel' (Nat.dvd_of_mod_eq_zero h3), fun i hi => (hr i hi).1, fun i hi j hj => ?_⟩
    have hb := (hr i hi).2
    unfold belowB at hb
    rw [allTo_iff] at hb
    have := inB_iff.1 (hb j (by rw [(hr i hi).1]; exact hj))
    omega
  · intro h
    have h1 := h.n1
    refine ⟨⟨h1.1, h1.2.1, h.c_eq.2⟩, fun i hi => ?_⟩
    unfold trwB
    rw [Bool.and_eq_true, decide_eq_true_eq]
    refine ⟨h.row i hi, ?_⟩
    unfold belowB
    rw [allTo_iff]
    intro j hj
    have := h.bit i hi j (by rw [h.row i hi] at hj; exact hj)
    exact inB_iff.2 (by omega)
/-- the number at a place; a window -/
def atT (L : List (List Int)) (i j : Nat) : Int := (L.getD i []).getD j 0
def winT (L : List (List Int)) (n c i j : Nat) : List Int := [atT L i j, atT L i ((j + 1) % c), atT L ((i + 1) % n) j, atT L ((i + 1) % n) ((j + 1) % c)]
/-- the places of a window in the numbers row by row -/
def sqT (n c p : Nat) : List Int := [(p : Int), ((p / c * c + (p % c + 1) % c : Nat) : Int), (((p / c + 1) % n * c + p % c : Nat) : Int), (((p / c + 1) % n * c + (p % c + 1) % c : Nat) : Int)]
def sqsL (n c : Nat) : List (List Int) := (List.range 16).map (sqT n c)
theorem sqsL_len (n c : Nat) : (sqsL n c).length = 16 := by simp [sqsL]
theorem sqsL_at {n c p : Nat} (hp : p < 16) : (sqsL n c).getD p [] = sqT n c p := by simp [sqsL, hp]
theorem flat_len : ∀ (L : List (List Int)) (c : Nat), (∀ i, i < L.length → (L.getD i []).length = c) → L.flatten.length = L.length * c
  | [], c, _ => by simp
  | l :: L, c, h => by
    have h0 : l.length = c := h 0 (by simp)
    have ih := flat_len L c (fun i hi => h (i + 1) (by simp; omega))
    rw [List.flatten_cons, List.length_append, h0, ih, List.length_cons, Nat.succ_mul]; omega
theorem flat_at : ∀ (L : List (List Int)) (c i j : Nat), (∀ i, i < L.length → (L.getD i []).length = c) → i < L.length → j < c → L.flatten.getD (i * c + j) 0 = (L.getD i []).getD j 0
  | [], c, i, j, _, hi, _ => by simp at hi
  | l :: L, c, 0, j, h, _, hj => by
    have h0 : l.length = c := h 0 (by simp)
    rw [List.flatten_cons, Nat.zero_mul, Nat.zero_add, List.getD_eq_getElem?_getD, List.getElem?_append_left (by omega)]
    rfl
  | l :: L, c, i + 1, j, h, hi, hj => by
    have h0 : l.length = c := h 0 (by simp)
    have ih := flat_at L c i j (fun i hi => h (i + 1) (by simp; omega)) (by simp at hi; omega) hj
    rw [List.flatten_cons, Nat.succ_mul, List.getD_eq_getElem?_getD, List.getElem?_append_right (by omega), show i * c + c + j - l.length = i * c + j by omega, ← List.getD_eq_getElem?_getD, ih]
    rfl
theorem TuI.flat {L : List (List Int)} {n c : Nat} (h : TuI L n c) : L.flatten.length = 16 := by
  rw [flat_len L c (fun i hi => h.row i (by rw [← h.len]; exact hi)), h.len, h.prod]
theorem TuI.at {L : List (List Int)} {n c : Nat} (h : TuI L n c) {i j : Nat} (hi : i < n) (hj : j < c) : L.flatten.getD (i * c + j) 0 = atT L i j :=
  flat_at L c i j (fun i hi => h.row i (by rw [← h.len]; exact hi)) (by rw [h.len]; exact hi) hj
theorem div_lt_n {n c p : Nat} (hp : n * c = 16) (hc : 1 ≤ c) (h : p < 16) : p / c < n := Nat.div_lt_of_lt_mul (by rw [Nat.mul_comm, hp]; exact h)
theorem TuI.pick {L : List (List Int)} {n c : Nat} (h : TuI L n c) {p : Nat} (hp : p < 16) : pkL L.flatten (sqT n c p) = winT L n c (p / c) (p % c) := by
  have h1 := h.n1
  have hi := div_lt_n h.prod h1.2.2.1 hp
  have hj : p % c < c := Nat.mod_lt _ (by omega)
  have hi2 : (p / c + 1) % n < n := Nat.mod_lt _ (by omega)
  have hj2 : (p % c + 1) % c < c := Nat.mod_lt _ (by omega)
  unfold pkL sqT winT
  simp only [List.map_cons, List.map_nil, Int.toNat_natCast]
  rw [show p = p / c * c + p % c by rw [Nat.mul_comm]; exact (Nat.div_add_mod p c).symm]
  rw [show (p / c * c + p % c) / c = p / c by rw [Nat.mul_comm, Nat.mul_add_div (by omega), Nat.div_eq_of_lt hj, Nat.add_zero], show (p / c * c + p % c) % c = p % c by rw [Nat.mul_comm, Nat.mul_add_mod, Nat.mod_eq_of_lt hj]]
  rw [h.at hi hj, h.at hi hj2, h.at hi2 hj, h.at hi2 hj2]
theorem sq_placed {n c : Nat} (hp : n * c = 16) : ∀ l ∈ sqsL n c, Placed 16 l := by
  intro l hl
  obtain ⟨p, hp2, rfl⟩ := List.mem_map.1 hl
  have hp3 := List.mem_range.1 hp2
  have h1 : n ≠ 0 := fun e => by rw [e, Nat.zero_mul] at hp; omega
  have h2 : c ≠ 0 := fun e => by rw [e, Nat.mul_zero] at hp; omega
  have key : ∀ i j : Nat, i < n → j < c → i * c + j < 16 := fun i j hi hj => by
    have := Nat.mul_le_mul_right c (show i + 1 ≤ n by omega)
    rw [Nat.succ_mul, hp] at this
    omega
  have hi := div_lt_n hp (by omega) hp3
  have hj : p % c < c := Nat.mod_lt _ (by omega)
  have hi2 : (p / c + 1) % n < n := Nat.mod_lt _ (by omega)
  have hj2 : (p % c + 1) % c < c := Nat.mod_lt _ (by omega)
  refine ⟨by simp [sqT], by simp [sqT], fun q hq => ?_⟩
  simp only [sqT, List.mem_cons, List.not_mem_nil, or_false] at hq
  rcases hq with rfl | rfl | rfl | rfl
  · exact ⟨p, rfl, hp3⟩
  · exact ⟨_, rfl, key _ _ hi hj2⟩
  · exact ⟨_, rfl, key _ _ hi2 hj⟩
  · exact ⟨_, rfl, key _ _ hi2 hj2⟩
/-- the rank of a window -/
def bs4 : List Int := [2, 2, 2, 2]
def rkS (l : List Int) : Int := rankRes bs4 l
def okS (l : List Int) : Bool := rankB bs4 l
theorem bs4_ok : basesB bs4 = true := by decide
theorem bs4_at : ∀ i, i < 4 → bs4.getD i 0 = 2 := by decide
theorem okS_iff (l : List Int) : okS l = (decide (l.length = 4) && belowB l 2) := by
  unfold okS rankB
  rw [bs4_ok, Bool.true_and]
  unfold areDig
  rw [Bool.eq_iff_iff]
  simp only [Bool.and_eq_true, decide_eq_true_eq, belowB, allTo_iff]
  have e4 : bs4.length = 4 := rfl
  rw [e4]
  refine and_congr_right (fun h4 => ?_)
  constructor
  · intro h2 i hi
    have := h2 i hi
    rwa [bs4_at i (by omega)] at this
  · intro h2 i hi
    rw [bs4_at i (by omega)]
    exact h2 i hi
theorem okS_four {a b c d : Int} (ha : 0 ≤ a ∧ a ≤ 1) (hb : 0 ≤ b ∧ b ≤ 1) (hc : 0 ≤ c ∧ c ≤ 1) (hd : 0 ≤ d ∧ d ≤ 1) : okS [a, b, c, d] = true := by
  rw [okS_iff, Bool.and_eq_true, decide_eq_true_eq]
  refine ⟨rfl, ?_⟩
  unfold belowB
  rw [allTo_iff]
  intro i hi
  match i, hi with
  | 0, _ => exact inB_iff.2 (by simp; omega)
  | 1, _ => exact inB_iff.2 (by simp; omega)
  | 2, _ => exact inB_iff.2 (by simp; omega)
  | 3, _ => exact inB_iff.2 (by simp; omega)
  | i + 4, h => exact absurd h (by simp)
theorem okS_bits {l : List Int} (h : okS l = true) : ∃ a b c d : Int, l = [a, b, c, d] ∧ (0 ≤ a ∧ a ≤ 1) ∧ (0 ≤ b ∧ b ≤ 1) ∧ (0 ≤ c ∧ c ≤ 1) ∧ (0 ≤ d ∧ d ≤ 1) := by
  rw [okS_iff, Bool.and_eq_true, decide_eq_true_eq] at h
  obtain ⟨h4, hb⟩ := h
  match l, h4, hb with
  | [a, b, c, d], _, hb =>
    unfold belowB at hb
    rw [allTo_iff] at hb
    have h0 := inB_iff.1 (hb 0 (by simp))
    have h1 := inB_iff.1 (hb 1 (by simp))
    have h2 := inB_iff.1 (hb 2 (by simp))
    have h3 := inB_iff.1 (hb 3 (by simp))
    simp at h0 h1 h2 h3
    exact ⟨a, b, c, d, rfl, by omega, by omega, by omega, by omega⟩
theorem rkS_four {a b c d : Int} (h : okS [a, b, c, d] = true) : rkS [a, b, c, d] = ((a * 2 + b) * 2 + c) * 2 + d := by
  unfold rkS rankRes
  rw [if_pos (show rankB bs4 [a, b, c, d] = true from h)]
  show (((0 * 2 + a) * 2 + b) * 2 + c) * 2 + d = _
  rw [Int.zero_mul, Int.zero_add]
theorem rkS_lt {l : List Int} (h : okS l = true) : 0 ≤ rkS l ∧ rkS l < 16 := by
  obtain ⟨a, b, c, d, rfl, ha, hb, hc, hd⟩ := okS_bits h
  rw [rkS_four h]; omega
theorem rkS_inj {l m : List Int} (h : okS l = true) (h' : okS m = true) (e : rkS l = rkS m) : l = m := by
  obtain ⟨a, b, c, d, rfl, ha, hb, hc, hd⟩ := okS_bits h
  obtain ⟨a', b', c', d', rfl, ha', hb', hc', hd'⟩ := okS_bits h'
  rw [rkS_four h, rkS_four h'] at e
  have h1 : a = a' := by omega
  have h2 : b = b' := by omega
  have h3 : c = c' := by omega
  have h4 : d = d' := by omega
  rw [h1, h2, h3, h4]
theorem rkS_wf (l : List Int) : (Lit.int .i64 (rkS l)).wf = true := by
  cases h : okS l with
  | true => have := rkS_lt h; exact WalkArith.wf_i64 (by omega)
  | false =>
    unfold rkS rankRes
    rw [if_neg (by rw [show rankB bs4 l = false from h]; simp)]
    decide
/-- the window with an index -/
def wnT (L : List (List Int)) (n c p : Nat) : List Int := winT L n c (p / c) (p % c)
/-- the window w is one of the first p ones -/
def cmT (L : List (List Int)) (n c p : Nat) (w : List Int) : Bool := (List.range p).any fun q => decide (wnT L n c q = w)
theorem cmT_iff {L : List (List Int)} {n c p : Nat} {w : List Int} : cmT L n c p w = true ↔ ∃ q, q < p ∧ wnT L n c q = w := by
  unfold cmT
  rw [List.any_eq_true]
  simp
/-- any two windows differ -/
def wiB (L : List (List Int)) (n c : Nat) : Bool := allTo 16 (fun p => !cmT L n c p (wnT L n c p))
theorem TuI.ok {L : List (List Int)} {n c : Nat} (h : TuI L n c) {p : Nat} (hp : p < 16) : okS (wnT L n c p) = true := by
  have h1 := h.n1
  have hi := div_lt_n h.prod h1.2.2.1 hp
  have hj : p % c < c := Nat.mod_lt _ (by omega)
  have hi2 : (p / c + 1) % n < n := Nat.mod_lt _ (by omega)
  have hj2 : (p % c + 1) % c < c := Nat.mod_lt _ (by omega)
  exact okS_four (h.bit _ hi _ hj) (h.bit _ hi _ hj2) (h.bit _ hi2 _ hj) (h.bit _ hi2 _ hj2)
theorem TuI.rkT {L : List (List Int)} {n c : Nat} (h : TuI L n c) {p : Nat} (hp : p < 16) : rkT rkS (sqsL n c) L.flatten p = rkS (wnT L n c p) := by
  unfold Go.Proofs.Yteimfdpkodcfbaa.rkT
  rw [sqsL_at hp, h.pick hp]; rfl
theorem TuI.once {L : List (List Int)} {n c : Nat} (h : TuI L n c) : lyB rkS okS (sqsL n c) L.flatten = wiB L n c := by
  unfold lyB wiB
  rw [sqsL_len]
  refine allTo_congr9 (fun p hp => ?_)
  unfold newW
  rw [sqsL_at hp, h.pick hp, show okS (winT L n c (p / c) (p % c)) = true from h.ok hp, Bool.and_true]
  congr 1
  rw [Bool.eq_iff_iff, metW_iff, cmT_iff]
  constructor
  · rintro ⟨q, hq, e⟩
    rw [h.rkT (by omega), h.rkT hp] at e
    exact ⟨q, hq, rkS_inj (h.ok (by omega)) (h.ok hp) e⟩
  · rintro ⟨q, hq, e⟩
    exact ⟨q, hq, by rw [h.rkT (by omega), h.rkT hp, e]⟩
/-- where a window stands -/
def plT (L : List (List Int)) (n c : Nat) (w : List Int) : Nat := fstN (fun p => decide (wnT L n c p = w)) 16
theorem plT_is {L : List (List Int)} {n c : Nat} (h : TuI L n c) (hw : wiB L n c = true) {w : List Int} (hok : okS w = true) : plT L n c w < 16 ∧ wnT L n c (plT L n c w) = w ∧ ∀ q, q < plT L n c w → wnT L n c q ≠ w := by
  unfold wiB at hw
  rw [allTo_iff] at hw
  have hd : ∀ x y, x < y → y < 16 → rkS (wnT L n c x) ≠ rkS (wnT L n c y) := fun x y hxy hy e => by
    have h1 := hw y hy
    rw [Bool.not_eq_true'] at h1
    rw [cmT_iff.2 ⟨x, hxy, rkS_inj (h.ok (by omega)) (h.ok hy) e⟩] at h1
    cases h1
  have hr := rkS_lt hok
  obtain ⟨i, hi, e⟩ := rank_comes (T := fun i => rkS (wnT L n c i)) hd (fun i hi => rkS_lt (h.ok hi)) hr.1 hr.2
  have e2 := rkS_inj (h.ok hi) hok e
  have hbef : ∀ j, j < i → wnT L n c j ≠ w := fun j hj e3 => hd j i hj hi (by rw [e3, e2])
  have hp : plT L n c w = i := fstN_is hi (decide_eq_true e2) (fun j hj => decide_eq_false (hbef j hj))
  rw [hp]
  exact ⟨hi, e2, hbef⟩
end Go.Proofs.Yteimfdpkodcfbaa
