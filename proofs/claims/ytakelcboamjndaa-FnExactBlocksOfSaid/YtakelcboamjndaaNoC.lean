/- Growths and words as plain lists: what growthOfWord and wordOfGrowth make, and that a growth comes back exactly if it has no crossing. No conditions. -/
import Derived.Test.YtakelcboamjndaaGr1
import Derived.Test.YtakelcboamjndaaBalM
namespace Go.Proofs.Ytakelcboamjndaa
open Go.RowKit
set_option linter.unusedVariables false

theorem topTo_app (a b : List Int) : ∀ k, k ≤ a.length → topTo (a ++ b) k = topTo a k
  | 0, _ => rfl
  | k + 1, h => by
    rw [topTo, topTo, topTo_app a b k (by omega)]
    congr 1
    rw [List.getD_eq_getElem?_getD, List.getD_eq_getElem?_getD, List.getElem?_append_left (by omega)]
theorem topL_snoc (p : List Int) (x : Int) : topL (p ++ [x]) = max (topL p) x := by
  unfold topL
  rw [List.length_append, List.length_singleton, topTo, topTo_app p [x] _ (Nat.le_refl _)]
  congr 1
  simp [List.getD_eq_getElem?_getD]
theorem topL_low (p : List Int) : -1 ≤ topL p := topTo_low _ _
theorem topL_take {a : List Int} {k : Nat} (h : k ≤ a.length) : topL (a.take k) = topTo a k := by
  unfold topL
  have e : (a.take k).length = k := by simp; omega
  rw [e]
  have := topTo_app (a.take k) (a.drop k) k (by omega)
  rw [List.take_append_drop] at this
  exact this.symm
theorem topL_mem {p : List Int} {x : Int} (h : x ∈ p) : x ≤ topL p := by
  obtain ⟨i, hi, rfl⟩ := List.getElem_of_mem h
  have := topTo_ge (xs := p) hi
  rwa [List.getD_eq_getElem?_getD, List.getElem?_eq_getElem hi] at this

/-- the growth so far, the numbers that are open, the last one first -/
def gwL : List Int → List Int → List Int → List Int
  | [], G, _ => G
  | x :: xs, G, S => if x = 1 then gwL xs G ((topL G + 1) :: S) else gwL xs (G ++ [S.headD 0]) S.tail
/-- the word of what comes behind p -/
def woT : List Int → List Int → List Int
  | _, [] => []
  | p, x :: r => (if x ∈ p then [] else List.replicate (List.count x (x :: r)) 1) ++ (0 :: woT (p ++ [x]) r)
theorem gw_ones (xs G : List Int) : ∀ (c : Nat) (S : List Int), gwL (List.replicate c 1 ++ xs) G S = gwL xs G (List.replicate c (topL G + 1) ++ S)
  | 0, S => rfl
  | c + 1, S => by
    rw [List.replicate_succ, List.cons_append, gwL, if_pos rfl, gw_ones xs G c]
    congr 1
    rw [List.replicate_succ', List.append_assoc]; rfl
theorem gw_zero (xs G : List Int) (h : Int) (S : List Int) : gwL (0 :: xs) G (h :: S) = gwL xs (G ++ [h]) S := by
  rw [gwL, if_neg (by decide)]; rfl
theorem gw_pre : ∀ (xs G S : List Int), G <+: gwL xs G S
  | [], G, S => List.prefix_refl _
  | x :: xs, G, S => by
    rw [gwL]
    split
    · exact gw_pre xs G _
    · exact List.IsPrefix.trans (List.prefix_append _ _) (gw_pre xs _ _)
theorem gw_len : ∀ (xs G S : List Int), (gwL xs G S).length ≤ G.length + xs.length
  | [], G, S => by simp [gwL]
  | x :: xs, G, S => by
    rw [gwL]
    split
    · have := gw_len xs G ((topL G + 1) :: S)
      simp at this ⊢; omega
    · have := gw_len xs (G ++ [S.headD 0]) S.tail
      simp at this ⊢; omega
/-- r goes on the growth p -/
def grT : List Int → List Int → Prop
  | _, [] => True
  | p, x :: r => 0 ≤ x ∧ x ≤ topL p + 1 ∧ grT (p ++ [x]) r
/-- no number of r but the first ones of their blocks has a greater one open -/
def noBad : List Int → List Int → Prop
  | _, [] => True
  | p, x :: r => (x ∈ p → ∀ y ∈ p, y ∈ r → y ≤ x) ∧ noBad (p ++ [x]) r
def fullP (p : List Int) : Prop := ∀ y, 0 ≤ y → y ≤ topL p → y ∈ p
theorem full_snoc {p : List Int} {x : Int} (h : fullP p) (hx : x ≤ topL p + 1) : fullP (p ++ [x]) := by
  intro y h0 h1
  rw [topL_snoc] at h1
  rw [List.mem_append, List.mem_singleton]
  by_cases e : y ≤ topL p
  · exact .inl (h y h0 e)
  · right; omega
theorem new_top {p : List Int} {x : Int} (h : fullP p) (h0 : 0 ≤ x) (hx : x ≤ topL p + 1) (hn : x ∉ p) : x = topL p + 1 := by
  by_cases e : x ≤ topL p
  · exact absurd (h x h0 e) hn
  · omega
structure SInv (p r S : List Int) : Prop where
  cnt : ∀ y, S.count y = if y ∈ p then r.count y else 0
  desc : S.Pairwise (fun a b => b ≤ a)
  full : fullP p
theorem SInv.mem {p r S : List Int} (h : SInv p r S) {y : Int} (hy : y ∈ S) : y ∈ p ∧ y ∈ r := by
  have h1 : 0 < S.count y := List.count_pos_iff.2 hy
  rw [h.cnt y] at h1
  split at h1
  · rename_i h2; exact ⟨h2, List.count_pos_iff.1 h1⟩
  · omega
theorem count_rep (c : Nat) (x y : Int) : (List.replicate c x).count y = if x = y then c else 0 := by
  rw [List.count_replicate]; simp
theorem SInv.new {p r S : List Int} {x : Int} (h : SInv p (x :: r) S) (hn : x ∉ p) (hx : x = topL p + 1) : SInv (p ++ [x]) r (List.replicate (r.count x) x ++ S) := by
  refine ⟨fun y => ?_, ?_, full_snoc h.full (by omega)⟩
  · rw [List.count_append, count_rep, h.cnt y]
    simp only [List.mem_append, List.mem_singleton]
    by_cases e : x = y
    · subst e
      rw [if_pos rfl, if_neg hn, if_pos (.inr rfl)]; rfl
    · rw [if_neg e, List.count_cons_of_ne (by simpa using e)]
      by_cases e2 : y ∈ p
      · rw [if_pos e2, if_pos (.inl e2)]; omega
      · rw [if_neg e2, if_neg (by rintro (h | h); exact e2 h; exact e h.symm)]
  · rw [List.pairwise_append]
    refine ⟨?_, h.desc, fun a ha b hb => ?_⟩
    · rw [List.pairwise_replicate]; right; omega
    · have h1 := List.eq_of_mem_replicate ha
      have h2 := topL_mem (h.mem hb).1
      omega
theorem SInv.old {p r S : List Int} {x : Int} (h : SInv p (x :: r) (x :: S)) (hp : x ∈ p) : SInv (p ++ [x]) r S := by
  refine ⟨fun y => ?_, (List.pairwise_cons.1 h.desc).2, full_snoc h.full (by have := topL_mem hp; omega)⟩
  have h1 := h.cnt y
  rw [List.count_cons, List.count_cons] at h1
  simp only [List.mem_append, List.mem_singleton]
  by_cases e2 : y ∈ p
  · rw [if_pos e2] at h1
    rw [if_pos (.inl e2)]
    split at h1 <;> omega
  · have e : ¬ x = y := fun e => e2 (e ▸ hp)
    rw [if_neg e2, if_neg (by simpa using e)] at h1
    rw [if_neg (by rintro (h | h); exact e2 h; exact e h.symm)]
    omega
theorem gw_run : ∀ (r p S : List Int), grT p r → SInv p r S → (gwL (woT p r) p S = p ++ r ↔ noBad p r)
  | [], p, S, _, _ => by simp [woT, gwL, noBad]
  | x :: r, p, S, hg, hi => by
    obtain ⟨g0, g1, g2⟩ := hg
    rw [woT, noBad]
    by_cases hp : x ∈ p
    · rw [if_pos hp, List.nil_append]
      have hc := hi.cnt x
      rw [if_pos hp, List.count_cons_self] at hc
      have hxS : x ∈ S := List.count_pos_iff.1 (by omega)
      cases S with
      | nil => simp at hxS
      | cons h S =>
        rw [gw_zero]
        by_cases e : h = x
        · subst e
          have := gw_run r (p ++ [h]) S g2 (hi.old hp)
          rw [List.append_assoc, List.singleton_append] at this
          rw [this]
          refine ⟨fun h2 => ⟨fun _ y hy hr => ?_, h2⟩, fun h2 => h2.2⟩
          by_cases e2 : y = h
          · omega
          · have h3 := hi.cnt y
            rw [if_pos hy, List.count_cons_of_ne (by simpa using Ne.symm e2), List.count_cons_of_ne (by simpa using Ne.symm e2)] at h3
            have h4 : y ∈ S := List.count_pos_iff.1 (by rw [h3]; exact List.count_pos_iff.2 hr)
            exact (List.pairwise_cons.1 hi.desc).1 y h4
        · have hxt : x ∈ S := by
            rcases List.mem_cons.1 hxS with h2 | h2
            · exact absurd h2.symm e
            · exact h2
          have hle := (List.pairwise_cons.1 hi.desc).1 x hxt
          obtain ⟨hm1, hm2⟩ := hi.mem (y := h) (by simp)
          refine iff_of_false (fun h2 => ?_) (fun h2 => ?_)
          · have h3 := gw_pre (woT (p ++ [x]) r) (p ++ [h]) S
            rw [h2] at h3
            have h4 := (List.prefix_append_right_inj p).1 h3
            have h5 := (List.cons_prefix_cons.1 h4).1
            exact e h5
          · have h3 := h2.1 hp h hm1 (by
              rcases List.mem_cons.1 hm2 with h4 | h4
              · exact absurd h4 e
              · exact h4)
            omega
    · have hx := new_top hi.full g0 g1 hp
      rw [if_neg hp, gw_ones, ← hx, List.count_cons_self, List.replicate_succ, List.cons_append, gw_zero]
      have := gw_run r (p ++ [x]) _ g2 (hi.new hp hx)
      rw [List.append_assoc, List.singleton_append] at this
      rw [this]
      exact ⟨fun h2 => ⟨fun h3 => absurd h3 hp, h2⟩, fun h2 => h2.2⟩

theorem grT_all : ∀ (r p : List Int), (∀ i, i < r.length → 0 ≤ r.getD i 0 ∧ r.getD i 0 ≤ topL (p ++ r.take i) + 1) → grT p r
  | [], p, _ => trivial
  | x :: r, p, h => by
    have h0 := h 0 (by simp)
    simp at h0
    refine ⟨h0.1, h0.2, grT_all r (p ++ [x]) fun i hi => ?_⟩
    have := h (i + 1) (by simpa using hi)
    simpa using this
theorem grT_of {a : List Int} (h : grB a = true) : grT [] a := by
  obtain ⟨h1, _, _⟩ := grB_iff.1 h
  refine grT_all a [] fun i hi => ?_
  rw [List.nil_append, topL_take (by omega)]
  exact h1 i hi
theorem full_nil : fullP [] := by
  intro y h0 h1
  have : topL [] = -1 := rfl
  omega
theorem sinv_nil (a : List Int) : SInv [] a [] := ⟨fun y => by simp, List.Pairwise.nil, full_nil⟩
theorem full_take {a : List Int} (h : grB a = true) : ∀ k, k ≤ a.length → fullP (a.take k)
  | 0, _ => by simpa using full_nil
  | k + 1, hk => by
    obtain ⟨h1, _, _⟩ := grB_iff.1 h
    rw [List.take_succ_eq_append_getElem (by omega)]
    refine full_snoc (full_take h k (by omega)) ?_
    rw [topL_take (by omega), ← getD_at (by omega)]
    exact (h1 k (by omega)).2
/-- a crossing as the model looks for it -/
def crAt (a : List Int) (i j k : Nat) : Prop := i < j ∧ j < k ∧ k < a.length ∧ a.getD i 0 = a.getD k 0 ∧ a.getD j 0 ≠ a.getD i 0 ∧ a.getD j 0 ∈ a.drop (k + 1)
def crP (a : List Int) : Prop := ∃ i j k, crAt a i j k
theorem noBad_iff : ∀ (r p : List Int), noBad p r ↔ ∀ k, k < r.length → r.getD k 0 ∈ p ++ r.take k → ∀ y ∈ p ++ r.take k, y ∈ r.drop (k + 1) → y ≤ r.getD k 0
  | [], p => by simp [noBad]
  | x :: r, p => by
    rw [noBad, noBad_iff r (p ++ [x])]
    constructor
    · rintro ⟨h1, h2⟩ k hk
      cases k with
      | zero => simpa using h1
      | succ k =>
        have := h2 k (by simpa using hk)
        simpa using this
    · intro h
      refine ⟨by simpa using h 0 (by simp), fun k hk => ?_⟩
      have := h (k + 1) (by simpa using hk)
      simpa using this
theorem take_has {a : List Int} {k : Nat} {y : Int} : y ∈ a.take k ↔ ∃ i, i < k ∧ i < a.length ∧ a.getD i 0 = y := by
  rw [List.mem_take_iff_getElem]
  constructor
  · rintro ⟨i, hi, rfl⟩
    have : i < a.length := by omega
    exact ⟨i, by omega, this, getD_at this⟩
  · rintro ⟨i, h1, h2, rfl⟩
    exact ⟨i, by omega, (getD_at h2).symm⟩
theorem drop_has {a : List Int} {k : Nat} {y : Int} : y ∈ a.drop k ↔ ∃ i, k ≤ i ∧ i < a.length ∧ a.getD i 0 = y := by
  rw [List.mem_drop_iff_getElem]
  constructor
  · rintro ⟨i, hi, rfl⟩
    exact ⟨k + i, by omega, by omega, getD_at (by omega)⟩
  · rintro ⟨i, h1, h2, rfl⟩
    refine ⟨i - k, by omega, ?_⟩
    rw [getD_at h2]
    congr 1; omega
theorem cross_iff {a : List Int} (h : grB a = true) : crP a ↔ ¬ noBad [] a := by
  obtain ⟨hg, _, _⟩ := grB_iff.1 h
  rw [noBad_iff]
  simp only [List.nil_append]
  constructor
  · rintro ⟨i, j, k, h1, h2, h3, h4, h5, h6⟩ hn
    by_cases e : a.getD k 0 < a.getD j 0
    · have := hn k h3 (take_has.2 ⟨i, by omega, by omega, h4⟩) (a.getD j 0) (take_has.2 ⟨j, h2, by omega, rfl⟩) h6
      omega
    · have hlt : a.getD j 0 < a.getD i 0 := by omega
      have hi := hg i (by omega)
      have hjj := hg j (by omega)
      have hm : a.getD j 0 ∈ a.take i := full_take h i (by omega) _ hjj.1 (by rw [topL_take (by omega)]; omega)
      obtain ⟨q, q1, q2, q3⟩ := take_has.1 hm
      have := hn j (by omega) (take_has.2 ⟨q, by omega, q2, q3⟩) (a.getD i 0) (take_has.2 ⟨i, h1, by omega, rfl⟩) (drop_has.2 ⟨k, by omega, h3, h4.symm⟩)
      omega
  · intro hn
    refine Classical.byContradiction fun hc => hn fun k hk hx y hy hd => Classical.byContradiction fun hlt => hc ?_
    obtain ⟨j, j1, j2, j3⟩ := take_has.1 hy
    have hj := hg j j2
    have hkk := hg k hk
    have hm : a.getD k 0 ∈ a.take j := full_take h j (by omega) _ hkk.1 (by rw [topL_take (by omega)]; omega)
    obtain ⟨i, i1, i2, i3⟩ := take_has.1 hm
    exact ⟨i, j, k, i1, j1, hk, i3, by omega, by rw [j3]; exact hd⟩
theorem back_iff {a : List Int} (h : grB a = true) : gwL (woT [] a) [] [] = a ↔ ¬ crP a := by
  have := gw_run a [] [] (grT_of h) (sinv_nil a)
  rw [List.nil_append] at this
  rw [this, cross_iff h]
  exact Classical.not_not.symm
/-- the word of a growth is balanced -/
def opN (p r : List Int) : Nat := (r.filter (fun x => decide (x ∈ p))).length
theorem opN_new {p : List Int} {x : Int} (hp : x ∉ p) (r : List Int) : opN (p ++ [x]) r = opN p r + r.count x := by
  unfold opN
  induction r with
  | nil => rfl
  | cons y r ih =>
    rw [List.filter_cons, List.filter_cons, List.count_cons]
    by_cases e : y = x
    · subst e
      simp [hp] at ih ⊢
      omega
    · by_cases e2 : y ∈ p
      · simp [e, e2] at ih ⊢
        omega
      · simp [e, e2] at ih ⊢
        omega
theorem opN_old {p : List Int} {x : Int} (hp : x ∈ p) (r : List Int) : opN (p ++ [x]) r = opN p r := by
  unfold opN
  congr 1
  refine List.filter_congr fun y _ => ?_
  rw [decide_eq_decide, List.mem_append, List.mem_singleton]
  exact ⟨fun h => h.elim id (fun h => h ▸ hp), .inl⟩
theorem opN_in {p : List Int} {x : Int} (hp : x ∈ p) (r : List Int) : opN p (x :: r) = opN p r + 1 := by
  unfold opN; rw [List.filter_cons, if_pos (by simpa using hp), List.length_cons]
theorem opN_out {p : List Int} {x : Int} (hp : x ∉ p) (r : List Int) : opN p (x :: r) = opN p r := by
  unfold opN; rw [List.filter_cons, if_neg (by simpa using hp)]
theorem wo_len : ∀ (r p : List Int), (woT p r).length + opN p r = 2 * r.length
  | [], p => rfl
  | x :: r, p => by
    have ih := wo_len r (p ++ [x])
    rw [woT]
    by_cases hp : x ∈ p
    · rw [opN_old hp] at ih
      rw [if_pos hp, opN_in hp]
      simp; omega
    · rw [opN_new hp] at ih
      rw [if_neg hp, opN_out hp, List.count_cons_self]
      simp; omega
theorem wo_len0 (a : List Int) : (woT [] a).length = 2 * a.length := by
  have := wo_len a []
  have h : opN [] a = 0 := by unfold opN; simp
  omega
theorem blOk_ones (xs : List Int) : ∀ (c : Nat) (t : Int), 0 ≤ t → blOk xs (t + c) = true → blOk (List.replicate c 1 ++ xs) t = true
  | 0, t, _, h => by simpa using h
  | c + 1, t, h0, h => by
    rw [List.replicate_succ, List.cons_append, blOk_cons]
    refine ⟨by omega, by omega, by omega, blOk_ones xs c _ (by omega) ?_⟩
    rw [show t + (2 * 1 - 1) + (c : Int) = t + ((c + 1 : Nat) : Int) by omega]
    exact h
theorem wo_ok : ∀ (r p : List Int), blOk (woT p r) (opN p r : Int) = true
  | [], p => rfl
  | x :: r, p => by
    have ih := wo_ok r (p ++ [x])
    rw [woT]
    by_cases hp : x ∈ p
    · rw [opN_old hp] at ih
      rw [if_pos hp, List.nil_append, opN_in hp, blOk_cons]
      refine ⟨by omega, by omega, by omega, ?_⟩
      rw [show ((opN p r + 1 : Nat) : Int) + (2 * 0 - 1) = (opN p r : Int) by omega]
      exact ih
    · rw [opN_new hp] at ih
      rw [if_neg hp, opN_out hp, List.count_cons_self]
      refine blOk_ones _ _ _ (by omega) ?_
      rw [blOk_cons]
      refine ⟨by omega, by omega, by omega, ?_⟩
      rw [show (opN p r : Int) + ((r.count x + 1 : Nat) : Int) + (2 * 0 - 1) = ((opN p r + r.count x : Nat) : Int) by omega]
      exact ih
theorem wo_bal (a : List Int) : blOk (woT [] a) 0 = true := by
  have := wo_ok a []
  have h : opN [] a = 0 := by unfold opN; simp
  rw [h] at this
  exact this
end Go.Proofs.Ytakelcboamjndaa
