/- Plain facts: lists put in order, paths through words, and parities along them. No conditions. -/
import Derived.Test.YtijjdidljoicfaaDoorWalkM
import Derived.Test.YtijjdidljoicfaaDoorCode
namespace Go.Proofs.YtijjdidljoicfaaDoor
open Go.RowKit
set_option linter.unusedVariables false

/-- x put into a rising list, unless it is there -/
def putL (x : Int) : List Int → List Int
  | [] => [x]
  | y :: t => if y < x then y :: putL x t else if y = x then y :: t else x :: y :: t
def sortW (xs : List Int) : List Int := xs.foldl (fun l x => putL x l) []
def Up (l : List Int) : Prop := l.Pairwise (fun a b => a < b)
theorem mem_putL {x y : Int} : ∀ {l : List Int}, y ∈ putL x l ↔ y = x ∨ y ∈ l
  | [] => by simp [putL]
  | z :: t => by
    rw [putL]
    split
    · rw [List.mem_cons, mem_putL, List.mem_cons]
      constructor
      · rintro (h | h | h) <;> simp [h]
      · rintro (h | h | h) <;> simp [h]
    · split
      · rename_i h; subst h; simp
      · simp
theorem up_putL {x : Int} : ∀ {l : List Int}, Up l → Up (putL x l)
  | [], _ => by simp [putL, Up]
  | z :: t, h => by
    obtain ⟨h1, h2⟩ := List.pairwise_cons.1 h
    rw [putL]
    split
    · rename_i hz
      refine List.pairwise_cons.2 ⟨fun y hy => ?_, up_putL h2⟩
      rcases mem_putL.1 hy with rfl | hy
      · exact hz
      · exact h1 y hy
    · split
      · exact h
      · rename_i h3 h4
        refine List.pairwise_cons.2 ⟨fun y hy => ?_, h⟩
        rcases List.mem_cons.1 hy with rfl | hy
        · omega
        · have := h1 y hy; omega
theorem len_putL {x : Int} : ∀ {l : List Int}, Up l → (putL x l).length = if x ∈ l then l.length else l.length + 1
  | [], _ => by simp [putL]
  | z :: t, h => by
    obtain ⟨h1, h2⟩ := List.pairwise_cons.1 h
    rw [putL]
    split
    · rename_i hz
      rw [List.length_cons, len_putL h2]
      have : x ≠ z := by omega
      by_cases hx : x ∈ t
      · rw [if_pos hx, if_pos (by simp [hx])]; simp
      · rw [if_neg hx, if_neg (by simp [hx, this])]; simp
    · split
      · rename_i h4
        rw [if_pos (by simp [h4])]
      · rename_i h3 h4
        rw [if_neg]
        · simp
        · intro hx
          rcases List.mem_cons.1 hx with rfl | hx
          · exact h4 rfl
          · have := h1 x hx; omega
theorem sortW_snoc (xs : List Int) (x : Int) : sortW (xs ++ [x]) = putL x (sortW xs) := by simp [sortW, List.foldl_append]
theorem sortTo_succ {xs : List Int} {k : Nat} (h : k < xs.length) : sortW (xs.take (k + 1)) = putL xs[k] (sortW (xs.take k)) := by
  rw [List.take_succ_eq_append_getElem h, sortW_snoc]
theorem sort_facts (xs : List Int) : ∀ k, k ≤ xs.length → Up (sortW (xs.take k)) ∧ (∀ y, y ∈ sortW (xs.take k) ↔ y ∈ xs.take k) ∧ (sortW (xs.take k)).length ≤ k ∧ ((sortW (xs.take k)).length = k ↔ allTo k (freshAt xs) = true) := by
  intro k
  induction k with
  | zero => intro _; exact ⟨by simp [sortW, Up], by simp [sortW], by simp [sortW], by simp [sortW, allTo_zero]⟩
  | succ k ih =>
    intro hk
    obtain ⟨h1, h2, h3, h4⟩ := ih (by omega)
    have hlt : k < xs.length := by omega
    rw [sortTo_succ hlt]
    refine ⟨up_putL h1, fun y => ?_, ?_, ?_⟩
    · rw [mem_putL, h2, List.take_succ_eq_append_getElem hlt, List.mem_append, List.mem_singleton]
      exact Or.comm
    · rw [len_putL h1]; split <;> omega
    · rw [len_putL h1, allTo_succ, Bool.and_eq_true, ← h4]
      have hf : freshAt xs k = true ↔ ¬ xs[k] ∈ sortW (xs.take k) := by
        rw [h2, freshAt, getD_at hlt]
        have := hasB_iff (xs := xs.take k) (y := xs[k])
        cases hb : hasB (xs.take k) xs[k] with
        | true => rw [hb] at this; simp [this.1 rfl]
        | false => rw [hb] at this; simp; exact fun h => by have := this.2 h; cases this
      rw [hf]
      by_cases hm : xs[k] ∈ sortW (xs.take k)
      · rw [if_pos hm]
        exact ⟨fun h => by omega, fun h => absurd hm h.2⟩
      · rw [if_neg hm]
        exact ⟨fun h => ⟨by omega, hm⟩, fun h => by omega⟩
theorem up_nodup {l : List Int} (h : Up l) : l.Nodup := by
  rw [List.nodup_iff_pairwise_ne]
  exact h.imp (fun h => by omega)
theorem up_same : ∀ {a b : List Int}, Up a → Up b → (∀ y, y ∈ a ↔ y ∈ b) → a = b
  | [], [], _, _, _ => rfl
  | [], y :: b, _, _, h => by have := (h y).2 (by simp); simp at this
  | x :: a, [], _, _, h => by have := (h x).1 (by simp); simp at this
  | x :: a, y :: b, ha, hb, h => by
    obtain ⟨h1, h2⟩ := List.pairwise_cons.1 ha
    obtain ⟨h3, h4⟩ := List.pairwise_cons.1 hb
    have e : x = y := by
      have hx := (h x).1 (by simp)
      have hy := (h y).2 (by simp)
      rcases List.mem_cons.1 hx with e | hx
      · exact e
      · rcases List.mem_cons.1 hy with e | hy
        · exact e.symm
        · have := h3 x hx; have := h1 y hy; omega
    subst e
    rw [up_same h2 h4 (fun z => ?_)]
    constructor
    · intro hz
      rcases List.mem_cons.1 ((h z).1 (by simp [hz])) with e | hz'
      · have := h1 z hz; omega
      · exact hz'
    · intro hz
      rcases List.mem_cons.1 ((h z).2 (by simp [hz])) with e | hz'
      · have := h3 z hz; omega
      · exact hz'
theorem sort_all {xs : List Int} (h : diffB xs = true) : Up (sortW xs) ∧ (∀ y, y ∈ sortW xs ↔ y ∈ xs) ∧ (sortW xs).length = xs.length := by
  have := sort_facts xs xs.length (Nat.le_refl _)
  rw [List.take_length] at this
  exact ⟨this.1, this.2.1, this.2.2.2.2 h⟩
theorem sort_len {xs : List Int} : (sortW xs).length = xs.length ↔ diffB xs = true := by
  have := (sort_facts xs xs.length (Nat.le_refl _)).2.2.2
  rw [List.take_length] at this
  exact this
/-- What a sort leaves of different numbers. -/
theorem sort_is {xs ys : List Int} (hd : diffB xs = true) (hp : ys.Perm xs) (hs : ys.Pairwise (fun a b => a ≤ b)) : ys = sortW xs := by
  obtain ⟨h1, h2, h3⟩ := sort_all hd
  have hn : ys.Nodup := by
    have hl : (sortW xs).Perm ys := by
      refine (List.perm_ext_iff_of_nodup (up_nodup h1) ?_).2 (fun y => by rw [h2, hp.mem_iff])
      rw [hp.nodup_iff]
      rw [List.nodup_iff_pairwise_ne, List.pairwise_iff_getElem]
      intro i j hi hj hij e
      have := (allTo_iff _ _).1 hd j hj
      rw [freshAt, getD_at hj] at this
      have hm : hasB (xs.take j) xs[j] = true := hasB_iff.2 (by
        rw [← e]
        exact List.mem_iff_getElem.2 ⟨i, by simp; omega, by simp⟩)
      rw [hm] at this
      cases this
    exact hl.nodup_iff.1 (up_nodup h1)
  refine up_same ?_ h1 (fun y => by rw [h2, hp.mem_iff])
  rw [List.nodup_iff_pairwise_ne] at hn
  exact (hs.and hn).imp (fun h => by omega)

/-- the least path that goes on p, or [] -/
def gcpL (f : List Int → List Int) (p : List Int) : List Int → List Int
  | [] => []
  | x :: xs => if stopB p x = true then gcpL f p xs else if (f (p ++ [x])).length = 0 then gcpL f p xs else f (p ++ [x])
def gcp (ws : List Int) : Nat → List Int → List Int
  | 0, p => p
  | m + 1, p => gcpL (gcp ws m) p ws
def visP (p : List Int) (_ : List Int) : Bool × List Int := (false, p)
theorem wlk_gcp {ws : List Int} (h0 : 0 < ws.length) : ∀ (m : Nat) (p s : List Int), p.length + m = ws.length → wlk ws visP m p s = if (gcp ws m p).length = 0 then (true, s) else (false, gcp ws m p) := by
  intro m
  induction m with
  | zero =>
    intro p s hp
    rw [wlk, gcp, visP, if_neg (by omega)]
  | succ m ih =>
    intro p s hp
    rw [wlk, gcp]
    have key : ∀ (vs s : List Int), wlkL (wlk ws visP m) p vs s = if (gcpL (gcp ws m) p vs).length = 0 then (true, s) else (false, gcpL (gcp ws m) p vs) := by
      intro vs
      induction vs with
      | nil => intro s; rfl
      | cons x t iht =>
        intro s
        rw [wlkL, gcpL]
        split
        · exact iht s
        · rw [ih (p ++ [x]) s (by simp; omega)]
          by_cases hz : (gcp ws m (p ++ [x])).length = 0
          · rw [if_pos hz, if_pos hz]
            simp only [if_true]
            exact iht s
          · rw [if_neg hz, if_neg hz]
            simp [hz]
    exact key ws s

/-- p is a path through words of ws -/
def Good (ws p : List Int) : Prop := p.Nodup ∧ (∀ y ∈ p, y ∈ ws) ∧ ∀ i, i + 1 < p.length → cbB ((p.getD i 0).toNat ^^^ (p.getD (i + 1) 0).toNat) = true
theorem Good.snoc {ws p : List Int} {x : Int} (h : Good ws p) (hx : x ∈ ws) (hs : stopB p x = false) : Good ws (p ++ [x]) := by
  obtain ⟨h1, h2, h3⟩ := h
  rw [stopB, Bool.or_eq_false_iff] at hs
  obtain ⟨s1, s2⟩ := hs
  have hno : x ∉ p := fun hm => by rw [hasB_iff.2 hm] at s1; cases s1
  have hf : folB p x = true := by simpa using s2
  refine ⟨?_, fun y hy => ?_, fun i hi => ?_⟩
  · rw [List.nodup_append]
    refine ⟨h1, by simp, fun a ha b hb => ?_⟩
    simp at hb
    subst hb
    exact fun e => hno (e ▸ ha)
  · rcases List.mem_append.1 hy with hy | hy
    · exact h2 y hy
    · simp at hy; subst hy; exact hx
  · by_cases hl : i + 1 < p.length
    · have := h3 i hl
      simp only [List.getD_eq_getElem?_getD] at this ⊢
      rw [List.getElem?_append_left (by omega), List.getElem?_append_left hl]
      exact this
    · have hi2 : i + 1 = p.length := by simp at hi; omega
      rw [folB, Bool.or_eq_true, decide_eq_true_eq] at hf
      rcases hf with hf | hf
      · omega
      · rw [lastN, show p.length - 1 = i by omega] at hf
        have e1 : (p ++ [x]).getD i 0 = p.getD i 0 := by simp only [List.getD_eq_getElem?_getD]; rw [List.getElem?_append_left (by omega)]
        have e2 : (p ++ [x]).getD (i + 1) 0 = x := by rw [hi2]; simp [List.getD_eq_getElem?_getD]
        rw [e1, e2]; exact hf
theorem gcp_good {ws : List Int} : ∀ (m : Nat) (p : List Int), Good ws p → p.length + m = ws.length → (gcp ws m p).length ≠ 0 → Good ws (gcp ws m p) ∧ (gcp ws m p).length = ws.length := by
  intro m
  induction m with
  | zero => intro p hg hp _; exact ⟨hg, by rw [gcp]; omega⟩
  | succ m ih =>
    intro p hg hp
    rw [gcp]
    have key : ∀ vs : List Int, (∀ y ∈ vs, y ∈ ws) → (gcpL (gcp ws m) p vs).length ≠ 0 → Good ws (gcpL (gcp ws m) p vs) ∧ (gcpL (gcp ws m) p vs).length = ws.length := by
      intro vs
      induction vs with
      | nil => intro _ h; exact absurd rfl h
      | cons x t iht =>
        intro hm
        rw [gcpL]
        split
        · exact iht (fun y hy => hm y (by simp [hy]))
        · rename_i hs
          split
          · exact iht (fun y hy => hm y (by simp [hy]))
          · intro hz
            exact ih (p ++ [x]) (hg.snoc (hm x (by simp)) (by simpa using hs)) (by simp; omega) hz
    exact key ws (fun y hy => hy)
theorem gcp_len {ws : List Int} (m : Nat) (p : List Int) (hg : Good ws p) (hp : p.length + m = ws.length) : (gcp ws m p).length ≤ ws.length := by
  by_cases h : (gcp ws m p).length = 0
  · omega
  · have := (gcp_good m p hg hp h).2; omega
theorem good_nil (ws : List Int) : Good ws [] := ⟨by simp, by simp, fun i hi => by simp at hi⟩
def oddW (x : Int) : Bool := decide (popN x.toNat % 2 = 1)
def cntOdd (q : List Int) : Nat := (q.filter oddW).length
theorem oddOf_cnt (xs : List Int) : ∀ k, k ≤ xs.length → oddOf xs k = cntOdd (xs.take k) := by
  intro k
  induction k with
  | zero => intro _; rfl
  | succ k ih =>
    intro hk
    have hlt : k < xs.length := by omega
    rw [oddOf, ih (by omega), List.take_succ_eq_append_getElem hlt, getD_at hlt, cntOdd, cntOdd, List.filter_append, List.length_append]
    congr 1
    rcases Nat.mod_two_eq_zero_or_one (popN xs[k].toNat) with h | h
    · rw [h]; simp [oddW, h]
    · rw [h]; simp [oddW, h]
set_option maxRecDepth 100000 in
theorem par_flip : ∀ x, x < 1024 → ∀ b, b < 10 → (popN (x ^^^ 2 ^ b) + popN x) % 2 = 1 := by decide +kernel
theorem cb_odd {x y : Nat} (hx : x < 1024) (hy : y < 1024) (h : cbB (x ^^^ y) = true) : (popN x + popN y) % 2 = 1 := by
  have hd := xor_lt hx hy
  have h0 : 0 ≤ bitD (x ^^^ y) := by simpa [cbB] using h
  by_cases hp : popN (x ^^^ y) = 1
  · obtain ⟨b, hb, e⟩ := pop_pow _ hd hp
    have e2 : y = x ^^^ 2 ^ b := by rw [← e, ← Nat.xor_assoc, Nat.xor_self, Nat.zero_xor]
    have := par_flip x hx b hb
    rw [← e2] at this
    omega
  · rw [bitD_pop _ hd hp] at h0
    omega
/-- Along a path words are even and odd in turn. -/
theorem turns : ∀ (q : List Int), (∀ y ∈ q, 0 ≤ y ∧ y < 1024) → (∀ i, i + 1 < q.length → cbB ((q.getD i 0).toNat ^^^ (q.getD (i + 1) 0).toNat) = true) →
    (oddW (q.getD 0 0) = true → 0 < q.length → q.length ≤ 2 * cntOdd q ∧ 2 * cntOdd q ≤ q.length + 1) ∧ (oddW (q.getD 0 0) = false → 0 < q.length → 2 * cntOdd q ≤ q.length ∧ q.length ≤ 2 * cntOdd q + 1)
  | [], _, _ => ⟨fun _ h => by simp at h, fun _ h => by simp at h⟩
  | [x], _, _ => by
    refine ⟨fun h _ => ?_, fun h _ => ?_⟩
    · have h : oddW x = true := h
      simp [cntOdd, h]
    · have h : oddW x = false := h
      simp [cntOdd, h]
  | x :: y :: t, hs, ha => by
    have hx := hs x (by simp)
    have hy := hs y (by simp)
    have h0 : cbB (x.toNat ^^^ y.toNat) = true := ha 0 (by simp)
    have hpar := cb_odd (by omega) (by omega) h0
    obtain ⟨i1, i2⟩ := turns (y :: t) (fun z hz => hs z (by simp [hz])) (fun i hi => by
      have := ha (i + 1) (by simp at hi ⊢; omega)
      simpa using this)
    have i1 : oddW y = true → 0 < (y :: t).length → (y :: t).length ≤ 2 * cntOdd (y :: t) ∧ 2 * cntOdd (y :: t) ≤ (y :: t).length + 1 := i1
    have i2 : oddW y = false → 0 < (y :: t).length → 2 * cntOdd (y :: t) ≤ (y :: t).length ∧ (y :: t).length ≤ 2 * cntOdd (y :: t) + 1 := i2
    have hl : (x :: y :: t).length = (y :: t).length + 1 := rfl
    refine ⟨fun h _ => ?_, fun h _ => ?_⟩
    · have h : oddW x = true := h
      have hyo : oddW y = false := by simp only [oddW, decide_eq_true_eq, decide_eq_false_iff_not] at h ⊢; omega
      have := i2 hyo (by simp)
      have hc : cntOdd (x :: y :: t) = cntOdd (y :: t) + 1 := by rw [cntOdd, List.filter_cons_of_pos h]; rfl
      omega
    · have h : oddW x = false := h
      have hyo : oddW y = true := by simp only [oddW, decide_eq_true_eq, decide_eq_false_iff_not] at h ⊢; omega
      have := i1 hyo (by simp)
      have hc : cntOdd (x :: y :: t) = cntOdd (y :: t) := by rw [cntOdd, List.filter_cons_of_neg (by simp [h])]; rfl
      omega
theorem permOf2 : ∀ {ys S : List Int}, ys.Nodup → (∀ y ∈ ys, y ∈ S) → ys.length = S.length → ys.Perm S
  | [], S, _, _, h => by
    have : S = [] := List.eq_nil_of_length_eq_zero h.symm
    subst this; exact List.Perm.refl _
  | y :: t, S, hn, hs, h => by
    rw [List.nodup_cons] at hn
    have h1 := List.perm_cons_erase (hs y (by simp))
    have hl : t.length = (S.erase y).length := by have := h1.length_eq; simp at this h; omega
    have h2 := permOf2 (S := S.erase y) hn.2 (fun z hz => by
      have hne : z ≠ y := fun e => hn.1 (e ▸ hz)
      exact (List.mem_erase_of_ne hne).2 (hs z (by simp [hz]))) hl
    exact (h2.cons y).trans h1.symm
/-- Halves that differ by more than one refuse every path. -/
theorem halves_refuse {ws : List Int} (hs : ∀ y ∈ ws, 0 ≤ y ∧ y < 1024) (h0 : 0 < ws.length) (h : ¬ (2 * oddOf ws ws.length ≤ ws.length + 1 ∧ ws.length ≤ 2 * oddOf ws ws.length + 1)) : (gcp ws ws.length []).length = 0 := by
  apply Classical.byContradiction
  intro hz
  obtain ⟨⟨g1, g2, g3⟩, g4⟩ := gcp_good ws.length [] (good_nil ws) (by simp) hz
  generalize gcp ws ws.length [] = q at g1 g2 g3 g4
  have hp := permOf2 g1 g2 g4
  have hc : cntOdd q = oddOf ws ws.length := by
    rw [oddOf_cnt ws _ (Nat.le_refl _), List.take_length]
    exact (hp.filter oddW).length_eq
  obtain ⟨t1, t2⟩ := turns q (fun y hy => hs y (g2 y hy)) g3
  rw [g4, hc] at t1 t2
  cases ho : oddW (q.getD 0 0) with
  | true => have := t1 ho h0; omega
  | false => have := t2 ho h0; omega

/-- PathThrough's answer -/
def ptOk (n : Int) (xs : List Int) : Bool := wordsB n xs && (decide (1 ≤ xs.length) && (decide (xs.length ≤ 12) && diffB xs))
def ptL (xs : List Int) : List Int := gcp (sortW xs) (sortW xs).length []
def ptRes (n : Int) (xs : List Int) : List Int := if ptOk n xs = true then ptL xs else []
def ptB (n : Int) (xs : List Int) : Bool := decide (0 < (ptRes n xs).length)
end Go.Proofs.YtijjdidljoicfaaDoor
