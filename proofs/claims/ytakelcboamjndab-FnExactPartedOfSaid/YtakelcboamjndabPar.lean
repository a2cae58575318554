/- Contracts: both ParentsOf. Conditions: slices that are not nil and read as lists of at most 2^20 numbers. -/
import Derived.Test.YtakelcboamjndabBal2
namespace Go.Proofs.Ytakelcboamjndab
open Go.RowKit Go.Maps
set_option linter.unusedVariables false
set_option maxRecDepth 4000

/-- nodes that are open, the last one first, and -1 -/
def chS (P : List Int) : List Int → Prop
  | [] => False
  | [a] => a = -1
  | a :: b :: r => 0 ≤ a ∧ a < P.length ∧ P.getD a.toNat 0 = b ∧ chS P (b :: r)
theorem chS_more {P : List Int} {x : Int} : ∀ {S : List Int}, chS P S → chS (P ++ [x]) S
  | [], h => h
  | [a], h => h
  | a :: b :: r, ⟨h1, h2, h3, h4⟩ => by
    refine ⟨h1, by rw [List.length_append]; simp; omega, ?_, chS_more h4⟩
    rw [List.getD_eq_getElem?_getD, List.getElem?_append_left (by omega), ← List.getD_eq_getElem?_getD, h3]
theorem chS_push {P S : List Int} (h : chS P S) : chS (P ++ [S.headD 0]) ((P.length : Int) :: S) := by
  cases S with
  | nil => exact h.elim
  | cons a r =>
    refine ⟨by omega, by rw [List.length_append, List.length_singleton]; omega, ?_, chS_more h⟩
    simp [List.getD_eq_getElem?_getD]
theorem Own.slice6 {w : World} {B : Nat} {v : Value} {xs : List Int} (h : Own w B v xs) : ∃ ao c, v = .slice ao xs.length c ∧ c ≤ 9223372036854775807 := by
  obtain ⟨ao, c, rfl, hc, _⟩ := h.view2
  exact ⟨ao, c, rfl, hc⟩
def prL : List Int → List Int → List Int → List Int
  | [], P, _ => P
  | x :: xs, P, S => if x = 1 then prL xs (P ++ [S.headD 0]) ((P.length : Int) :: S) else prL xs P S.tail
theorem prL_len : ∀ (xs P S : List Int), (prL xs P S).length ≤ P.length + xs.length
  | [], P, S => by simp [prL]
  | x :: xs, P, S => by
    rw [prL]
    split
    · have := prL_len xs (P ++ [S.headD 0]) ((P.length : Int) :: S)
      rw [List.length_append, List.length_singleton] at this
      rw [List.length_cons]; omega
    · have := prL_len xs P S.tail
      rw [List.length_cons]; omega
def prRes (xs : List Int) : List Int := if blB xs = true then prL xs [] [-1] else []
theorem bound_ParentsOf (xs : List Int) : (prRes xs).length ≤ 1048576 := by
  unfold prRes
  split
  · rename_i h
    have h1 := prL_len xs [] [-1]
    unfold blB at h
    rw [Bool.and_eq_true, decide_eq_true_eq] at h
    simp at h1; omega
  · simp
theorem blB_two {xs : List Int} (h : blB xs = true) : blOk xs 0 = true ∧ xs.length ≤ 24 := by
  unfold blB at h
  rw [Bool.and_eq_true, decide_eq_true_eq] at h
  exact h
set_option maxHeartbeats 1000000 in
theorem spParents_any (v : Value) (xs : List Int) (w : World) (h : Reads w v xs) (hg : blB xs = true) :
    Calls Try.prog 47 #[v] w fun e w' => ∃ u, e = .returned u ∧ Own w' w.heap.size u (prL xs [] [-1]) ∧ Below w.heap.size w w' := by
  obtain ⟨h1, h2⟩ := blB_two hg
  have HOK := hid h1
  obtain ⟨T, hT⟩ : ∃ T, T = prL xs [] [-1] := ⟨_, rfl⟩
  have HT := hid hT.symm
  rw [← hT]
  clear h1 hT hg
  obtain ⟨i0, hi, hz0, hz1, hz2⟩ := info_parts Try.info3
  obtain ⟨ao, c, rfl, hc1, hm, h⟩ := h.view
  have hcell : xs.length = 0 ∨ ∃ b off, ao = some ⟨b, off, none⟩ ∧ b < w.heap.size ∧ ∀ i (hi : i < xs.length), w.cell? ⟨b, off + i, none⟩ = some (.int .i64 xs[i]) := by
    rcases h with h | ⟨b, off, rfl, hb, hc⟩
    · left; rw [h]; rfl
    · exact .inr ⟨b, off, rfl, hb, hc⟩
  have HCELL := hid hcell
  clear h hcell
  go_enter Try.func47, Try.ntmps47
  go_wp2_with fail
  go_loopw [3, 4, 9] (fun v a i wr => ∃ (k t : Nat) (P S : List Int), k ≤ xs.length ∧ i = .int .i64 k ∧ a = .int .i64 (S.headD 0) ∧ Own wr w.heap.size v P ∧ chS P S ∧ S.length = t + 1 ∧ blOk (xs.drop k) t = true ∧ prL (xs.drop k) P S = T ∧ P.length ≤ k ∧ Below w.heap.size w wr) (fun _ _ i _ => xs.length - (intOf i).toNat)
  case atStart => exact ⟨0, 0, [], [-1], Nat.zero_le _, rfl, rfl, Own.nil _ _, rfl, rfl, HOK.out, HT.out, Nat.le_refl _, Below.refl _ _⟩
  case round =>
    obtain ⟨k, t, P, S, hk, rfl, rfl, hown, hch, hsl, hok, hpr, hpl, hbel⟩ := hrel
    by_cases hlt : k < xs.length
    · rcases HCELL.out with h | ⟨b, off, rfl, hb, hc⟩
      · omega
      have hcx := (hbel.cell (p := ⟨b, off + k, none⟩) (by exact hb)).trans (hc k hlt)
      obtain ⟨x, hx⟩ : ∃ x, x = xs[k] := ⟨_, rfl⟩
      have hd : xs.drop k = x :: xs.drop (k + 1) := by rw [List.drop_eq_getElem_cons hlt, hx]
      rw [← hx] at hcx
      rw [hd] at hok hpr
      obtain ⟨x1, x2, x3, x4⟩ := blOk_cons.1 hok
      have HB := hid hbel
      have HOWN := hid hown
      have q1 : (0 : Int) ≤ (k : Int) := by omega
      have q2 : (k : Int) < (xs.length : Int) := by omega
      have hx01 : x = 0 ∨ x = 1 := by omega
      rcases hx01 with rfl | rfl
      · rw [prL, if_neg (by decide)] at hpr
        cases S with
        | nil => exact hch.elim
        | cons a r =>
          cases r with
          | nil => simp at hsl; omega
          | cons y r =>
            obtain ⟨g1, g2, g3, g4⟩ := hch
            obtain ⟨n, rfl⟩ := Int.eq_ofNat_of_zero_le g1
            obtain ⟨ap, cp, rfl, hcp, hcc⟩ := hown.view2
            rcases hcc with h0 | ⟨gp, rfl, _, _, hcell⟩
            · rw [h0] at g2; simp at g2; omega
            have hn : n < P.length := by omega
            have hcn := hcell n hn
            have e3 : P[n] = y := by rw [← getD_at hn]; exact g3
            rw [e3] at hcn
            have HCH := hid g4
            have HPR := hid (show prL (xs.drop (k + 1)) P (y :: r) = T from hpr)
            have HO := hid (show blOk (xs.drop (k + 1)) ((t - 1 : Nat) : Int) = true by rw [show ((t - 1 : Nat) : Int) = (t : Int) + (2 * 0 - 1) by omega]; exact x4)
            have HSL := hid (show (y :: r).length = t - 1 + 1 by simp at hsl ⊢; omega)
            have q3 : (n : Int) < (P.length : Int) := by omega
            have q4 : (0 : Int) ≤ (n : Int) := by omega
            rw [show ((((n : Nat) : Int)) :: y :: r).headD 0 = (n : Int) from rfl]
            clear hown hok hpr hbel hcell hc hd hx x3 x4 g1 g2 g3 g4 e3 hsl
            go_wp2_with fail
            go_roundw
            case rel => exact ⟨k + 1, t - 1, P, y :: r, by omega, by go_num, rfl, HOWN.out, HCH.out, HSL.out, HO.out, HPR.out, by omega, HB.out⟩
            case measure => simp [intOf]; omega
      · rw [prL, if_pos rfl] at hpr
        have HCH := hid (chS_push hch)
        have HPR := hid hpr
        have HO := hid (show blOk (xs.drop (k + 1)) ((t + 1 : Nat) : Int) = true by rw [show ((t + 1 : Nat) : Int) = (t : Int) + (2 * 1 - 1) by omega]; exact x4)
        have HSL := hid (show ((P.length : Int) :: S).length = t + 1 + 1 by simp; omega)
        have hp24 : P.length ≤ 24 := by omega
        obtain ⟨a, ha⟩ : ∃ a, a = S.headD 0 := ⟨_, rfl⟩
        rw [← ha] at HCH HPR ⊢
        have HPL := hid (show (P ++ [a]).length = P.length + 1 by simp)
        have u1 : IntKind.i64.wrap ((P.length : Int) + 1 - 1) = (P.length : Int) := by rw [IntWalk.i64_in _ (by omega)]; omega
        have u2 : (P.length : Int) + 1 - 1 = (P.length : Int) := by omega
        clear hown hok hpr hbel hc hd hx x3 x4 hch hsl ha
        go_wp2_with (first
          | (at_builtin; refine wpList_append_own _ rfl _ _ 22 rfl w.heap.size 3 i0 (.int .i64 0) 1 8 Try.underlying22 hi hz0 hz1 hz2 rfl (by decide) _ _ _ rfl (World.ownsRow.alloc HOWN.out.row _) ⟨wr.heap.size, 0, none⟩ 1 1 [.int .i64 a] rfl rfl (fun j u hj => new_cell1 j hj) (one_cell _ _) (by unfold maxLen; omega) (by omega) (by have := HB.out.size; (try simp); omega) ?_; intro v' w5 hown5 hgrow5 _; obtain ⟨ap, cp, rfl, hcp⟩ := (Own.snoc hown5).slice6; rw [HPL.out]; rw [HPL.out] at hown5; have HO5 := hid hown5; have HG5 := hid hgrow5; clear hown5 hgrow5)
          | fail)
        have HBN := hid ((HB.out.alloc HB.out.size (.cells #[.int .i64 a] 3)).grown HG5.out (by have := HB.out.size; simp; omega) (fun k hk => (World.ownsRow.lt HOWN.out.row k hk).1))
        go_roundw
        case rel => exact ⟨k + 1, t + 1, P ++ [a], (P.length : Int) :: S, by omega, by go_num, rfl, Own.snoc HO5.out, HCH.out, HSL.out, HO.out, HPR.out, by rw [HPL.out]; omega, HBN.out⟩
        case measure => simp [intOf]; omega
    · obtain rfl : k = xs.length := by omega
      have HE := hid (show P = T by rw [← hpr, List.drop_length, prL])
      have HOWN := hid hown
      have HB := hid hbel
      clear hown hok hpr hbel hch
      go_wp2_with fail
      go_ret
      exact ⟨_, rfl, by rw [← HE.out]; exact HOWN.out, HB.out⟩
theorem spec_ParentsOf_any (v : Value) (xs : List Int) (w : World) (h : Sits w v xs) (hl : xs.length ≤ 1048576) (_hwf : ∀ x ∈ xs, (Lit.int .i64 x).wf = true) :
    Calls Try.prog 15 #[v] w fun e w' => ∃ u, e = .returned (.tuple #[u, .bool (blB xs)]) ∧ Own w' w.heap.size u (prRes xs) ∧ Below w.heap.size w w' := by
  have HR := hid h.reads
  clear h
  cases hg : blB xs
  · have HF := hid (show prRes xs = [] by unfold prRes; rw [hg]; simp)
    go_enter Try.func15, Try.ntmps15
    go_wp2_with (first | (go_at_call 46; refine (spBalanced_any _ xs _ HR.out hl).mono ?_; rintro e w' ⟨rfl, rfl⟩; rw [hg]) | fail)
    go_ret2
    exact ⟨_, rfl, by rw [HF.out]; exact Own.nil _ _, Below.refl _ _⟩
  · have HF := hid (show prRes xs = prL xs [] [-1] by unfold prRes; rw [if_pos hg])
    have HG := hid hg
    go_enter Try.func15, Try.ntmps15
    go_wp2_with (first
      | (go_at_call 46; refine (spBalanced_any _ xs _ HR.out hl).mono ?_; rintro e w' ⟨rfl, rfl⟩; rw [hg])
      | (go_at_call 47; refine (spParents_any _ xs _ HR.out HG.out).mono ?_; rintro e w1 ⟨u, rfl, ho, hb⟩; have HO := hid ho; have HB := hid hb; clear ho hb)
      | fail)
    go_ret2
    exact ⟨_, rfl, by rw [HF.out]; exact HO.out, HB.out⟩
theorem Own.last6 {w : World} {B go co n : Nat} {a : Int} {r : List Int} (h : Own w B (.slice (some ⟨go, 0, none⟩) n co) ((a :: r).reverse)) :
    w.cell? ⟨go, r.length, none⟩ = some (.int .i64 a) ∧ r.length + 1 ≤ co ∧ co ≤ 9223372036854775807 ∧ go < w.heap.size ∧ B ≤ go := by
  rcases h.form with ⟨e, _⟩ | ⟨g, cap, e, hb, hlt, h1, h2, hc, _⟩
  · cases e
  · cases e
    have := hc r.length (by simp)
    rw [Nat.zero_add] at this
    refine ⟨by rw [this]; simp [List.getD_eq_getElem?_getD], by simpa using h1, by unfold maxLen at h2; omega, hlt, hb⟩
theorem Own.before6 {M g cap n : Nat} {w : World} {p : List Int} {x : Int} (h : Own w M (.slice (some ⟨g, 0, none⟩) n cap) (p ++ [x])) : Own w M (.slice (some ⟨g, 0, none⟩) p.length cap) p := by
  refine ⟨by simp, ?_⟩
  rcases h.2 with ⟨hn, _⟩ | ⟨g', cap', cur, e, hg, hgg, h1, h2, h3, h4⟩
  · simp at hn
  · simp only [Value.slice.injEq, Option.some.injEq, Addr.mk.injEq, and_true] at e
    obtain ⟨rfl, rfl, rfl⟩ := e
    refine .inr ⟨g, cap, cur, rfl, hg, hgg, ?_, h2, h3, ?_⟩
    · simp at h1; omega
    · have h5 := congrArg (List.take p.length) h4
      rw [List.take_take, Nat.mul_one, Nat.min_eq_left (by simp)] at h5
      rw [Nat.mul_one, h5]
      simp
theorem Own.cut6 {w : World} {B go co n : Nat} {a : Int} {r : List Int} (h : Own w B (.slice (some ⟨go, 0, none⟩) n co) ((a :: r).reverse)) : Own w B (.slice (some ⟨go, 0, none⟩) r.length co) r.reverse := by
  rw [List.reverse_cons] at h
  have := h.before6
  rwa [List.length_reverse] at this
theorem Own.of_made6 {w : World} {base g c : Nat} (h : w.ownsRow base 3 1 (.slice (some ⟨g, 0, none⟩) 0 c) 0 []) : Own w base (.slice (some ⟨g, 0, none⟩) 0 c) [] := h
theorem ret_sb66 {u : Value} {b : Bool} : Ending.returned (.tuple #[u, .bool b]) = .returned (.tuple #[u, .bool b]) := rfl
set_option maxHeartbeats 2000000 in
theorem impl_ParentsOf_any (v : Value) (xs : List Int) (w : World) (h : Sits w v xs) (hl : xs.length ≤ 1048576) (_hwf : ∀ x ∈ xs, (Lit.int .i64 x).wf = true) :
    Calls Try.prog 17 #[v] w fun e w' => ∃ u, e = .returned (.tuple #[u, .bool (blB xs)]) ∧ Own w' w.heap.size u (prRes xs) ∧ Below w.heap.size w w' := by
  have HR := hid h.reads
  obtain ⟨b, off, c, rfl, hc1, hm, hb, hc⟩ := h
  have HC := hid hc
  clear hc
  cases hg : blB xs
  · have HF := hid (show prRes xs = [] by unfold prRes; rw [hg]; simp)
    go_enter Try.func17, Try.ntmps17
    go_wp2_with (first | (go_at_call 48; refine (impl_IsBalancedWord_any _ xs _ HR.out hl).mono ?_; rintro e w1 ⟨rfl, hb⟩; rw [hg]; have HB := hid hb; clear hb) | fail)
    go_ret2
    exact ⟨_, rfl, by rw [HF.out]; exact Own.nil _ _, HB.out⟩
  · have HF := hid (show prRes xs = prL xs [] [-1] by unfold prRes; rw [if_pos hg])
    obtain ⟨h1, h2⟩ := blB_two hg
    have HOK := hid h1
    obtain ⟨T, hT⟩ : ∃ T, T = prL xs [] [-1] := ⟨_, rfl⟩
    have HT := hid hT.symm
    rw [← hT] at HF
    have hh := half_len xs.length hl
    obtain ⟨p, hp⟩ : ∃ p, p = xs.length / 2 := ⟨_, rfl⟩
    rw [← hp] at hh
    have hh2 : (xs.length : Int) / 2 = (p : Int) := by omega
    have hp12 : p ≤ 12 := by omega
    obtain ⟨i0, hi, hz0, hz1, hz2⟩ := info_parts Try.info3
    have HMB := hid (show i0.bytes * p ≤ 281474976710656 by rw [hz2]; omega)
    have HMM := hid (show p ≤ maxLen by unfold maxLen; omega)
    clear h1 hT hp
    go_enter Try.func17, Try.ntmps17
    go_wp2_with (first
      | (go_at_call 48; refine (impl_IsBalancedWord_any _ xs _ HR.out hl).mono ?_; rintro e w1 ⟨rfl, hb⟩; rw [hg]; have HB := hid hb; clear hb)
      | (at_make; refine wpList_make_own _ rfl _ _ 22 rfl w1.heap.size 3 i0 (.int .i64 0) 1 Try.underlying22 hi hz0 hz1 .i64 .i64 _ p rfl rfl rfl HMB.out HMM.out (Nat.le_refl _) ?_; intro w2 hmade hgm; have HOM := hid (Own.of_made6 hmade); have HBM := hid (HB.out.grown hgm HB.out.size (fun q hq => by cases hq)); clear hmade hgm)
      | fail)
    go_loopw [4, 5, 19] (fun vp vo i wr => ∃ (k t gp cp go co : Nat) (P : List Int) (a : Int) (r : List Int), k ≤ xs.length ∧ i = .int .i64 k ∧ vp = .slice (some ⟨gp, 0, none⟩) P.length cp ∧ vo = .slice (some ⟨go, 0, none⟩) (t + 1) co ∧ Own wr w.heap.size (.slice (some ⟨gp, 0, none⟩) P.length cp) P ∧ Own wr w.heap.size (.slice (some ⟨go, 0, none⟩) (t + 1) co) ((a :: r).reverse) ∧ gp ≠ go ∧
      r.length = t ∧ blOk (xs.drop k) t = true ∧ prL (xs.drop k) P (a :: r) = T ∧ P.length ≤ k ∧ t ≤ k ∧ Below w.heap.size w wr) (fun _ _ i _ => xs.length - (intOf i).toNat)
    case atStart => exact ⟨0, 0, w1.heap.size, p, w2.heap.size, 1, [], -1, [], Nat.zero_le _, rfl, rfl, rfl, (HOM.out.mono HB.out.size).below ((Below.refl _ _).alloc (Nat.le_refl _) _), (Own.lit1 w2 (-1)).mono HBM.out.size, by have h : w1.heap.size < w2.heap.size := (World.ownsRow.lt HOM.out _ rfl).2; omega, rfl, HOK.out, HT.out, Nat.le_refl _, Nat.le_refl _, HBM.out.alloc HBM.out.size _⟩
    case round =>
      obtain ⟨k, t, gp, cp, go, co, P, a, r, hk, rfl, rfl, rfl, hop, hoo, hne, hrl, hok, hpr, hpl, htk, hbel⟩ := hrel
      by_cases hlt : k < xs.length
      · have hcx := (hbel.cell (p := ⟨b, off + k, none⟩) (by exact hb)).trans (HC.out k hlt)
        obtain ⟨x, hx⟩ : ∃ x, x = xs[k] := ⟨_, rfl⟩
        have hd : xs.drop k = x :: xs.drop (k + 1) := by rw [List.drop_eq_getElem_cons hlt, hx]
        rw [← hx] at hcx
        rw [hd] at hok hpr
        obtain ⟨x1, x2, x3, x4⟩ := blOk_cons.1 hok
        have HB5 := hid hbel
        have HP := hid hop
        have HO := hid hoo
        obtain ⟨lc, lcap, lm, lgo, _⟩ := hoo.last6
        have lgp := (World.ownsRow.lt hop gp rfl).2
        rw [hrl] at lc lcap
        have q1 : (0 : Int) ≤ (k : Int) := by omega
        have q2 : (k : Int) < (xs.length : Int) := by omega
        have ht24 : t ≤ 24 := by omega
        have hp24 : P.length ≤ 24 := by omega
        have u1 : IntKind.i64.wrap (((t + 1 : Nat) : Int) - 1) = (t : Int) := by rw [IntWalk.i64_in _ (by omega)]; omega
        have u2 : IntKind.i64.wrap ((t : Int) + 1 - 1) = (t : Int) := by rw [IntWalk.i64_in _ (by omega)]; omega
        have u3 : (t : Int) + 1 - 1 = (t : Int) := by omega
        have hx01 : x = 0 ∨ x = 1 := by omega
        rcases hx01 with rfl | rfl
        · rw [prL, if_neg (by decide)] at hpr
          obtain ⟨t', rfl⟩ : ∃ t', t = t' + 1 := ⟨t - 1, by omega⟩
          cases r with
          | nil => simp at hrl
          | cons y r =>
            have HCUT := hid hoo.cut6
            have HPR := hid (show prL (xs.drop (k + 1)) P (y :: r) = T from hpr)
            have HOK2 := hid (show blOk (xs.drop (k + 1)) (t' : Int) = true by rw [show (t' : Int) = ((t' + 1 : Nat) : Int) + (2 * 0 - 1) by omega]; exact x4)
            have HRL := hid (show r.length = t' by simpa using hrl)
            have HRR := hid (show (y :: r).length = t' + 1 from hrl)
            clear hop hoo hok hpr hbel hd hx x3 x4 hrl lc
            go_wp2_with fail
            go_roundw
            case rel => exact ⟨k + 1, t', gp, cp, go, co, P, y, r, by omega, by go_num, rfl, rfl, HP.out, by have h := HCUT.out; rw [HRR.out] at h; exact h, hne, HRL.out, HOK2.out, HPR.out, by omega, by omega, HB5.out⟩
            case measure => simp [intOf]; omega
        · rw [prL, if_pos rfl] at hpr
          have HPR := hid (show prL (xs.drop (k + 1)) (P ++ [a]) ((P.length : Int) :: a :: r) = T from hpr)
          have HOK2 := hid (show blOk (xs.drop (k + 1)) ((t + 1 : Nat) : Int) = true by rw [show ((t + 1 : Nat) : Int) = (t : Int) + (2 * 1 - 1) by omega]; exact x4)
          have HRL := hid (show (a :: r).length = t + 1 by simp [hrl])
          have HREV := hid (show ((P.length : Int) :: a :: r).reverse = (a :: r).reverse ++ [(P.length : Int)] from List.reverse_cons)
          have HRVL := hid (show ((a :: r).reverse).length = t + 1 by simp [hrl])
          have HPL := hid (show (P ++ [a]).length = P.length + 1 by simp)
          have u4 : IntKind.i64.wrap (((P.length + 1 : Nat) : Int) - 1) = (P.length : Int) := by rw [IntWalk.i64_in _ (by omega)]; omega
          have u5 : IntKind.i64.wrap ((P.length : Int) + 1 - 1) = (P.length : Int) := by rw [IntWalk.i64_in _ (by omega)]; omega
          have u6 : (P.length : Int) + 1 - 1 = (P.length : Int) := by omega
          have q5 : (t : Int) < ((t + 1 : Nat) : Int) := by omega
          have HOR := hid (show wr.ownsRow w.heap.size 3 1 (.slice (some ⟨go, 0, none⟩) (t + 1) co) (t + 1) (((a :: r).reverse).map (Value.int .i64)) by have h := hoo.row; rw [HRVL.out] at h; exact h)
          clear hop hoo hok hpr hbel hd hx x3 x4 hrl
          go_wp2_with (first
            | (at_builtin; (refine wpList_append_lies _ rfl _ _ 22 rfl w.heap.size 3 i0 (.int .i64 0) 1 8 Try.underlying22 hi hz0 hz1 hz2 rfl (by decide) _ _ _ rfl (World.ownsRow.alloc HO2.out _) ⟨w5.heap.size, 0, none⟩ 1 1 [.int .i64 (P.length : Int)] rfl rfl (fun j u hj => new_cell1 j hj) (one_cell _ _) Nat.zero_lt_one (by unfold maxLen; omega) (by omega) (by have := HB6.out.size; first | omega | (simp <;> omega)) ?_); intro g2 c2 w7 hown7 hgrow7 hlies7; (have HO7 := hid hown7); (have hl7 : go = g2 ∨ g2 = w5.heap.size + 1 := hlies7.elim (fun h => .inl (Option.some.inj h)) (fun h => .inr (by simpa using h))); (have HP7 := hid (World.ownsRow.kept (World.ownsRow.alloc HP5.out (.cells #[.int .i64 (P.length : Int)] 3)) hgrow7 (.inr (by show some g1 ≠ some go; intro e; exact hne5 (Option.some.inj e))))); (have HB7 := hid ((HB6.out.alloc HB6.out.size (.cells #[.int .i64 (P.length : Int)] 3)).grown hgrow7 (Nat.le_trans HB6.out.size (by simp)) (fun k hk => (World.ownsRow.lt HO2.out k hk).1))); clear hown7 hgrow7 hlies7)
            | (at_builtin; (refine wpList_append_lies _ rfl _ _ 22 rfl w.heap.size 3 i0 (.int .i64 0) 1 8 Try.underlying22 hi hz0 hz1 hz2 rfl (by decide) _ _ _ rfl (World.ownsRow.alloc HP.out.row _) ⟨wr.heap.size, 0, none⟩ 1 1 [.int .i64 a] rfl rfl (fun j u hj => new_cell1 j hj) (one_cell _ _) Nat.zero_lt_one (by unfold maxLen; omega) (by omega) (by have := HB5.out.size; first | omega | (simp <;> omega)) ?_); (intro g1 c1 w5 hown5 hgrow5 hlies5); (have HP5 := hid hown5); (have hl5 : gp = g1 ∨ g1 = wr.heap.size + 1 := hlies5.elim (fun h => .inl (Option.some.inj h)) (fun h => .inr (by simpa using h))); (have hne5 : g1 ≠ go := by omega); (have hgs5 := hgrow5.size); (have HO2 := hid (World.ownsRow.kept (World.ownsRow.alloc HOR.out (.cells #[.int .i64 a] 3)) hgrow5 (.inr (by show some go ≠ some gp; intro e; exact hne (Option.some.inj e).symm)))); (have HB6 := hid ((HB5.out.alloc HB5.out.size (.cells #[.int .i64 a] 3)).grown hgrow5 (Nat.le_trans HB5.out.size (by simp)) (fun k hk => (World.ownsRow.lt HP.out.row k hk).1))); (clear hown5 hgrow5 hlies5))
            | fail)
          have lt5 : g1 < w5.heap.size := (World.ownsRow.lt HP5.out g1 rfl).2
          have hne7 : g1 ≠ g2 := by omega
          have HPO := hid (show Own w7 w.heap.size (.slice (some ⟨g1, 0, none⟩) (P ++ [a]).length c1) (P ++ [a]) by rw [HPL.out]; exact Own.snoc HP7.out)
          have HOO := hid (show Own w7 w.heap.size (.slice (some ⟨g2, 0, none⟩) (t + 1 + 1) c2) (((P.length : Int) :: a :: r).reverse) by rw [HREV.out]; have h := HO7.out; rw [← HRVL.out] at h; have h2 := Own.snoc h; rw [HRVL.out] at h2; exact h2)
          go_roundw
          case rel => exact ⟨k + 1, t + 1, g1, c1, g2, c2, P ++ [a], (P.length : Int), a :: r, by omega, by go_num, by rw [HPL.out], rfl, HPO.out, HOO.out, hne7, HRL.out, HOK2.out, HPR.out, by rw [HPL.out]; omega, by omega, HB7.out⟩
          case measure => simp [intOf]; omega
      · obtain rfl : k = xs.length := by omega
        have HE := hid (show P = T by rw [← hpr, List.drop_length, prL])
        have HP := hid hop
        have HBW := hid hbel
        clear hop hoo hok hpr hbel
        go_wp2_with fail
        go_ret2
        exact ⟨_, rfl, by rw [HF.out, ← HE.out]; exact HP.out, HBW.out⟩
end Go.Proofs.Ytakelcboamjndab
