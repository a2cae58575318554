/- Contracts: both GrowthOfWord. Conditions: slices that are not nil and read as lists of at most 2^20 numbers. -/
import Derived.Test.YtakelcboamjndabPush
import Derived.Test.YtakelcboamjndabNb
namespace Go.Proofs.Ytakelcboamjndab
open Go.RowKit Go.Maps
set_option linter.unusedVariables false
set_option maxRecDepth 4000

def gwB (xs : List Int) : Bool := decide (xs ≠ []) && blB xs
def gwdRes (xs : List Int) : List Int := if gwB xs = true then gwL xs [] [] else []
theorem bound_GrowthOfWord (xs : List Int) : (gwdRes xs).length ≤ 1048576 := by
  unfold gwdRes
  split
  · rename_i h
    unfold gwB at h
    rw [Bool.and_eq_true] at h
    have h1 := (blB_two h.2).2
    have h2 := gw_len xs [] []
    simp at h2; omega
  · simp
/-- what is open, out of the blocks and how many they lack -/
def exL : List Int → List Int → List Int
  | b :: o, c :: l => List.replicate c.toNat b ++ exL o l
  | _, _ => []
structure OInv (blk : Nat) (o l : List Int) : Prop where
  len : o.length = l.length
  lack : ∀ c ∈ l, 1 ≤ c ∧ c ≤ 24
  num : ∀ b ∈ o, 0 ≤ b ∧ b < (blk : Int)
theorem OInv.nil : OInv 0 [] [] := ⟨rfl, by simp, by simp⟩
theorem exL_cons {b c : Int} {o l : List Int} (h : 1 ≤ c) : exL (b :: o) (c :: l) = b :: (List.replicate (c - 1).toNat b ++ exL o l) := by
  rw [exL, show c.toNat = (c - 1).toNat + 1 by omega, List.replicate_succ, List.cons_append]
theorem OInv.push {blk n : Nat} {o l : List Int} (h : OInv blk o l) (hn : 1 ≤ n) (hn2 : n ≤ 24) : OInv (blk + 1) ((blk : Int) :: o) ((n : Int) :: l) :=
  ⟨by simp [h.len], fun c hc => by rcases List.mem_cons.1 hc with rfl | hc; · omega
                                   · exact h.lack c hc, fun b hb => by rcases List.mem_cons.1 hb with rfl | hb; · omega
                                                                       · have := h.num b hb; omega⟩
theorem OInv.pop {blk : Nat} {b c : Int} {o l : List Int} (h : OInv blk (b :: o) (c :: l)) : OInv blk o l :=
  ⟨by simpa using h.len, fun x hx => h.lack x (List.mem_cons_of_mem _ hx), fun x hx => h.num x (List.mem_cons_of_mem _ hx)⟩
theorem OInv.less {blk : Nat} {b c : Int} {o l : List Int} (h : OInv blk (b :: o) (c :: l)) (hc : c ≠ 1) : OInv blk (b :: o) ((c - 1) :: l) :=
  ⟨by simpa using h.len, fun x hx => by
    have h1 := h.lack c (by simp)
    rcases List.mem_cons.1 hx with rfl | hx
    · omega
    · exact h.lack x (List.mem_cons_of_mem _ hx), h.num⟩
theorem top_old {G : List Int} {b : Int} {blk : Nat} (h : topL G + 1 = (blk : Int)) (hb : b < blk) : topL (G ++ [b]) + 1 = (blk : Int) := by rw [topL_snoc]; omega
theorem top_new {G : List Int} {blk : Nat} (h : topL G + 1 = (blk : Int)) : topL (G ++ [(blk : Int)]) + 1 = ((blk + 1 : Nat) : Int) := by rw [topL_snoc]; omega
theorem impl_GrowthOfWord_any (v : Value) (xs : List Int) (w : World) (h : Sits w v xs) (hl : xs.length ≤ 1048576) (_hwf : ∀ x ∈ xs, (Lit.int .i64 x).wf = true) :
    Calls Try.prog 28 #[v] w fun e w' => ∃ u, e = .returned (.tuple #[u, .bool (gwB xs)]) ∧ Own w' w.heap.size u (gwdRes xs) ∧ Below w.heap.size w w' := by
  have HR := hid h.reads
  obtain ⟨b, off, c, rfl, hc1, hm, hb, hc⟩ := h
  clear hc
  by_cases h0 : xs.length = 0
  · have HG := hid (show gwB xs = false by unfold gwB; rw [List.eq_nil_of_length_eq_zero h0]; rfl)
    have HF := hid (show gwdRes xs = [] by unfold gwdRes; rw [HG.out]; simp)
    have hb0 : ((xs.length : Int) == 0) = true := by simp [h0]
    clear h0
    go_enter Try.func28, Try.ntmps28
    go_wp2_with fail
    go_ret2
    exact ⟨_, by rw [HG.out]; rfl, by rw [HF.out]; exact Own.nil _ _, Below.refl _ _⟩
  · have hb0 : ((xs.length : Int) == 0) = false := beq_eq_false_iff_ne.2 (by omega)
    have HNE := hid (show xs ≠ [] from fun e => h0 (by rw [e]; rfl))
    clear h0
    cases hg : blB xs
    · have HG := hid (show gwB xs = false by unfold gwB; rw [hg, Bool.and_false])
      have HF := hid (show gwdRes xs = [] by unfold gwdRes; rw [HG.out]; simp)
      go_enter Try.func28, Try.ntmps28
      go_wp2_with (first | (go_at_call 48; refine (impl_IsBalancedWord_any _ xs _ HR.out hl).mono ?_; rintro e w1 ⟨rfl, hb⟩; rw [hg]; have HB := hid hb; clear hb) | fail)
      go_ret2
      exact ⟨_, by rw [HG.out]; rfl, by rw [HF.out]; exact Own.nil _ _, HB.out⟩
    · have HG := hid (show gwB xs = true by unfold gwB; rw [hg, decide_eq_true HNE.out]; rfl)
      have HF := hid (show gwdRes xs = gwL xs [] [] by unfold gwdRes; rw [if_pos HG.out])
      have HOK := hid (blB_two hg)
      go_enter Try.func28, Try.ntmps28
      go_wp2_with (first
        | (go_at_call 58; (refine (growthOfWord_any _ xs _ (HR.out.below HB.out) HOK.out.1 HOK.out.2).mono ?_); (rintro e w2 ⟨u, rfl, ho, hb2⟩); (have HO := hid (ho.mono HB.out.size)); (have HB2 := hid (Below_chain HB.out hb2)); (clear ho hb2))
        | (go_at_call 48; refine (impl_IsBalancedWord_any _ xs _ HR.out hl).mono ?_; rintro e w1 ⟨rfl, hb⟩; rw [hg]; have HB := hid hb; clear hb)
        | fail)
      go_ret2
      exact ⟨_, by rw [HG.out]; rfl, by rw [HF.out]; exact HO.out, HB2.out⟩
set_option maxHeartbeats 4000000 in
theorem spec_GrowthOfWord_any (v : Value) (xs : List Int) (w : World) (h : Sits w v xs) (hl : xs.length ≤ 1048576) (_hwf : ∀ x ∈ xs, (Lit.int .i64 x).wf = true) :
    Calls Try.prog 27 #[v] w fun e w' => ∃ u, e = .returned (.tuple #[u, .bool (gwB xs)]) ∧ Own w' w.heap.size u (gwdRes xs) ∧ Below w.heap.size w w' := by
  have HR := hid h.reads
  obtain ⟨b, off, c, rfl, hcc1, hm, hb, hc⟩ := h
  have HC := hid hc
  clear hc
  cases hg : blB xs
  · have HG := hid (show gwB xs = false by unfold gwB; rw [hg, Bool.and_false])
    have HF := hid (show gwdRes xs = [] by unfold gwdRes; rw [HG.out]; simp)
    go_enter Try.func27, Try.ntmps27
    go_wp2_with (first | (go_at_call 46; refine (spBalanced_any _ xs _ HR.out hl).mono ?_; rintro e w' ⟨rfl, rfl⟩; rw [hg]) | fail)
    go_ret2
    exact ⟨_, by rw [HG.out]; rfl, by rw [HF.out]; exact Own.nil _ _, Below.refl _ _⟩
  · by_cases h0 : xs.length = 0
    · have HG := hid (show gwB xs = false by unfold gwB; rw [List.eq_nil_of_length_eq_zero h0]; rfl)
      have HF := hid (show gwdRes xs = [] by unfold gwdRes; rw [HG.out]; simp)
      have hb0 : ((xs.length : Int) == 0) = true := by simp [h0]
      clear h0
      go_enter Try.func27, Try.ntmps27
      go_wp2_with (first | (go_at_call 46; refine (spBalanced_any _ xs _ HR.out hl).mono ?_; rintro e w' ⟨rfl, rfl⟩; rw [hg]) | fail)
      go_ret2
      exact ⟨_, by rw [HG.out]; rfl, by rw [HF.out]; exact Own.nil _ _, Below.refl _ _⟩
    · have hb0 : ((xs.length : Int) == 0) = false := beq_eq_false_iff_ne.2 (by omega)
      have HNE := hid (show xs ≠ [] from fun e => h0 (by rw [e]; rfl))
      have HG := hid (show gwB xs = true by unfold gwB; rw [hg, decide_eq_true HNE.out]; rfl)
      obtain ⟨T, hT⟩ : ∃ T, T = gwL xs [] [] := ⟨_, rfl⟩
      have HT := hid hT.symm
      have HF := hid (show gwdRes xs = T by unfold gwdRes; rw [if_pos HG.out, hT])
      obtain ⟨hok0, hl24⟩ := blB_two hg
      have HOK := hid hok0
      obtain ⟨i0, hi, hz0, hz1, hz2⟩ := info_parts Try.info3
      clear hT hok0 h0
      go_enter Try.func27, Try.ntmps27
      go_wp2_with (first | (go_at_call 46; refine (spBalanced_any _ xs _ HR.out hl).mono ?_; rintro e w' ⟨rfl, rfl⟩; rw [hg]) | fail)
      clear hg
      go_loopw [4, 5, 6, 7, 8, 22] (fun va vo vl bl on i wr => ∃ (k blk ones na no ca co cl : Nat) (aA aO aL : Option Addr) (G o l : List Int) (t : Nat), k ≤ xs.length ∧ i = .int .i64 k ∧ va = .slice aA na ca ∧ vo = .slice aO no co ∧ vl = .slice aL no cl ∧ bl = .int .i64 (blk : Int) ∧ on = .int .i64 (ones : Int) ∧
        Own wr w.heap.size (.slice aA na ca) G ∧ Own wr w.heap.size (.slice aO no co) o.reverse ∧ Own wr w.heap.size (.slice aL no cl) l.reverse ∧ Dj (.slice aA na ca) (.slice aO no co) ∧ Dj (.slice aA na ca) (.slice aL no cl) ∧ Dj (.slice aO no co) (.slice aL no cl) ∧ OInv blk o l ∧ topL G + 1 = (blk : Int) ∧
        gwL (xs.drop k) G (List.replicate ones (blk : Int) ++ exL o l) = T ∧ blOk (xs.drop k) t = true ∧ (List.replicate ones (blk : Int) ++ exL o l).length = t ∧ na ≤ k ∧ ones ≤ k ∧ blk ≤ k ∧ no ≤ k ∧ Below w.heap.size w wr) (fun _ _ _ _ _ i _ => xs.length - (intOf i).toNat)
      case atStart => exact ⟨0, 0, 0, 0, 0, 0, 0, 0, none, none, none, [], [], [], 0, Nat.zero_le _, rfl, rfl, rfl, rfl, rfl, rfl, Own.nil _ _, Own.nil _ _, Own.nil _ _, Dj.nil _, Dj.nil _, Dj.nil _, OInv.nil, rfl, HT.out, HOK.out, rfl, Nat.le_refl _, Nat.le_refl _, Nat.le_refl _, Nat.le_refl _, Below.refl _ _⟩
      case round =>
        obtain ⟨k, blk, ones, na, no, ca, co, cl, aA, aO, aL, G, o, l, t, hk, rfl, rfl, rfl, rfl, rfl, rfl, hoa, hoo, hol, dao, dal, dol, hin, htop, hgw, hok, hsl, hna, hon, hbk, hno, hbel⟩ := hrel
        have HA := hid hoa
        have HO := hid hoo
        have HL := hid hol
        have HB := hid hbel
        have HDAO := hid dao
        have HDAL := hid dal
        have HDOL := hid dol
        by_cases hlt : k < xs.length
        · have hcx := (hbel.cell (p := ⟨b, off + k, none⟩) (by exact hb)).trans (HC.out k hlt)
          obtain ⟨x, hx⟩ : ∃ x, x = xs[k] := ⟨_, rfl⟩
          have hd : xs.drop k = x :: xs.drop (k + 1) := by rw [List.drop_eq_getElem_cons hlt, hx]
          rw [← hx] at hcx
          rw [hd] at hok hgw
          obtain ⟨x1, x2, x3, x4⟩ := blOk_cons.1 hok
          have q1 : (0 : Int) ≤ (k : Int) := by omega
          have q2 : (k : Int) < (xs.length : Int) := by omega
          have hk24 : k + 1 ≤ 24 := by omega
          have hx01 : x = 0 ∨ x = 1 := by omega
          rcases hx01 with rfl | rfl
          · have HOK2 := hid (show blOk (xs.drop (k + 1)) ((t - 1 : Nat) : Int) = true by rw [show ((t - 1 : Nat) : Int) = (t : Int) + (2 * 0 - 1) by omega]; exact x4)
            by_cases h1 : ones = 0
            · subst h1
              rw [List.replicate_zero, List.nil_append] at hgw hsl
              cases o with
              | nil => rw [show exL [] l = [] from rfl] at hsl; simp at hsl; omega
              | cons a o =>
              cases l with
              | nil => have := hin.len; simp at this
              | cons z l =>
              obtain ⟨hz1', hz24⟩ := hin.lack z (by simp)
              obtain ⟨ha0, hab⟩ := hin.num a (by simp)
              rw [exL_cons hz1'] at hgw hsl
              rw [gw_zero] at hgw
              obtain ⟨go, rfl, hno2⟩ := hoo.shapeT
              obtain ⟨gl, rfl, hno3⟩ := hol.shapeT
              obtain ⟨j, hj⟩ : ∃ j, j = o.length := ⟨_, rfl⟩
              rw [← hj] at hno2
              subst hno2
              have HOJ := hid hj.symm
              have HLJ := hid (show l.length = j by omega)
              have HTO := hid (Own.topC hoo hj.symm)
              have HTL := hid (Own.topC hol HLJ.out)
              have hin2 := hin
              have HTOP := hid (top_old htop hab)
              have HDLO := hid dol.symm
              have u1 : IntKind.i64.wrap (((j + 1 : Nat) : Int) - 1) = (j : Int) := by rw [IntWalk.i64_in _ (by omega)]; omega
              have u2 : IntKind.i64.wrap ((j : Int) + 1 - 1) = (j : Int) := by rw [IntWalk.i64_in _ (by omega)]; omega
              have u3 : (j : Int) + 1 - 1 = (j : Int) := by omega
              have u5 : IntKind.i64.wrap (z - 1) = z - 1 := IntWalk.i64_in _ (by omega)
              have q3 : (0 : Int) ≤ (j : Int) := by omega
              have hco := HTO.out.cell
              have hcap1 := HTO.out.cap
              have hcap2 := HTO.out.cmax
              have hcap3 := HTL.out.cap
              have hcap4 := HTL.out.cmax
              have q4 : (j : Int) ≤ (co : Int) := by omega
              have q5 : (j : Int) ≤ (cl : Int) := by omega
              have hon0 : (0 : Int) ≤ 0 := Int.le_refl _
              clear hoa hoo hol dao dal dol htop hok hbel hd hx x3 x4 hj hno3 hab
              by_cases hc1 : z = 1
              · have hcb : (z - 1 == 0) = true := by simp [hc1]
                have HGW := hid (show gwL (xs.drop (k + 1)) (G ++ [a]) (List.replicate 0 (blk : Int) ++ exL o l) = T by rw [hc1] at hgw; simpa using hgw)
                have HIN := hid (OInv.pop hin2)
                have HLN := hid (show (List.replicate 0 (blk : Int) ++ exL o l).length = t - 1 by rw [hc1] at hsl; simp at hsl ⊢; omega)
                have HSET := hid (fun (X : World) (g' c' : Nat) (hX : TopC X w.heap.size g' j c' z l) => (Own.topC (hX.set (z - 1)).1 HLJ.out).cell)
                clear hgw hin2 hsl hc1 hin
                go_wp2_with (first
                  | (at_builtin; (refine wpList_push _ rfl _ _ 22 rfl w.heap.size i0 Try.underlying22 hi hz0 hz1 hz2 aA na ca G rfl HA.out a wr.heap.size rfl rfl (by omega) HB.out.size ?_); (intro g5 c5 w5 hp5); (have HP5 := hid hp5); (have HO5 := hid (hp5.keep _ _ _ HO.out HDAO.out.symm)); (have HL5 := hid (hp5.keep _ _ _ HL.out HDAL.out.symm)); (have HTL5 := hid (Own.topC HL5.out.1 HLJ.out)); (have hcl5 := HTL5.out.cell); (have hfl5 := HTL5.out.froz); (have hst5 := HSET.out _ _ _ HTL5.out); (clear hp5))
                  | fail)
                have HGRW := hid (HTL5.out.set (z - 1)).2
                have HLW := hid (HTL5.out.set (z - 1)).1
                have HOW := hid (Own.kept HO5.out.1 HGRW.out (.inr (fun e => HDLO.out gl rfl e)))
                have HAW := hid (Own.kept HP5.out.own HGRW.out (.inr (fun e => HL5.out.2 gl rfl e)))
                have HBW := hid ((HP5.out.below w rfl HB.out).setCell (p := ⟨gl, j, none⟩) HTL5.out.base (.int .i64 (z - 1)))
                go_roundw
                case rel => exact ⟨k + 1, blk, 0, na + 1, j, c5, co, cl, some ⟨g5, 0, none⟩, some ⟨go, 0, none⟩, some ⟨gl, 0, none⟩, G ++ [a], o, l, t - 1, by omega, by go_num, rfl, rfl, rfl, rfl, rfl, HAW.out, (Own.topC HOW.out HOJ.out).cut, (Own.topC HLW.out HLJ.out).cut, HO5.out.2.symm, HL5.out.2.symm, HDLO.out.symm, HIN.out, HTOP.out, HGW.out, HOK2.out, HLN.out, by omega, by omega, by omega, by omega, HBW.out⟩
                case measure => simp [intOf]; omega
              · have hcb : (z - 1 == 0) = false := by simpa using (fun e => hc1 (by omega) : ¬ (z - 1 = 0))
                have HGW := hid (show gwL (xs.drop (k + 1)) (G ++ [a]) (List.replicate 0 (blk : Int) ++ exL (a :: o) ((z - 1) :: l)) = T by simpa [exL] using hgw)
                have HIN := hid (OInv.less hin2 hc1)
                have HLN := hid (show (List.replicate 0 (blk : Int) ++ exL (a :: o) ((z - 1) :: l)).length = t - 1 by simp [exL] at hsl ⊢; omega)
                have HSET := hid (fun (X : World) (g' c' : Nat) (hX : TopC X w.heap.size g' j c' z l) => (Own.topC (hX.set (z - 1)).1 HLJ.out).cell)
                clear hgw hin2 hsl hc1 hin
                go_wp2_with (first
                  | (at_builtin; (refine wpList_push _ rfl _ _ 22 rfl w.heap.size i0 Try.underlying22 hi hz0 hz1 hz2 aA na ca G rfl HA.out a wr.heap.size rfl rfl (by omega) HB.out.size ?_); (intro g5 c5 w5 hp5); (have HP5 := hid hp5); (have HO5 := hid (hp5.keep _ _ _ HO.out HDAO.out.symm)); (have HL5 := hid (hp5.keep _ _ _ HL.out HDAL.out.symm)); (have HTL5 := hid (Own.topC HL5.out.1 HLJ.out)); (have hcl5 := HTL5.out.cell); (have hfl5 := HTL5.out.froz); (have hst5 := HSET.out _ _ _ HTL5.out); (clear hp5))
                  | fail)
                have HGRW := hid (HTL5.out.set (z - 1)).2
                have HLW := hid (HTL5.out.set (z - 1)).1
                have HOW := hid (Own.kept HO5.out.1 HGRW.out (.inr (fun e => HDLO.out gl rfl e)))
                have HAW := hid (Own.kept HP5.out.own HGRW.out (.inr (fun e => HL5.out.2 gl rfl e)))
                have HBW := hid ((HP5.out.below w rfl HB.out).setCell (p := ⟨gl, j, none⟩) HTL5.out.base (.int .i64 (z - 1)))
                go_roundw
                case rel => exact ⟨k + 1, blk, 0, na + 1, j + 1, c5, co, cl, some ⟨g5, 0, none⟩, some ⟨go, 0, none⟩, some ⟨gl, 0, none⟩, G ++ [a], a :: o, (z - 1) :: l, t - 1, by omega, by go_num, rfl, rfl, rfl, rfl, rfl, HAW.out, HOW.out, HLW.out, HO5.out.2.symm, HL5.out.2.symm, HDLO.out.symm, HIN.out, HTOP.out, HGW.out, HOK2.out, HLN.out, by omega, by omega, by omega, by omega, HBW.out⟩
                case measure => simp [intOf]; omega
            · have h1' : 0 < ones := by omega
              have h1I : (0 : Int) < (ones : Int) := by omega
              have hin2 := hin.push (n := ones) (by omega) (by omega)
              rw [show List.replicate ones (blk : Int) = (blk : Int) :: List.replicate (ones - 1) (blk : Int) by rw [← List.replicate_succ]; congr 1; omega, List.cons_append] at hgw hsl
              rw [gw_zero] at hgw
              have e9 : ((ones : Int) - 1).toNat = ones - 1 := by omega
              rw [← e9] at hgw hsl
              obtain ⟨z, hz⟩ : ∃ z, z = (ones : Int) := ⟨_, rfl⟩
              rw [← hz] at hgw hsl hin2
              have hz1' : 1 ≤ z := by omega
              have hz24 : z ≤ 24 := by omega
              have HZ := hid hz
              have HOJ := hid (show o.length = no by have := hoo.lenA; simpa using this.symm)
              have HLJ := hid (show l.length = no by have := hol.lenA; simpa using this.symm)
              have HTOP := hid (top_new htop)
              have HDLO := hid dol.symm
              obtain ⟨a, ha⟩ : ∃ a, a = (blk : Int) := ⟨_, rfl⟩
              rw [← ha] at hgw hin2 HTOP
              have HAA := hid ha
              have u1 : IntKind.i64.wrap (((no + 1 : Nat) : Int) - 1) = (no : Int) := by rw [IntWalk.i64_in _ (by omega)]; omega
              have u2 : IntKind.i64.wrap ((no : Int) + 1 - 1) = (no : Int) := by rw [IntWalk.i64_in _ (by omega)]; omega
              have u3 : (no : Int) + 1 - 1 = (no : Int) := by omega
              have u5 : IntKind.i64.wrap (z - 1) = z - 1 := IntWalk.i64_in _ (by omega)
              have u6 : IntKind.i64.wrap (a + 1) = a + 1 := IntWalk.i64_in _ (by omega)
              have HBK := hid (show a + 1 = ((blk + 1 : Nat) : Int) by omega)
              have q3 : (0 : Int) ≤ (no : Int) := by omega
              have h1z : (0 : Int) < z := by omega
              clear hoa hoo hol dao dal dol htop hok hbel hd hx x3 x4 h1I
              rw [← hz, ← ha]
              clear hz ha e9
              by_cases hc1 : z = 1
              · have hcb : (z - 1 == 0) = true := by simp [hc1]
                have HGW := hid (show gwL (xs.drop (k + 1)) (G ++ [a]) (List.replicate 0 ((blk + 1) : Int) ++ exL o l) = T by rw [hc1] at hgw; simpa using hgw)
                have HIN := hid (OInv.pop hin2)
                have HLN := hid (show (List.replicate 0 ((blk + 1) : Int) ++ exL o l).length = t - 1 by rw [hc1] at hsl; simp at hsl ⊢; omega)
                have HSET := hid (fun (X : World) (g' c' : Nat) (hX : TopC X w.heap.size g' no c' z l) => (Own.topC (hX.set (z - 1)).1 HLJ.out).cell)
                clear hgw hin2 hsl hc1 hin
                go_wp2_with (first
                  | (at_builtin; (refine wpList_push _ rfl _ _ 22 rfl w.heap.size i0 Try.underlying22 hi hz0 hz1 hz2 aA na ca G rfl HA2.out.1 a w2.heap.size rfl rfl (by omega) HB2.out.size ?_); (intro g5 c5 w5 hp5); (have HP5 := hid hp5); (have HO5 := hid (hp5.keep _ _ _ HO2.out.1 HA1.out.2.symm)); (have HL5 := hid (hp5.keep _ _ _ HL2.out HA2.out.2.symm)); (have HTL5 := hid (Own.topC HL5.out.1 HLJ.out)); (have hcl5 := HTL5.out.cell); (have hfl5 := HTL5.out.froz); (have hst5 := HSET.out _ _ _ HTL5.out); (clear hp5))
                  | (at_builtin; (refine wpList_push _ rfl _ _ 22 rfl w.heap.size i0 Try.underlying22 hi hz0 hz1 hz2 aL no cl l.reverse rfl HL1.out.1 z w1.heap.size rfl rfl (by omega) HB1.out.size ?_); (intro g2 c2 w2 hp2); (have HL2 := hid (show Own w2 w.heap.size (.slice (some ⟨g2, 0, none⟩) (no + 1) c2) ((z :: l).reverse) by rw [List.reverse_cons]; exact hp2.own)); (have HO2 := hid (hp2.keep _ _ _ HO1.out HL1.out.2.symm)); (have HA2 := hid (hp2.keep _ _ _ HA1.out.1 HDAL.out)); (have HB2 := hid (hp2.below w rfl HB1.out)); (have HTO2 := hid (Own.topC HO2.out.1 HOJ.out)); (have hco2 := HTO2.out.cell); (have hcap1 := HTO2.out.cap); (have hcap2 := HTO2.out.cmax); (have HTL2 := hid (Own.topC HL2.out HLJ.out)); (have hcap3 := HTL2.out.cap); (have hcap4 := HTL2.out.cmax); (have q4 : (no : Int) ≤ (c1 : Int) := by omega); (have q5 : (no : Int) ≤ (c2 : Int) := by omega); (have HDLO2 := hid HO2.out.2.symm); (clear hp2))
                  | (at_builtin; (refine wpList_push _ rfl _ _ 22 rfl w.heap.size i0 Try.underlying22 hi hz0 hz1 hz2 aO no co o.reverse rfl HO.out a wr.heap.size rfl rfl (by omega) HB.out.size ?_); (intro g1 c1 w1 hp1); (have HO1 := hid (show Own w1 w.heap.size (.slice (some ⟨g1, 0, none⟩) (no + 1) c1) ((a :: o).reverse) by rw [List.reverse_cons]; exact hp1.own)); (have HL1 := hid (hp1.keep _ _ _ HL.out HDLO.out)); (have HA1 := hid (hp1.keep _ _ _ HA.out HDAO.out)); (have HB1 := hid (hp1.below w rfl HB.out)); (clear hp1))
                  | fail)
                have HGRW := hid (HTL5.out.set (z - 1)).2
                have HLW := hid (HTL5.out.set (z - 1)).1
                have HOW := hid (Own.kept HO5.out.1 HGRW.out (.inr (fun e => HDLO2.out g2 rfl e)))
                have HAW := hid (Own.kept HP5.out.own HGRW.out (.inr (fun e => HL5.out.2 g2 rfl e)))
                have HBW := hid ((HP5.out.below w rfl HB2.out).setCell (p := ⟨g2, no, none⟩) HTL5.out.base (.int .i64 (z - 1)))
                go_roundw
                case rel => exact ⟨k + 1, (blk + 1), 0, na + 1, no, c5, c1, c2, some ⟨g5, 0, none⟩, some ⟨g1, 0, none⟩, some ⟨g2, 0, none⟩, G ++ [a], o, l, t - 1, by omega, by go_num, rfl, rfl, rfl, by first | rfl | (rw [HBK.out]), rfl, HAW.out, (Own.topC HOW.out HOJ.out).cut, (Own.topC HLW.out HLJ.out).cut, HO5.out.2.symm, HL5.out.2.symm, HDLO2.out.symm, HIN.out, HTOP.out, HGW.out, HOK2.out, HLN.out, by omega, by omega, by omega, by omega, HBW.out⟩
                case measure => simp [intOf]; omega
              · have hcb : (z - 1 == 0) = false := by simpa using (fun e => hc1 (by omega) : ¬ (z - 1 = 0))
                have HGW := hid (show gwL (xs.drop (k + 1)) (G ++ [a]) (List.replicate 0 ((blk + 1) : Int) ++ exL (a :: o) ((z - 1) :: l)) = T by simpa [exL] using hgw)
                have HIN := hid (OInv.less hin2 hc1)
                have HLN := hid (show (List.replicate 0 ((blk + 1) : Int) ++ exL (a :: o) ((z - 1) :: l)).length = t - 1 by simp [exL] at hsl ⊢; omega)
                have HSET := hid (fun (X : World) (g' c' : Nat) (hX : TopC X w.heap.size g' no c' z l) => (Own.topC (hX.set (z - 1)).1 HLJ.out).cell)
                clear hgw hin2 hsl hc1 hin
                go_wp2_with (first
                  | (at_builtin; (refine wpList_push _ rfl _ _ 22 rfl w.heap.size i0 Try.underlying22 hi hz0 hz1 hz2 aA na ca G rfl HA2.out.1 a w2.heap.size rfl rfl (by omega) HB2.out.size ?_); (intro g5 c5 w5 hp5); (have HP5 := hid hp5); (have HO5 := hid (hp5.keep _ _ _ HO2.out.1 HA1.out.2.symm)); (have HL5 := hid (hp5.keep _ _ _ HL2.out HA2.out.2.symm)); (have HTL5 := hid (Own.topC HL5.out.1 HLJ.out)); (have hcl5 := HTL5.out.cell); (have hfl5 := HTL5.out.froz); (have hst5 := HSET.out _ _ _ HTL5.out); (clear hp5))
                  | (at_builtin; (refine wpList_push _ rfl _ _ 22 rfl w.heap.size i0 Try.underlying22 hi hz0 hz1 hz2 aL no cl l.reverse rfl HL1.out.1 z w1.heap.size rfl rfl (by omega) HB1.out.size ?_); (intro g2 c2 w2 hp2); (have HL2 := hid (show Own w2 w.heap.size (.slice (some ⟨g2, 0, none⟩) (no + 1) c2) ((z :: l).reverse) by rw [List.reverse_cons]; exact hp2.own)); (have HO2 := hid (hp2.keep _ _ _ HO1.out HL1.out.2.symm)); (have HA2 := hid (hp2.keep _ _ _ HA1.out.1 HDAL.out)); (have HB2 := hid (hp2.below w rfl HB1.out)); (have HTO2 := hid (Own.topC HO2.out.1 HOJ.out)); (have hco2 := HTO2.out.cell); (have hcap1 := HTO2.out.cap); (have hcap2 := HTO2.out.cmax); (have HTL2 := hid (Own.topC HL2.out HLJ.out)); (have hcap3 := HTL2.out.cap); (have hcap4 := HTL2.out.cmax); (have q4 : (no : Int) ≤ (c1 : Int) := by omega); (have q5 : (no : Int) ≤ (c2 : Int) := by omega); (have HDLO2 := hid HO2.out.2.symm); (clear hp2))
                  | (at_builtin; (refine wpList_push _ rfl _ _ 22 rfl w.heap.size i0 Try.underlying22 hi hz0 hz1 hz2 aO no co o.reverse rfl HO.out a wr.heap.size rfl rfl (by omega) HB.out.size ?_); (intro g1 c1 w1 hp1); (have HO1 := hid (show Own w1 w.heap.size (.slice (some ⟨g1, 0, none⟩) (no + 1) c1) ((a :: o).reverse) by rw [List.reverse_cons]; exact hp1.own)); (have HL1 := hid (hp1.keep _ _ _ HL.out HDLO.out)); (have HA1 := hid (hp1.keep _ _ _ HA.out HDAO.out)); (have HB1 := hid (hp1.below w rfl HB.out)); (clear hp1))
                  | fail)
                have HGRW := hid (HTL5.out.set (z - 1)).2
                have HLW := hid (HTL5.out.set (z - 1)).1
                have HOW := hid (Own.kept HO5.out.1 HGRW.out (.inr (fun e => HDLO2.out g2 rfl e)))
                have HAW := hid (Own.kept HP5.out.own HGRW.out (.inr (fun e => HL5.out.2 g2 rfl e)))
                have HBW := hid ((HP5.out.below w rfl HB2.out).setCell (p := ⟨g2, no, none⟩) HTL5.out.base (.int .i64 (z - 1)))
                go_roundw
                case rel => exact ⟨k + 1, (blk + 1), 0, na + 1, no + 1, c5, c1, c2, some ⟨g5, 0, none⟩, some ⟨g1, 0, none⟩, some ⟨g2, 0, none⟩, G ++ [a], a :: o, (z - 1) :: l, t - 1, by omega, by go_num, rfl, rfl, rfl, by first | rfl | (rw [HBK.out]), rfl, HAW.out, HOW.out, HLW.out, HO5.out.2.symm, HL5.out.2.symm, HDLO2.out.symm, HIN.out, HTOP.out, HGW.out, HOK2.out, HLN.out, by omega, by omega, by omega, by omega, HBW.out⟩
                case measure => simp [intOf]; omega
          · rw [gwL, if_pos rfl, htop, ← List.cons_append, ← List.replicate_succ] at hgw
            have HGW := hid hgw
            have HOK2 := hid (show blOk (xs.drop (k + 1)) ((t + 1 : Nat) : Int) = true by rw [show ((t + 1 : Nat) : Int) = (t : Int) + (2 * 1 - 1) by omega]; exact x4)
            have HLN := hid (show (List.replicate (ones + 1) (blk : Int) ++ exL o l).length = t + 1 by simp at hsl ⊢; omega)
            have HIN := hid hin
            have HTOP := hid htop
            have u1 : IntKind.i64.wrap ((ones : Int) + 1) = ((ones + 1 : Nat) : Int) := by rw [IntWalk.i64_in _ (by omega)]; omega
            clear hoa hoo hol dao dal dol htop hok hbel hd hx x3 x4 hgw hsl hin
            go_wp2_with fail
            go_roundw
            case rel => exact ⟨k + 1, blk, ones + 1, na, no, ca, co, cl, aA, aO, aL, G, o, l, t + 1, by omega, by go_num, rfl, rfl, rfl, rfl, by first | rfl | go_num, HA.out, HO.out, HL.out, HDAO.out, HDAL.out, HDOL.out, HIN.out, HTOP.out, HGW.out, HOK2.out, HLN.out, by omega, by omega, by omega, by omega, HB.out⟩
            case measure => simp [intOf]; omega
        · obtain rfl : k = xs.length := by omega
          have HE := hid (show G = T by rw [← hgw, List.drop_length, gwL])
          clear hoa hoo hol dao dal dol htop hok hbel hgw hsl hin
          go_wp2_with fail
          go_ret2
          exact ⟨_, by rw [HG.out]; rfl, by rw [HF.out, ← HE.out]; exact HA.out, HB.out⟩
end Go.Proofs.Ytakelcboamjndab
