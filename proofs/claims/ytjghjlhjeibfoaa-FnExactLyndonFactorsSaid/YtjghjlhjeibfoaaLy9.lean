/- Contracts: both LyndonFactors. Conditions: slices that are not nil and read as lists of at most 2^20 numbers. -/
import Derived.Test.YtjghjlhjeibfoaaLy5
import Derived.Test.YtjghjlhjeibfoaaLy6
import Derived.Test.YtjghjlhjeibfoaaGrE
namespace Go.Proofs.Ytjghjlhjeibfoaa
open Go.RowKit
set_option linter.unusedVariables false
set_option maxRecDepth 4000

def slLenF : Value → Nat
  | .slice _ n _ => n
  | _ => 0
def lfRes (xs : List Int) : List (List Int) := atW xs [] (facL xs)
theorem facL_rows (n : Nat) : ∀ xs : List Int, xs.length ≤ n → ∀ l ∈ facL xs, l.length ≤ n := by
  induction n with
  | zero => intro xs h l hl; rw [List.eq_nil_of_length_eq_zero (by omega : xs.length = 0), facL_nil] at hl; cases hl
  | succ n ih =>
    intro xs h l hl
    by_cases e : 1 ≤ xs.length
    · have h2 := ffL_spec e
      rw [facL_cons e] at hl
      rcases List.mem_cons.1 hl with rfl | hl
      · rw [List.length_take]; omega
      · have := ih (xs.drop (ffL xs)) (by rw [List.length_drop]; omega) l hl
        omega
    · rw [List.eq_nil_of_length_eq_zero (by omega : xs.length = 0), facL_nil] at hl; cases hl
theorem bound_LyndonFactors (xs : List Int) : preLen (lfRes xs) (lfRes xs).length ≤ 100000 := by
  unfold lfRes
  cases h : lyW xs with
  | false => rw [atW_no h]; exact Nat.zero_le _
  | true =>
    rw [atW_yes h]
    have h24 := (lyW_small h).1.2
    have h1 := preLen_le (facL_rows 24 xs h24) (facL xs).length
    have h2 := facL_len 24 xs h24
    omega
theorem fac_step {xs : List Int} {k q : Nat} {L : List (List Int)} (hk : k < xs.length) (h : L ++ facL (xs.drop k) = facL xs) (hq : q = ffL (xs.drop k)) : (L ++ [(xs.drop k).take q]) ++ facL (xs.drop (k + q)) = facL xs := by
  rw [← h, facL_cons (xs := xs.drop k) (by simp; omega), ← hq, List.drop_drop, List.append_assoc]; rfl
theorem fac_end {xs : List Int} {k : Nat} {L : List (List Int)} (hk : k = xs.length) (h : L ++ facL (xs.drop k) = facL xs) : L = facL xs := by
  rw [hk, List.drop_length, facL_nil, List.append_nil] at h; exact h
set_option maxHeartbeats 2000000 in
theorem law_spec_LyndonFactors (v : Value) (xs : List Int) (w : World) (h : Sits w v xs) (hl : xs.length ≤ 1048576) (_hwf : ∀ x ∈ xs, (Lit.int .i64 x).wf = true) :
    Calls Try.prog 30 #[v] w fun e w' => ∃ u, e = .returned (.tuple #[u, .bool (lyW xs)]) ∧ ReadsL w' u (lfRes xs) ∧ Below w.heap.size w w' := by
  have HS := hid h
  obtain ⟨b, off, c, rfl, hc1, hm, hb, hc⟩ := h
  have HD := hid (fun (k : Nat) (hk : k ≤ xs.length) => Sits_drop (w := w) (off := off) k hk hc1 hm hb hc)
  have HTD := hid (fun (k m : Nat) (hk : k ≤ xs.length) (hm2 : m ≤ (xs.drop k).length) => show Sits w (.slice (some ⟨b, off + k, none⟩) m (c - k)) ((xs.drop k).take m) by
    obtain ⟨b', off', c', e, d1, d2, d3, d4⟩ := Sits_drop (w := w) (off := off) k hk hc1 hm hb hc
    simp only [Value.slice.injEq, Option.some.injEq, Addr.mk.injEq, and_true] at e
    obtain ⟨⟨rfl, rfl⟩, _, rfl⟩ := e
    exact Sits_take m hm2 d1 d2 d3 d4)
  obtain ⟨j0, hj, hy0, hy1, hy2⟩ := info_parts Try.infoL
  clear hc
  cases hn : lyW xs with
  | false =>
    have HF := hid (show lfRes xs = [] from atW_no hn)
    go_enter Try.func30, Try.ntmps30
    go_wp2_with (first | (go_at_call 37; (refine (lyWord_any _ xs _ HS.out).mono ?_); (rintro e w1 ⟨rfl, rfl⟩); (rw [hn])) | fail)
    go_ret2
    exact ⟨_, rfl, by rw [HF.out]; exact (Lists.nil _ w.heap.size).readsL, Below.refl _ _⟩
  | true =>
    have HF := hid (show lfRes xs = facL xs from atW_yes hn)
    obtain ⟨⟨h1, h2⟩, hs⟩ := lyW_small hn
    have HSM := hid (fun k m => smallL_take (smallL_drop hs k) m)
    clear hs
    go_enter Try.func30, Try.ntmps30
    go_wp2_with (first | (go_at_call 37; (refine (lyWord_any _ xs _ HS.out).mono ?_); (rintro e w1 ⟨rfl, rfl⟩); (rw [hn])) | fail)
    clear hn
    go_loopw [4, 5, 6] (fun ov fv _ wr => ∃ (k n c : Nat) (aA : Option Addr) (L : List (List Int)), fv = .int .i64 (k : Int) ∧ k ≤ xs.length ∧ n ≤ k ∧ ov = .slice aA n c ∧ Lists wr w.heap.size (.slice aA n c) L ∧ L ++ facL (xs.drop k) = facL xs ∧ Below w.heap.size w wr) (fun _ f _ _ => xs.length - (intOf f).toNat)
    case atStart => exact ⟨0, 0, 0, none, [], rfl, Nat.zero_le _, Nat.le_refl _, rfl, Lists.nil _ _, rfl, Below.refl _ _⟩
    case round =>
      obtain ⟨k, n, c0, aA, L, rfl, hk, hnk, rfl, hli, hfac, hbel⟩ := hrel
      have HL := hid hli
      have HB := hid hbel
      have HFA := hid hfac
      by_cases hlt : k < xs.length
      · have q1 : (k : Int) < (xs.length : Int) := by omega
        have HDL := hid (show (xs.drop k).length = xs.length - k by simp)
        obtain ⟨wo, hwo⟩ : ∃ wo : World, wo = wr := ⟨_, rfl⟩
        clear hli hbel hfac
        go_wp2_with fail
        subst hwo
        go_loopw [6] (fun ev wr => ∃ m e : Nat, ev = .int .i64 (e : Int) ∧ e = k + m ∧ 1 ≤ m ∧ m ≤ xs.length - k ∧ (∀ i, m < i → i ≤ (xs.drop k).length → lynB ((xs.drop k).take i) = false) ∧ Below wo.heap.size wo wr) (fun e _ => (intOf e).toNat)
        case atStart => exact ⟨xs.length - k, xs.length, rfl, by omega, by omega, Nat.le_refl _, fun i h1 h2 => by simp at h2; omega, Below.refl _ _⟩
        case round =>
          obtain ⟨m, e, rfl, he, hm1, hm2, hno, hbel⟩ := hrel
          have HBI := hid (Below_chain HB.out hbel)
          have HBO := hid hbel
          have HNO := hid hno
          have HTW := hid ((HTD.out k m hk (by rw [HDL.out]; exact hm2)).below HBI.out)
          have HLT := hid (show ((xs.drop k).take m).length = m by rw [List.length_take, HDL.out]; omega)
          have HEM := hid (show e - k = m by omega)
          have HKM := hid (show k + m = e from he.symm)
          have he1 : k < e := by omega
          have he2 : e ≤ xs.length := by omega
          have HM2 := hid hm2
          clear he hm2
          have p0 : (0 : Int) ≤ (k : Int) := by omega
          have p1 : (k : Int) ≤ (e : Int) := by omega
          have p2 : (e : Int) ≤ (c : Int) := by omega
          have p6 : k ≤ c := by omega
          have p7 : ¬ c = k := by omega
          have p8 : k < c := by omega
          have p9 : k ≤ e := by omega
          have HT2 := hid (show Sits wr (.slice (some ⟨b, off + k, none⟩) (e - k) (c - k)) ((xs.drop k).take m) by rw [HEM.out]; exact HTW.out)
          clear hbel hno
          cases hly : lynB ((xs.drop k).take m) with
          | true =>
            have HQ := hid (ff_stop hm1 (by rw [HDL.out]; exact HM2.out) hly HNO.out)
            have HST := hid (fac_step hlt HFA.out HQ.out)
            have HLY := hid hly
            clear hly
            go_wp2_with (first
              | (go_at_call 48; (refine (lyLyndon_any _ ((xs.drop k).take m) _ HT2.out (by rw [HLT.out]; exact hm1) (by rw [HLT.out]; have := HM2.out; omega) (HSM.out k m)).mono ?_); (rintro e w1 ⟨rfl, hb1⟩); (rw [HLY.out]); (have HT3 := hid (HT2.out.below hb1)); (have HL1 := hid ((HL.out.below HBO.out).below hb1)); (have HB1 := hid (Below_chain HBI.out hb1)); (clear hb1))
              | (at_builtin; (refine wpList_pushL _ rfl _ _ 36 rfl w.heap.size j0 Try.underlying36 hj hy0 hy1 hy2 aA n c0 L rfl HL2.out (.slice ao3 n3 c3) ((xs.drop k).take m) HO2.out w2.heap.size rfl rfl (by omega) HB2.out.size ?_); (intro g4 c4 w4 hl4 hb4); (have HL4 := hid hl4); (have HB4 := hid (hb4 w rfl HB2.out)); (clear hl4 hb4))
              | (go_at_call 54; (refine (l1Own_any _ ((xs.drop k).take m) _ HT3.out (by rw [HLT.out]; have := HM2.out; omega)).mono ?_); (rintro e w2 ⟨u3, rfl, ho3, hb3, _⟩); (obtain ⟨ao3, c3, hu3, _⟩ := ho3.e.shp); (rw [HLT.out] at hu3); (obtain ⟨n3, hn3⟩ : ∃ n3, n3 = m := ⟨_, rfl⟩); (rw [← hn3] at hu3); (subst hu3); (clear hn3); (have HO2 := hid (ho3.mono HB1.out.size)); (have HL2 := hid (HL1.out.below hb3)); (have HB2 := hid (Below_chain HB1.out hb3)); (clear ho3 hb3))
              | fail)
            go_roundw
            case rel => exact ⟨e, n + 1, c4, some ⟨g4, 0, none⟩, _, rfl, by omega, by omega, rfl, HL4.out, by rw [← HKM.out]; exact HST.out, HB4.out⟩
            case measure => simp [intOf]; omega
          | false =>
            have HN := hid (ff_next (by rw [HDL.out]; exact HM2.out) hly HNO.out)
            have HM := hid (ff_more hm1 (by rw [HDL.out]; exact HM2.out) hly)
            have hm3 := HM.out
            have HLY := hid hly
            clear hly
            go_wp2_with (first
              | (go_at_call 48; (refine (lyLyndon_any _ ((xs.drop k).take m) _ HT2.out (by rw [HLT.out]; exact hm1) (by rw [HLT.out]; have := HM2.out; omega) (HSM.out k m)).mono ?_); (rintro e w1 ⟨rfl, hb1⟩); (rw [HLY.out]); (have HB1 := hid (Below_chain HBO.out hb1)); (clear hb1))
              | fail)
            go_roundw
            case rel => exact ⟨m - 1, e - 1, by go_num, by have := HKM.out; omega, by omega, by have := HM2.out; omega, HN.out, HB1.out⟩
            case measure => simp [intOf]; omega
      · have HE := hid (fac_end (by omega) HFA.out)
        clear hli hbel hfac
        go_wp2_with fail
        go_ret2
        exact ⟨_, rfl, by rw [HF.out, ← HE.out]; exact HL.out.readsL, HB.out⟩
set_option maxHeartbeats 2000000 in
theorem law_impl_LyndonFactors (v : Value) (xs : List Int) (w : World) (h : Sits w v xs) (hl : xs.length ≤ 1048576) (_hwf : ∀ x ∈ xs, (Lit.int .i64 x).wf = true) :
    Calls Try.prog 31 #[v] w fun e w' => ∃ u, e = .returned (.tuple #[u, .bool (lyW xs)]) ∧ ListsE w' w.heap.size w'.heap.size u (lfRes xs) ∧ Below w.heap.size w w' := by
  have HS := hid h
  obtain ⟨b, off, c, rfl, hc1, hm, hb, hc⟩ := h
  have HD := hid (fun (k n1 cc o1 : Nat) (h1 : k + n1 = xs.length) (h2 : cc + k = c) (h3 : off + k = o1) => show Sits w (.slice (some ⟨b, o1, none⟩) n1 cc) (xs.drop k) by
    have := Sits_drop (w := w) (off := off) k (by omega) hc1 hm hb hc
    rw [← h3, show n1 = xs.length - k by omega, show cc = c - k by omega]; exact this)
  have HTD := hid (fun (k q n1 cc o1 : Nat) (h1 : k + n1 = xs.length) (h2 : cc + k = c) (h3 : off + k = o1) (hq : q ≤ n1) => show Sits w (.slice (some ⟨b, o1, none⟩) q cc) ((xs.drop k).take q) by
    obtain ⟨b', off', c', e, d1, d2, d3, d4⟩ := Sits_drop (w := w) (off := off) k (by omega) hc1 hm hb hc
    simp only [Value.slice.injEq, Option.some.injEq, Addr.mk.injEq, and_true] at e
    obtain ⟨⟨rfl, rfl⟩, _, rfl⟩ := e
    rw [← h3, show cc = c - k by omega]
    exact Sits_take q (by rw [List.length_drop]; omega) d1 d2 d3 d4)
  obtain ⟨j0, hj, hy0, hy1, hy2⟩ := info_parts Try.infoL
  clear hc
  cases hn : lyW xs with
  | false =>
    have HF := hid (show lfRes xs = [] from atW_no hn)
    go_enter Try.func31, Try.ntmps31
    go_wp2_with (first | (go_at_call 14; (refine (impl_IsWord_any _ xs _ HS.out.reads).mono ?_); (rintro e w1 ⟨rfl, rfl⟩); (rw [hn])) | fail)
    go_ret2
    exact ⟨_, rfl, by rw [HF.out]; exact (GrL.nil _ _ 0).listsE, Below.refl _ _⟩
  | true =>
    have HF := hid (show lfRes xs = facL xs from atW_yes hn)
    have h2 := (lyW_small hn).1.2
    go_enter Try.func31, Try.ntmps31
    go_wp2_with (first | (go_at_call 14; (refine (impl_IsWord_any _ xs _ HS.out.reads).mono ?_); (rintro e w1 ⟨rfl, rfl⟩); (rw [hn])) | fail)
    clear hn
    go_loopw [0, 4, 5] (fun sv ov _ wr => ∃ (k n1 cc n c0 : Nat) (ad : Addr) (aA : Option Addr) (L : List (List Int)), sv = .slice (some ad) n1 cc ∧ k + n1 = xs.length ∧ (0 < n1 → ad = ⟨b, off + k, none⟩ ∧ cc + k = c) ∧ n ≤ k ∧ ov = .slice aA n c0 ∧ GrL wr w.heap.size wr.heap.size (.slice aA n c0) L ∧ L ++ facL (xs.drop k) = facL xs ∧ Below w.heap.size w wr) (fun s _ _ _ => slLenF s)
    case atStart => exact ⟨0, xs.length, c, 0, 0, _, none, [], rfl, by omega, fun _ => ⟨rfl, rfl⟩, Nat.le_refl _, rfl, GrL.nil _ _ _, rfl, Below.refl _ _⟩
    case round =>
      obtain ⟨k, n1, cc, n, c0, ad, aA, L, rfl, hkn, had, hnk, rfl, hli, hfac, hbel⟩ := hrel
      have HL := hid hli
      have HB := hid hbel
      have HFA := hid hfac
      have HKN := hid hkn
      have hn1 : n1 ≤ 24 := by omega
      have hn24 : n ≤ 24 := by omega
      by_cases hlt : 0 < n1
      · obtain ⟨rfl, hcc⟩ := had hlt
        obtain ⟨o1, ho1⟩ : ∃ o1, off + k = o1 := ⟨_, rfl⟩
        have q1 : (0 : Int) < (n1 : Int) := by omega
        have HS1 := hid ((HD.out k n1 cc o1 hkn hcc ho1).below hbel)
        have HTQ := hid (fun q hq => HTD.out k q n1 cc o1 hkn hcc ho1 hq)
        have HDL := hid (show (xs.drop k).length = n1 by rw [List.length_drop]; omega)
        have hff := ffL_spec (xs := xs.drop k) (by rw [HDL.out]; omega)
        rw [HDL.out] at hff
        have hncc : n1 ≤ cc := by omega
        have hccm : cc ≤ 9223372036854775807 := by omega
        have HO1 := hid ho1
        have HCC := hid hcc
        rw [ho1]
        obtain ⟨q, hq⟩ : ∃ q, q = ffL (xs.drop k) := ⟨_, rfl⟩
        rw [← hq] at hff
        have HQ := hid hq
        have HST := hid (fac_step (by omega) hfac hq)
        have hq1 := hff.1
        have hq2 := hff.2.1
        have HTL := hid (show ((xs.drop k).take q).length = q by rw [List.length_take, HDL.out]; omega)
        have HNK := hid hnk
        have p0 : (0 : Int) ≤ (q : Int) := by omega
        have p1 : (q : Int) ≤ (n1 : Int) := by omega
        have p2 : (q : Int) ≤ (cc : Int) := by omega
        have p3 : (n1 : Int) ≤ (cc : Int) := by omega
        have p4 : q ≤ cc := by omega
        obtain ⟨ad2, had2⟩ : ∃ ad2 : Addr, (if cc = q then some (⟨b, o1, none⟩ : Addr) else some ⟨b, o1 + q, none⟩) = some ad2 := by split <;> exact ⟨_, rfl⟩
        have HAD := hid (show 0 < n1 - q → ad2 = ⟨b, off + (k + q), none⟩ ∧ cc - q + (k + q) = c from fun h => by
          rw [if_neg (by omega)] at had2
          refine ⟨?_, by omega⟩
          rw [← Option.some.inj had2, ← ho1, Nat.add_assoc])
        clear hkn had hnk hli hfac hbel hcc hq hff ho1
        go_wp2_with (first
          | (go_at_call 55; (refine (firstFactor_any _ (xs.drop k) _ HS1.out (by rw [HDL.out]; omega) (by rw [HDL.out]; omega)).mono ?_); (rintro e w1 ⟨rfl, hb1⟩); (rw [← HQ.out]); (have HL1 := hid (HL.out.below hb1)); (have HZ1 := hid hb1.size); (have HB1 := hid (Below_chain HB.out hb1)); (clear hb1))
          | (at_builtin; (refine wpList_pushE _ rfl _ _ 36 rfl w.heap.size wr.heap.size j0 Try.underlying36 hj hy0 hy1 hy2 aA n c0 L rfl HL2.out (.slice (some ⟨w1.heap.size, 0, none⟩) q q) ((xs.drop k).take q) HO2.out (fun g hg => by simp only [Value.ownBlock, Option.some.injEq] at hg; have := HZ1.out; omega) w2.heap.size rfl rfl (by omega) HB2.out.size HZ2.out ?_); (intro g4 c4 w4 hl4 _ hz4 hb4); (have HL4 := hid (hl4.up hz4)); (have HB4 := hid (hb4 w rfl HB2.out)); (clear hl4 hb4 hz4))
          | (go_at_call 51; (refine (copyOf_any _ ((xs.drop k).take q) _ ((HTQ.out q hq2).below HB1.out) (by rw [HTL.out]; omega)).mono ?_); (rintro e w2 ⟨rfl, hr2, hb2⟩); (have ho2 := (copy_own (by rw [HTL.out]; omega) hr2).e.mono HB1.out.size); (rw [HTL.out] at ho2 ⊢); (have HO2 := hid ho2); (have HL2 := hid (HL1.out.below hb2)); (have HZ2 := hid (Nat.le_trans HZ1.out hb2.size)); (have HB2 := hid (Below_chain HB1.out hb2)); (clear hr2 ho2 hb2))
          | fail)
        go_roundw
        case rel => exact ⟨k + q, n1 - q, cc - q, n + 1, c4, ad2, some ⟨g4, 0, none⟩, _, rfl, by have := HKN.out; omega, HAD.out, by have := HNK.out; omega, rfl, HL4.out, HST.out, HB4.out⟩
        case measure => simp only [slLenF]; omega
      · have hz : n1 = 0 := by omega
        subst hz
        have HE := hid (fac_end (by omega) HFA.out)
        clear hli hbel hfac had hkn
        go_wp2_with (first
          | (go_at_call 56; (refine (endedL_any _ _ _ _ _ HL.out).mono ?_); (rintro e w4 ⟨u, rfl, ho, rfl⟩); (have HO := hid ho); (clear ho))
          | fail)
        go_ret2
        exact ⟨_, rfl, by rw [HF.out, ← HE.out]; exact HO.out, HB.out⟩
end Go.Proofs.Ytjghjlhjeibfoaa
