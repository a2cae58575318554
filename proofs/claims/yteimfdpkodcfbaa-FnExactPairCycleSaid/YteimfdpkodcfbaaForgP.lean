/- Contract: forget, with the closure pairsOf$1 in the meeting. Conditions: the map holds windows of different ranks. -/
import Derived.Test.YteimfdpkodcfbaaMetKP
namespace Go.Proofs.Yteimfdpkodcfbaa
open Go.RowKit Go.Maps
set_option linter.unusedVariables false
set_option maxRecDepth 4000

/-- what is left in the map while it is ranged over -/
def SetF (PL : List (List Int)) (m : Nat) (S : Nat → Prop) (T : Nat → Int) (left : Lit → Bool) (i : Nat) : Prop := S i ∧ (lsT PL i < (m : Int) ∨ left (kI (T i)) = true)
theorem SetF_strike {PL : List (List Int)} {m N i j : Nat} {S : Nat → Prop} {T : Nat → Int} {left : Lit → Bool} (hinj : ∀ i j, i < N → j < N → S i → S j → T i = T j → i = j) (hi : i < N) (hj : j < N) (hs : S i) :
    SetF PL m S T (fun z => left z && !z.sameKey (kI (T i))) j ↔ S j ∧ (lsT PL j < (m : Int) ∨ (left (kI (T j)) = true ∧ j ≠ i)) := by
  unfold SetF
  refine and_congr_right (fun hsj => or_congr_right ?_)
  rw [Bool.and_eq_true, Bool.not_eq_true']
  refine and_congr_right (fun _ => ?_)
  constructor
  · rintro h rfl
    rw [WideAt.sameKey_self (kI_key _)] at h
    cases h
  · intro h
    exact sameKey_ne (kI_ne (fun e => h (hinj j i hj hi hsj hs e)))
theorem grownBy_transM {w1 w2 w3 : World} {mb : Nat} (h' : w1.grownBy w2 (some mb)) (h2 : w2.grownBy w3 (some w1.heap.size)) : w1.grownBy w3 (some mb) := by
  refine ⟨h2.os.trans h'.os, h2.tape.trans h'.tape, h2.output.trans h'.output, Nat.le_trans h'.size h2.size, fun k hk hne => ?_⟩
  rw [h2.block k (Nat.lt_of_lt_of_le hk h'.size) (by intro e; injection e with e; omega), h'.block k hk hne]
theorem grownBy_transN {w w1 w2 w3 : World} {mb : Nat} (h : w.grownBy w1 (some mb)) (h' : w1.grownBy w2 (some mb)) (h2 : w2.grownBy w3 (some w1.heap.size)) (hs : w.heap.size ≤ w1.heap.size) : w.grownBy w3 (some mb) := by
  have h3 := grownBy_trans h h'
  refine ⟨h2.os.trans h3.os, h2.tape.trans h3.tape, h2.output.trans h3.output, Nat.le_trans h3.size h2.size, fun k hk hne => ?_⟩
  rw [h2.block k (Nat.lt_of_lt_of_le hk h3.size) (by intro e; injection e with e; omega), h3.block k hk hne]
set_option maxHeartbeats 2000000 in
theorem forget_P (v : Value) (PL : List (List Int)) (m mb : Nat) (pa : Addr) (S : Nat → Prop) (T : Nat → Int) (w : World) (hpl : SitsL w v PL) (hn : PL.length ≤ 200) (hrow : ∀ l ∈ PL, Placed PL.length l) (hmb : MapI w mb PL.length S T) (hinj : ∀ i j, i < PL.length → j < PL.length → S i → S j → T i = T j → i = j) (hm : m ≤ 200) :
    Calls Try.prog 164 #[.agg #[v, .func (.func 133) #[] #[.pointer (some pa)], .map (some mb)], .int .i64 (m : Int)] w fun e w' => e = .returned (.tuple #[]) ∧ MapI w' mb PL.length (fun i => S i ∧ lsT PL i < (m : Int)) T ∧ w.grownBy w' (some mb) := by
  have HPL := hid hpl
  have HROW := hid hrow
  have HINJ := hid hinj
  obtain ⟨b, off, c, rfl, hc1, hcm, hb, hc⟩ := hpl
  have HC := hid hc
  have hmlt := hmb.lt
  clear hc hrow hinj
  obtain ⟨w1, hw1⟩ : ∃ w1, w1 = w.alloc (.cells #[.slice (some ⟨b, off, none⟩) PL.length c, .func (.func 133) #[] #[.pointer (some pa)], .map (some mb)] 102) := ⟨_, rfl⟩
  have HG1 := hid (show w.grownBy w1 (some mb) by rw [hw1]; exact World.grownBy_alloc w _ _)
  have HX0 := hid (show w1.cell? ⟨w.heap.size, 0, none⟩ = some (.slice (some ⟨b, off, none⟩) PL.length c) by rw [hw1]; simp)
  have HX2 := hid (show w1.cell? ⟨w.heap.size, 2, none⟩ = some (.map (some mb)) by rw [hw1]; simp)
  have hM1 : MapI w1 mb PL.length S T := by rw [hw1]; exact hmb.below ((Below.refl _ _).alloc (Nat.le_refl _) _)
  have hs1 : w1.heap.size = w.heap.size + 1 := by rw [hw1]; simp
  have HS1 := hid hs1
  have HW1 := hid hw1
  have HM0 := hid hmb
  obtain ⟨D0, hO1, hH1⟩ := hM1
  have HO1 := hid hO1
  have HH1 := hid hH1
  clear hmb hs1 hw1 hO1 hH1
  have hx0 := HX0.out
  have hx2 := HX2.out
  rw [HW1.out] at hx0 hx2
  go_enter Try.func164, Try.ntmps164
  go_wp2_with (first
    | (at_range; (rw [← HW1.out]); refine wpList_range_own _ rfl _ 78 rfl 3 3 Try.keyInt9 Try.underlying78 _ mb PL.length D0 rfl HO1.out ?_; intro w2 hrg2 hg2 hs2; have HR2 := hid hrg2; have HG2 := hid hg2; have HS2 := hid hs2; clear hrg2 hg2 hs2)
    | fail)
  go_frame
  clear hx0 hx2
  go_loopw [4] (fun _ wr => ∃ (left : Lit → Bool) (cnt : Nat) (D : DataW Unit), wr.ranges Try.prog 3 (plainElem (H := Unit) Try.prog 3) mb w1.heap.size PL.length D left cnt ∧ HoldsM PL.length (SetF PL m S T left) T D ∧ w1.grownBy wr (some mb)) (fun _ wr => wr.rangeLeft mb w1.heap.size)
  case atStart => exact ⟨_, _, D0, HR2.out, HH1.out.congr (fun i hi => ⟨fun hs => ⟨hs, .inr ((HH1.out.key _).2 ⟨i, hi, hs, rfl⟩)⟩, fun h => h.1⟩) (fun _ _ _ => rfl), HG2.out.but _⟩
  case round =>
    obtain ⟨left, cnt, D, hrg, hh, hgr⟩ := hrel
    have HRG := hid hrg
    have HH := hid hh
    have HGR := hid hgr
    clear hrg hh hgr
    go_wp2_with (first
      | (at_next; refine wpList_next_ranges_ii _ rfl _ rfl 3 3 .i64 .i64 Try.keyInt9 Try.underlying3 Try.underlying3 mb w1.heap.size PL.length _ _ _ rfl HRG.out ?_ ?_)
      | fail)
    · intro _ hl0
      have HL0 := hid hl0
      clear hl0
      go_wp2_with fail
      go_end0
      exact ⟨rfl, (MapI.of HRG.out.owns HH.out).congr (fun i hi => ⟨fun h => ⟨h.1, h.2.elim id (fun h2 => by rw [HL0.out] at h2; cases h2)⟩, fun h => ⟨h.1, .inl h.2⟩⟩) (fun _ _ _ => rfl), grownBy_trans HG1.out HGR.out⟩
    · intro x c9 w3 cnt3 hwx hwc hlx hat hrg3 hlt3 hg3 hs3 hen
      have HWX := hid hwx
      have HRG3 := hid hrg3
      have HG3 := hid hg3
      have HLT3 := hid hlt3
      have HLX := hid hlx
      obtain ⟨i, hi, hsi, e⟩ := (HH.out.key _).1 (has_true_of_atKey hat)
      obtain rfl : x = T i := by unfold kI at e; injection e
      have hci := HH.out.val i hi hsi (.lit (.int .i64 0))
      rw [show D.atKey (kI (T i)) (.lit (.int .i64 0)) = .lit (.int .i64 c9) from hat _] at hci
      obtain rfl : c9 = (i : Int) := by injection hci with h1; injection h1
      have HSI := hid hsi
      have HGW := hid (grownBy_transN HG1.out HGR.out HG3.out (by have := HS1.out; omega))
      obtain ⟨z, hz, hsit⟩ := HC.out i hi
      obtain ⟨l, hl⟩ : ∃ l, l = PL[i] := ⟨_, rfl⟩
      have HGDT := hid (show PL.getD i [] = l by rw [hl, List.getD_eq_getElem?_getD, List.getElem?_eq_getElem hi]; rfl)
      have HLM := hid (show l ∈ PL by rw [hl]; exact List.getElem_mem hi)
      rw [← hl] at hsit
      have hpl := HROW.out l HLM.out
      have hl1 := hpl.one
      have hl2 := hpl.len
      obtain ⟨y, hy1, hy2⟩ := hpl.last
      have HY := hid hy1
      have HLS := hid (show lsT PL i = (y : Int) by unfold lsT; rw [HGDT.out, hy1])
      obtain ⟨_, hOM0, _⟩ := HM0.out
      have hcz := grown_cellA HGW.out hOM0 hz
      have HZ := hid (Sits.grownA hsit HGW.out hOM0 hl1)
      have hneq := HM0.out.lt
      have hg3 := HG3.out
      have y0 : w3.cell? ⟨w.heap.size, 0, none⟩ = some (.slice (some ⟨b, off, none⟩) PL.length c) := HG3.out.cell (HGR.out.cell HX0.out (by simp; omega)) (by have := HS1.out; simp; omega)
      have y2 : w3.cell? ⟨w.heap.size, 2, none⟩ = some (.map (some mb)) := HG3.out.cell (HGR.out.cell HX2.out (by simp; omega)) (by have := HS1.out; simp; omega)
      have HINJ2 := hid (fun (j : Nat) (hj : j < PL.length) => SetF_strike (PL := PL) (m := m) (left := left) HINJ.out hi hj hsi.1)
      obtain ⟨bz, oz, cz, rfl, _, hczm, _, _⟩ := hsit
      clear hl hz hpl hy1 hOM0 hsi hlx hat hci e hwc hrg3 hlt3 hwx hg3
      by_cases q : (m : Int) ≤ (y : Int)
      · have HD := hid (HH.out.del hi (S' := SetF PL m S T (fun z => left z && !z.sameKey (kI (T i)))) (fun j hj hsj e => HINJ.out j i hj hi hsj.1 HSI.out.1 e) (fun j hj => by
          rw [HINJ2.out j hj]
          unfold SetF
          constructor
          · rintro ⟨h1, h2 | h2⟩
            · exact ⟨⟨h1, .inl h2⟩, fun e => by rw [e, HLS.out] at h2; omega⟩
            · exact ⟨⟨h1, .inr h2.1⟩, h2.2⟩
          · rintro ⟨⟨h1, h2 | h2⟩, h3⟩
            · exact ⟨h1, .inl h2⟩
            · exact ⟨h1, .inr ⟨h2, h3⟩⟩))
        go_wp2_with (first
          | (go_at_call 136; (refine (Max_any _ l _ HZ.out hl1 (by omega)).mono ?_); (rintro e w4 ⟨rfl, rfl⟩); (rw [HY.out]))
          | (at_delete; refine wpList_delete_ranges _ rfl _ _ 78 3 rfl 3 Try.keyInt9 Try.underlying78 _ mb w1.heap.size PL.length _ _ _ rfl HRG3.out _ _ rfl (keyOf_int_mk Try.underlying3 HWX.out) ?_; intro w5 cnt5 hrg5 hle5 hturn5; go_frame; rw [strike_twice] at hrg5; have HRG5 := hid hrg5; have HT5 := hid hturn5; have HLE5 := hid hle5; clear hrg5 hturn5 hle5)
          | fail)
        go_roundw
        case rel => exact ⟨_, cnt5, _, HRG5.out, HD.out, grownBy_trans (grownBy_transM HGR.out HG3.out) HT5.out.grown⟩
        case measure => rw [HRG5.out.left_eq, HRG.out.left_eq]; have := HLT3.out; have := HLE5.out; omega
      · go_wp2_with (first
          | (go_at_call 136; (refine (Max_any _ l _ HZ.out hl1 (by omega)).mono ?_); (rintro e w4 ⟨rfl, rfl⟩); (rw [HY.out]))
          | fail)
        go_roundw
        case rel => exact ⟨_, cnt3, _, HRG3.out, HH.out.congr (fun j hj => by
          refine Iff.trans ?_ (HINJ2.out j hj).symm
          unfold SetF
          constructor
          · rintro ⟨h1, h2⟩
            by_cases e : j = i
            · exact ⟨h1, .inl (by rw [e, HLS.out]; omega)⟩
            · exact ⟨h1, h2.imp id (fun h3 => ⟨h3, e⟩)⟩
          · rintro ⟨h1, h2⟩
            exact ⟨h1, h2.imp id (fun h3 => h3.1)⟩) (fun _ _ _ => rfl), grownBy_transM HGR.out HG3.out⟩
        case measure => rw [HRG3.out.left_eq, HRG.out.left_eq]; exact HLT3.out
end Go.Proofs.Yteimfdpkodcfbaa
