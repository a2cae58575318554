/- Contract: meet, of a whole word from its beginning on, with the closure squaresOf$1. Conditions: the places lie within the word; the closure's contract is handed over. -/
import Derived.Test.YteimfdpkodcfbaaMx
import Derived.Test.YteimfdpkodcfbaaMet
import Derived.Test.YteimfdpkodcfbaaBs3
import Derived.Test.YteimfdpkodcfbaaMetM
namespace Go.Proofs.Yteimfdpkodcfbaa
open Go.RowKit Go.Maps
set_option linter.unusedVariables false
set_option maxRecDepth 4000

theorem grown_of_below9 {w w' : World} (h : Below w.heap.size w w') {r : Option Nat} : w.grownBy w' r :=
  ⟨h.os, h.tape, h.output, h.size, fun k hk _ => h.block k hk⟩
theorem map_ne9 {H : Type} {P : Program} {k : TypeId} {R : Value → Option (DataW H × List MemPlace)} {w : World} {mb n b o : Nat} {D : DataW H} {x : Value} (hm : w.ownsMap P k R mb n D) (h : w.cell? ⟨b, o, none⟩ = some x) : b ≠ mb := by
  intro e
  subst e
  obtain ⟨es, clock, hh, _⟩ := hm
  unfold World.cell? at h
  simp [hh] at h
theorem grown_cell9 {H : Type} {P : Program} {k : TypeId} {R : Value → Option (DataW H × List MemPlace)} {w w' : World} {mb n b o : Nat} {D : DataW H} {x : Value} (hg : w.grownBy w' (some mb)) (hm : w.ownsMap P k R mb n D) (h : w.cell? ⟨b, o, none⟩ = some x) : w'.cell? ⟨b, o, none⟩ = some x :=
  hg.cell h (by have := map_ne9 hm h; simpa using this)
theorem Sits.grown9 {H : Type} {P : Program} {k : TypeId} {R : Value → Option (DataW H × List MemPlace)} {w w' : World} {mb n : Nat} {D : DataW H} {v : Value} {xs : List Int} (h : Sits w v xs) (hg : w.grownBy w' (some mb)) (hm : w.ownsMap P k R mb n D) (h1 : 1 ≤ xs.length) : Sits w' v xs := by
  obtain ⟨b, off, c, rfl, hc1, hcm, hb, hc⟩ := h
  exact ⟨b, off, c, rfl, hc1, hcm, Nat.lt_of_lt_of_le hb hg.size, fun i hi => grown_cell9 hg hm (hc i hi)⟩
set_option maxHeartbeats 2000000 in
theorem meet0_S (rk : List Int → Int) (ok : List Int → Bool) (v u : Value) (PL : List (List Int)) (ws : List Int) (mb : Nat) (pa : Addr) (w : World) (hpl : SitsL w v PL) (hu : Sits w u ws) (hn : PL.length ≤ 200)
    (hrow : ∀ l ∈ PL, Placed ws.length l) (hws : ws.length ≤ 200) (hwf : ∀ l ∈ PL, (Lit.int .i64 (rk (pkL ws l))).wf = true) (hmb : w.ownsMap Try.prog 3 (plainElem (H := Unit) Try.prog 3) mb 0 (metJ (rkT rk PL ws) 0))
    (hclo : ∀ (W : World) (x : Value) (B : Nat) (ys : List Int), (∃ l ∈ PL, ys = pkL ws l) → w.heap.size ≤ B → Own W B x ys → w.grownBy W (some mb) → Calls Try.prog 148 #[x, .pointer (some pa)] W fun e w' => e = .returned (.tuple #[.int .i64 (rk ys), .bool (ok ys)]) ∧ Below W.heap.size W w') :
    Calls Try.prog 138 #[.agg #[v, .func (.func 148) #[] #[.pointer (some pa)], .map (some mb)], u, .int .i64 0] w fun e w' => e = .returned (.bool (lyB rk ok PL ws)) ∧ (lyB rk ok PL ws = true → w'.ownsMap Try.prog 3 (plainElem (H := Unit) Try.prog 3) mb PL.length (metJ (rkT rk PL ws) PL.length)) ∧ w.grownBy w' (some mb) := by
  have HU := hid hu
  have HPL := hid hpl
  have HROW := hid hrow
  have HWF := hid hwf
  have HCLO := hid hclo
  obtain ⟨b, off, c, rfl, hc1, hcm, hb, hc⟩ := hpl
  obtain ⟨b2, off2, c2, rfl, hd1, hdm, hb2, hd⟩ := hu
  have HC := hid hc
  have hmlt := hmb.lt
  clear hc hd hrow hwf hclo
  obtain ⟨w1, hw1⟩ : ∃ w1, w1 = w.alloc (.cells #[.slice (some ⟨b, off, none⟩) PL.length c, .func (.func 148) #[] #[.pointer (some pa)], .map (some mb)] 102) := ⟨_, rfl⟩
  have HG1 := hid (show w.grownBy w1 (some mb) by rw [hw1]; exact World.grownBy_alloc w _ _)
  have HX0 := hid (show w1.cell? ⟨w.heap.size, 0, none⟩ = some (.slice (some ⟨b, off, none⟩) PL.length c) by rw [hw1]; simp)
  have HX1 := hid (show w1.cell? ⟨w.heap.size, 1, none⟩ = some (.func (.func 148) #[] #[.pointer (some pa)]) by rw [hw1]; simp)
  have HX2 := hid (show w1.cell? ⟨w.heap.size, 2, none⟩ = some (.map (some mb)) by rw [hw1]; simp)
  have HM1 := hid (show w1.ownsMap Try.prog 3 (plainElem (H := Unit) Try.prog 3) mb 0 (metJ (rkT rk PL ws) 0) by rw [hw1]; exact hmb.alloc _)
  have hs1 : w1.heap.size = w.heap.size + 1 := by rw [hw1]; simp
  have HW1 := hid hw1
  have HM0 := hid hmb
  clear hmb
  have hx0 := HX0.out
  rw [HW1.out] at hx0
  go_enter Try.func138, Try.ntmps138
  go_wp2_with fail
  rw [← HW1.out]
  clear hx0
  go_loopw [18] (fun i wr => ∃ k : Nat, i = .int .i64 (k : Int) ∧ k ≤ PL.length ∧ allTo k (newW rk ok PL ws) = true ∧ wr.ownsMap Try.prog 3 (plainElem (H := Unit) Try.prog 3) mb k (metJ (rkT rk PL ws) k) ∧ w1.grownBy wr (some mb)) (fun i _ => PL.length - (intOf i).toNat)
  case atStart => exact ⟨0, rfl, Nat.zero_le _, rfl, HM1.out, World.grownBy.refl _ _⟩
  case round =>
    obtain ⟨k, rfl, hk, hall, hmap, hgr⟩ := hrel
    have HG := hid (grownBy_trans HG1.out hgr)
    have HMP := hid hmap
    have HGR := hid hgr
    have HALL := hid hall
    by_cases hlt : k < PL.length
    · obtain ⟨z, hz, hsit⟩ := HC.out k hlt
      obtain ⟨l, hl⟩ : ∃ l, l = PL[k] := ⟨_, rfl⟩
      have HGD := hid (show PL.getD k [] = l by rw [hl, List.getD_eq_getElem?_getD, List.getElem?_eq_getElem hlt]; rfl)
      have HLM := hid (show l ∈ PL by rw [hl]; exact List.getElem_mem hlt)
      rw [← hl] at hsit
      have hpl := HROW.out l HLM.out
      have hl1 := hpl.one
      have hl2 := hpl.len
      have HIN := hid hpl.within
      obtain ⟨x, hx1, hx2⟩ := hpl.last
      have HX := hid hx1
      have hcx := grown_cell9 HG.out HM0.out hz
      have HZ := hid (Sits.grown9 hsit HG.out HM0.out hl1)
      have HUR := hid (Sits.grown9 HU.out HG.out HM0.out (by omega))
      obtain ⟨bz, oz, cz, rfl, _, hczm, _, _⟩ := hsit
      have hx1r := grown_cell9 hgr HM1.out HX1.out
      have HX2R := hid (grown_cell9 hgr HM1.out HX2.out)
      have q1 : ¬ (x : Int) < 0 := by omega
      have q2 : ¬ (ws.length : Int) ≤ (x : Int) := by omega
      have HT := hid (show rkT rk PL ws k = rk (pkL ws l) by unfold rkT; rw [HGD.out])
      obtain ⟨r, hr⟩ : ∃ r, r = rk (pkL ws l) := ⟨_, rfl⟩
      have HRW := hid (show (Lit.int .i64 r).wf = true by rw [hr]; exact HWF.out l HLM.out)
      have HR := hid hr
      have HSW := hid (show w.heap.size ≤ wr.heap.size from Nat.le_trans (by omega) hgr.size)
      have HSL := hid (show w.heap.size < wr.heap.size from Nat.lt_of_lt_of_le (by omega) hgr.size)
      clear hl hz hpl hx1 hall hmap hgr hr
      cases hmet : metW (rkT rk PL ws) k r with
      | true =>
        obtain ⟨i, hi, hTi⟩ := metW_iff.1 hmet
        have HL := hid (show lyB rk ok PL ws = false from allTo_no hlt (by unfold newW; rw [HT.out, ← HR.out, hmet]; rfl))
        have HTI := hid hTi
        clear hTi
        go_wp2_with (first | (go_at_call 136; (refine (Max_any _ l _ HZ.out hl1 (by omega)).mono ?_); (rintro e w2 ⟨rfl, rfl⟩); (rw [HX.out])) | fail)
        have HPK := hid (picked_any _ _ ws l wr.drew (HUR.out.below ((Below.refl wr.heap.size wr).drew)) (HZ.out.below ((Below.refl wr.heap.size wr).drew)) HIN.out (by omega))
        go_region_held3 (fun w' => w'.cell? ⟨w.heap.size, 1, none⟩ = some (.func (.func 148) #[] #[.pointer (some pa)]))
          (first | exact hx1r | exact (HB3.out.cell (by exact HSL.out)).trans hx1r | exact (HB4.out.cell (by exact HSL.out)).trans hx1r | go_keep | fail)
          (first
            | (go_at_call 148; (refine (HCLO.out w3 _ wr.heap.size (pkL ws l) ⟨l, HLM.out, rfl⟩ HSW.out HO3.out (grownBy_trans HG.out (grown_of_below9 HB3.out))).mono ?_); (rintro e w4 ⟨rfl, hb4⟩); (rw [← HR.out]); (have HB4 := hid (Below_chain HB3.out hb4)); (clear hb4))
            | (go_at_call 163; (refine HPK.out.mono ?_); (rintro e w3 ⟨rfl, ho3, hb3⟩); (have HO3 := hid ho3); (have HB3 := hid (Below_chain ((Below.refl wr.heap.size wr).drew) hb3)); (clear ho3 hb3))
            | fail)
        have HM4 := hid (ownsMap_below9 HMP.out HB4.out)
        have hx2r : w4.cell? ⟨w.heap.size, 2, none⟩ = some (.map (some mb)) := (HB4.out.cell (by exact HSL.out)).trans HX2R.out
        have HG4 := hid (grownBy_trans HG.out (grown_of_below9 HB4.out))
        have HG4r := hid (grownBy_trans HGR.out (grown_of_below9 HB4.out))
        have hlk := look9_yes HM4.out HRW.out (once_apart HALL.out) hi HTI.out
        go_wp2_with fail
        go_ret
        exact ⟨ret_bool HL.out.symm, (fun h => by rw [HL.out] at h; cases h), HG4.out⟩
      | false =>
        have HMET := hid hmet
        cases hok : ok (pkL ws l) with
        | false =>
          have HL := hid (show lyB rk ok PL ws = false from allTo_no hlt (by unfold newW; rw [HGD.out, hok, Bool.and_false]))
          go_wp2_with (first | (go_at_call 136; (refine (Max_any _ l _ HZ.out hl1 (by omega)).mono ?_); (rintro e w2 ⟨rfl, rfl⟩); (rw [HX.out])) | fail)
          have HPK := hid (picked_any _ _ ws l wr.drew (HUR.out.below ((Below.refl wr.heap.size wr).drew)) (HZ.out.below ((Below.refl wr.heap.size wr).drew)) HIN.out (by omega))
          go_region_held3 (fun w' => w'.cell? ⟨w.heap.size, 1, none⟩ = some (.func (.func 148) #[] #[.pointer (some pa)]))
            (first | exact hx1r | exact (HB3.out.cell (by exact HSL.out)).trans hx1r | exact (HB4.out.cell (by exact HSL.out)).trans hx1r | go_keep | fail)
            (first
              | (go_at_call 148; (refine (HCLO.out w3 _ wr.heap.size (pkL ws l) ⟨l, HLM.out, rfl⟩ HSW.out HO3.out (grownBy_trans HG.out (grown_of_below9 HB3.out))).mono ?_); (rintro e w4 ⟨rfl, hb4⟩); (rw [← HR.out, hok]); (have HB4 := hid (Below_chain HB3.out hb4)); (clear hb4))
              | (go_at_call 163; (refine HPK.out.mono ?_); (rintro e w3 ⟨rfl, ho3, hb3⟩); (have HO3 := hid ho3); (have HB3 := hid (Below_chain ((Below.refl wr.heap.size wr).drew) hb3)); (clear ho3 hb3))
              | fail)
          have HM4 := hid (ownsMap_below9 HMP.out HB4.out)
          have hx2r : w4.cell? ⟨w.heap.size, 2, none⟩ = some (.map (some mb)) := (HB4.out.cell (by exact HSL.out)).trans HX2R.out
          have HG4 := hid (grownBy_trans HG.out (grown_of_below9 HB4.out))
          have HG4r := hid (grownBy_trans HGR.out (grown_of_below9 HB4.out))
          have hlk := look9_no HM4.out HRW.out HMET.out
          go_wp2_with fail
          go_ret
          exact ⟨ret_bool HL.out.symm, (fun h => by rw [HL.out] at h; cases h), HG4.out⟩
        | true =>
          have HNW := hid (show newW rk ok PL ws k = true by unfold newW; rw [HT.out, ← HR.out, hmet, HGD.out, hok]; rfl)
          go_wp2_with (first | (go_at_call 136; (refine (Max_any _ l _ HZ.out hl1 (by omega)).mono ?_); (rintro e w2 ⟨rfl, rfl⟩); (rw [HX.out])) | fail)
          have HPK := hid (picked_any _ _ ws l wr.drew (HUR.out.below ((Below.refl wr.heap.size wr).drew)) (HZ.out.below ((Below.refl wr.heap.size wr).drew)) HIN.out (by omega))
          go_region_held3 (fun w' => w'.cell? ⟨w.heap.size, 1, none⟩ = some (.func (.func 148) #[] #[.pointer (some pa)]))
            (first | exact hx1r | exact (HB3.out.cell (by exact HSL.out)).trans hx1r | exact (HB4.out.cell (by exact HSL.out)).trans hx1r | go_keep | fail)
            (first
              | (go_at_call 148; (refine (HCLO.out w3 _ wr.heap.size (pkL ws l) ⟨l, HLM.out, rfl⟩ HSW.out HO3.out (grownBy_trans HG.out (grown_of_below9 HB3.out))).mono ?_); (rintro e w4 ⟨rfl, hb4⟩); (rw [← HR.out, hok]); (have HB4 := hid (Below_chain HB3.out hb4)); (clear hb4))
              | (go_at_call 163; (refine HPK.out.mono ?_); (rintro e w3 ⟨rfl, ho3, hb3⟩); (have HO3 := hid ho3); (have HB3 := hid (Below_chain ((Below.refl wr.heap.size wr).drew) hb3)); (clear ho3 hb3))
              | fail)
          have HM4 := hid (ownsMap_below9 HMP.out HB4.out)
          have hx2r : w4.cell? ⟨w.heap.size, 2, none⟩ = some (.map (some mb)) := (HB4.out.cell (by exact HSL.out)).trans HX2R.out
          have HG4 := hid (grownBy_trans HG.out (grown_of_below9 HB4.out))
          have HG4r := hid (grownBy_trans HGR.out (grown_of_below9 HB4.out))
          have hlk := look9_no HM4.out HRW.out HMET.out
          have hk9 : k < 1000 := by omega
          have HKW := hid (show (Lit.int .i64 (k : Int)).wf = true from WalkArith.wf_i64 (by omega))
          have HKEY := hid (keyOf_int_mk (q := .i64) (a := r) Try.underlying3 HRW.out)
          go_wp2_with (first
            | (at_mapUpdate; refine wpList_mapUpdate_own _ rfl _ _ _ 78 rfl 3 3 Try.keyInt9 Try.underlying78 (plainElem (H := Unit) Try.prog 3) mb k _ rfl HM4.out (by unfold maxLen; omega) _ _ _ rfl rfl HKEY.out _ [] (plainElem_int Try.underlying3 HKW.out) ?_; intro w5 hown5 hgrow5; have HO5 := hid (show w5.ownsMap Try.prog 3 (plainElem (H := Unit) Try.prog 3) mb (k + 1) (metJ (rkT rk PL ws) (k + 1)) by rw [metJ, HT.out, ← HR.out]; exact hown5); have HG5 := hid (grownBy_trans HG4r.out hgrow5); clear hown5 hgrow5)
            | fail)
          go_roundw
          case rel => exact ⟨k + 1, by go_num, hlt, allTo_next HALL.out HNW.out, HO5.out, HG5.out⟩
          case measure => simp [intOf]; omega
    · obtain rfl : k = PL.length := by omega
      clear hall hmap hgr
      go_wp2_with fail
      go_ret
      exact ⟨ret_bool HALL.out.symm, (fun _ => HMP.out), HG.out⟩
end Go.Proofs.Yteimfdpkodcfbaa
