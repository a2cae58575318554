/- Contract: meet, from the known numbers of a word on, with the closure pairsOf$1. Conditions: the closure's contract is handed over. -/
import Derived.Test.YteimfdpkodcfbaaMx
import Derived.Test.YteimfdpkodcfbaaSSL
import Derived.Test.YteimfdpkodcfbaaMapA
namespace Go.Proofs.Yteimfdpkodcfbaa
open Go.RowKit Go.Maps
set_option linter.unusedVariables false
set_option maxRecDepth 4000

/-- the windows that are met behind some numbers and the first k windows of one number more -/
def SetK (PL : List (List Int)) (m k : Nat) (i : Nat) : Prop := lsT PL i < (m : Int) ∨ (i < k ∧ lsT PL i < ((m + 1 : Nat) : Int))
theorem SetK_zero {PL : List (List Int)} {m i : Nat} : SetK PL m 0 i ↔ lsT PL i < (m : Int) := by unfold SetK; omega
theorem SetK_all {PL : List (List Int)} {m i : Nat} (hi : i < PL.length) : SetK PL m PL.length i ↔ lsT PL i < ((m + 1 : Nat) : Int) := by unfold SetK; omega
theorem SetK_skip {PL : List (List Int)} {m k i : Nat} (h : lsT PL k < (m : Int) ∨ ((m + 1 : Nat) : Int) ≤ lsT PL k) : SetK PL m k i ↔ SetK PL m (k + 1) i := by
  unfold SetK
  constructor
  · rintro (h1 | h1) <;> omega
  · rintro (h1 | ⟨h1, h2⟩)
    · exact .inl h1
    · by_cases e : i = k
      · subst e; omega
      · omega
theorem SetK_new {PL : List (List Int)} {m k i : Nat} (h : lsT PL k = (m : Int)) : SetK PL m (k + 1) i ↔ SetK PL m k i ∨ i = k := by
  unfold SetK
  constructor
  · rintro (h1 | ⟨h1, h2⟩)
    · exact .inl (.inl h1)
    · by_cases e : i = k
      · exact .inr e
      · exact .inl (.inr ⟨by omega, h2⟩)
  · rintro ((h1 | h1) | rfl)
    · exact .inl h1
    · omega
    · omega
theorem SetK_not {PL : List (List Int)} {m k : Nat} (h : lsT PL k = (m : Int)) : ¬ SetK PL m k k := by unfold SetK; omega
theorem Gd.congr {rk : List Int → Int} {ok : List Int → Bool} {PL : List (List Int)} {ws : List Int} {S S' : Nat → Prop} (h : Gd rk ok PL ws S) (hS : ∀ i, i < PL.length → (S' i → S i)) : Gd rk ok PL ws S' :=
  ⟨fun i hi hs => h.yes i hi (hS i hi hs), fun i j hi hj hsi hsj e => h.inj i j hi hj (hS i hi hsi) (hS j hj hsj) e⟩
/-- what meet leaves -/
structure MetR (w w' : World) (mb : Nat) (rk : List Int → Int) (ok : List Int → Bool) (PL : List (List Int)) (ws : List Int) (m : Nat) (r : Bool) : Prop where
  yes : r = true → GdT rk ok PL ws
  no : r = false → ¬ GdT rk ok PL ws
  map : ∃ S : Nat → Prop, (∀ i, i < PL.length → lsT PL i < (m : Int) → S i) ∧ (r = true → ∀ i, i < PL.length → (S i ↔ lsT PL i < (ws.length : Int))) ∧ Gd rk ok PL ws S ∧ MapI w' mb PL.length S (rkT rk PL ws)
  grown : w.grownBy w' (some mb)
def MetE (e : Ending) (w w' : World) (mb : Nat) (rk : List Int → Int) (ok : List Int → Bool) (PL : List (List Int)) (ws : List Int) (m : Nat) : Prop := ∃ r : Bool, e = .returned (.bool r) ∧ MetR w w' mb rk ok PL ws m r
theorem grown_of_belowA {w w' : World} (h : Below w.heap.size w w') {r : Option Nat} : w.grownBy w' r :=
  ⟨h.os, h.tape, h.output, h.size, fun k hk _ => h.block k hk⟩
theorem grown_cellA {w w' : World} {mb n b o : Nat} {D : DataW Unit} {x : Value} (hg : w.grownBy w' (some mb)) (hm : w.ownsMap Try.prog 3 (plainElem (H := Unit) Try.prog 3) mb n D) (h : w.cell? ⟨b, o, none⟩ = some x) : w'.cell? ⟨b, o, none⟩ = some x :=
  hg.cell h (by have := map_neA hm h; simpa using this)
theorem Sits.grownA {w w' : World} {mb n : Nat} {D : DataW Unit} {v : Value} {xs : List Int} (h : Sits w v xs) (hg : w.grownBy w' (some mb)) (hm : w.ownsMap Try.prog 3 (plainElem (H := Unit) Try.prog 3) mb n D) (h1 : 1 ≤ xs.length) : Sits w' v xs := by
  obtain ⟨b, off, c, rfl, hc1, hcm, hb, hc⟩ := h
  exact ⟨b, off, c, rfl, hc1, hcm, Nat.lt_of_lt_of_le hb hg.size, fun i hi => grown_cellA hg hm (hc i hi)⟩
set_option maxHeartbeats 2000000 in
theorem meetK_P (rk : List Int → Int) (ok : List Int → Bool) (v u : Value) (PL : List (List Int)) (ws : List Int) (m mb : Nat) (pa : Addr) (w : World) (hpl : SitsL w v PL) (hu : Sits w u ws) (hn : PL.length ≤ 200) (hm : ws.length = m + 1)
    (hrow : ∀ l ∈ PL, Placed PL.length l) (hwl : ws.length ≤ 200) (hwf : ∀ l ∈ PL, (Lit.int .i64 (rk (pkL ws l))).wf = true) (hmb : MapI w mb PL.length (fun i => lsT PL i < (m : Int)) (rkT rk PL ws)) (hgd : Gd rk ok PL ws (fun i => lsT PL i < (m : Int)))
    (hclo : ∀ (W : World) (x : Value) (B : Nat) (ys : List Int), (∃ l ∈ PL, ys = pkL ws l) → w.heap.size ≤ B → Own W B x ys → w.grownBy W (some mb) → Calls Try.prog 133 #[x, .pointer (some pa)] W fun e w' => e = .returned (.tuple #[.int .i64 (rk ys), .bool (ok ys)]) ∧ Below W.heap.size W w') :
    Calls Try.prog 138 #[.agg #[v, .func (.func 133) #[] #[.pointer (some pa)], .map (some mb)], u, .int .i64 (m : Int)] w fun e w' => MetE e w w' mb rk ok PL ws m := by
  have HU := hid hu
  have HPL := hid hpl
  have HROW := hid hrow
  have HWF := hid hwf
  have HCLO := hid hclo
  have HGD := hid hgd
  have HLE := hid (show ((ws.length : Nat) : Int) = ((m + 1 : Nat) : Int) by rw [hm])
  have hm200 : m ≤ 200 := by omega
  obtain ⟨b, off, c, rfl, hc1, hcm, hb, hc⟩ := hpl
  obtain ⟨b2, off2, c2, rfl, hd1, hdm, hb2, hd⟩ := hu
  have HC := hid hc
  have hmlt := hmb.lt
  clear hc hd hrow hwf hclo hgd
  obtain ⟨wl, hwlen⟩ : ∃ wl, wl = ws.length := ⟨_, rfl⟩
  have hwl2 : wl = m + 1 := by omega
  have HWL2 := hid hwl2
  have HWLE := hid hwlen
  have HU2 := hid (show Sits w (.slice (some ⟨b2, off2, none⟩) wl c2) ws by rw [hwlen]; exact HU.out)
  rw [← hwlen] at hd1 ⊢
  clear hwlen hm hwl HU hwl2
  obtain ⟨w1, hw1⟩ : ∃ w1, w1 = w.alloc (.cells #[.slice (some ⟨b, off, none⟩) PL.length c, .func (.func 133) #[] #[.pointer (some pa)], .map (some mb)] 102) := ⟨_, rfl⟩
  have HG1 := hid (show w.grownBy w1 (some mb) by rw [hw1]; exact World.grownBy_alloc w _ _)
  have HX0 := hid (show w1.cell? ⟨w.heap.size, 0, none⟩ = some (.slice (some ⟨b, off, none⟩) PL.length c) by rw [hw1]; simp)
  have HX1 := hid (show w1.cell? ⟨w.heap.size, 1, none⟩ = some (.func (.func 133) #[] #[.pointer (some pa)]) by rw [hw1]; simp)
  have HX2 := hid (show w1.cell? ⟨w.heap.size, 2, none⟩ = some (.map (some mb)) by rw [hw1]; simp)
  have HM1 := hid (show MapI w1 mb PL.length (fun i => lsT PL i < (m : Int)) (rkT rk PL ws) by rw [hw1]; exact hmb.below ((Below.refl _ _).alloc (Nat.le_refl _) _))
  have hs1 : w1.heap.size = w.heap.size + 1 := by rw [hw1]; simp
  have HW1 := hid hw1
  have HM0 := hid hmb
  clear hmb
  have hx0 := HX0.out
  rw [HW1.out] at hx0
  go_enter Try.func138, Try.ntmps138
  go_wp2_with fail
  rw [← HW1.out]
  clear hx0
  go_loopw [18] (fun i wr => ∃ k : Nat, i = .int .i64 (k : Int) ∧ k ≤ PL.length ∧ Gd rk ok PL ws (SetK PL m k) ∧ MapI wr mb PL.length (SetK PL m k) (rkT rk PL ws) ∧ w1.grownBy wr (some mb)) (fun i _ => PL.length - (intOf i).toNat)
  case atStart => exact ⟨0, rfl, Nat.zero_le _, HGD.out.congr (fun i _ h => SetK_zero.1 h), HM1.out.congr (fun i _ => SetK_zero.symm) (fun _ _ _ => rfl), World.grownBy.refl _ _⟩
  case round =>
    obtain ⟨k, rfl, hk, hgk, hmap, hgr⟩ := hrel
    have HG := hid (grownBy_trans HG1.out hgr)
    have HMP := hid hmap
    have HGR := hid hgr
    have HGK := hid hgk
    by_cases hlt : k < PL.length
    · obtain ⟨z, hz, hsit⟩ := HC.out k hlt
      obtain ⟨l, hl⟩ : ∃ l, l = PL[k] := ⟨_, rfl⟩
      have HGDT := hid (show PL.getD k [] = l by rw [hl, List.getD_eq_getElem?_getD, List.getElem?_eq_getElem hlt]; rfl)
      have HLM := hid (show l ∈ PL by rw [hl]; exact List.getElem_mem hlt)
      rw [← hl] at hsit
      have hpl := HROW.out l HLM.out
      have hl1 := hpl.one
      have hl2 := hpl.len
      have HIN := hid hpl.within
      obtain ⟨x, hx1, hx2⟩ := hpl.last
      have HX := hid hx1
      have HLS := hid (show lsT PL k = (x : Int) by unfold lsT; rw [HGDT.out, hx1])
      obtain ⟨_, hOM0, _⟩ := HM0.out
      have HOM0 := hid hOM0
      have hcx := grown_cellA HG.out HOM0.out hz
      have HZ := hid (Sits.grownA hsit HG.out HOM0.out hl1)
      have HUR := hid (Sits.grownA HU2.out HG.out HOM0.out (by have := HWLE.out; have := HWL2.out; omega))
      obtain ⟨bz, oz, cz, rfl, _, hczm, _, _⟩ := hsit
      obtain ⟨_, hOM1, _⟩ := HM1.out
      have hx1r := grown_cellA hgr hOM1 HX1.out
      have HX2R := hid (grown_cellA hgr hOM1 HX2.out)
      clear hl hz hpl hx1 hgk hmap hOM0 hOM1
      by_cases q1 : (x : Int) < (m : Int)
      · have HSK := hid (fun i => SetK_skip (PL := PL) (m := m) (k := k) (i := i) (.inl (by rw [HLS.out]; exact q1)))
        clear hgr
        go_wp2_with (first
          | (go_at_call 136; (refine (Max_any _ l _ HZ.out hl1 (by omega)).mono ?_); (rintro e w2 ⟨rfl, rfl⟩); (rw [HX.out]))
          | fail)
        go_roundw
        case rel => exact ⟨k + 1, by go_num, hlt, HGK.out.congr (fun i _ h => (HSK.out i).2 h), HMP.out.congr (fun i _ => HSK.out i) (fun _ _ _ => rfl), HGR.out⟩
        case measure => simp [intOf]; omega
      · by_cases q2 : (wl : Int) ≤ (x : Int)
        · have HSK := hid (fun i => SetK_skip (PL := PL) (m := m) (k := k) (i := i) (.inr (by rw [HLS.out]; have := HWL2.out; omega)))
          clear hgr
          go_wp2_with (first
            | (go_at_call 136; (refine (Max_any _ l _ HZ.out hl1 (by omega)).mono ?_); (rintro e w2 ⟨rfl, rfl⟩); (rw [HX.out]))
            | fail)
          go_roundw
          case rel => exact ⟨k + 1, by go_num, hlt, HGK.out.congr (fun i _ h => (HSK.out i).2 h), HMP.out.congr (fun i _ => HSK.out i) (fun _ _ _ => rfl), HGR.out⟩
          case measure => simp [intOf]; omega
        · have HXM := hid (show lsT PL k = (m : Int) by rw [HLS.out]; have := HWL2.out; omega)
          have HINW := hid (show ∀ p ∈ l, ∃ q : Nat, p = (q : Int) ∧ q < ws.length by
            intro p hp
            obtain ⟨q, e, _⟩ := HIN.out p hp
            obtain ⟨j, hj, e2⟩ := List.getElem_of_mem hp
            have h3 := mxT_ge l (l.length - 1) j (by omega)
            rw [getD_at hj, e2, HX.out, e] at h3
            refine ⟨q, e, ?_⟩
            have := HWLE.out
            have := HWL2.out
            omega)
          have HT := hid (show rkT rk PL ws k = rk (pkL ws l) by unfold rkT; rw [HGDT.out])
          obtain ⟨r, hr⟩ : ∃ r, r = rk (pkL ws l) := ⟨_, rfl⟩
          have HRW := hid (show (Lit.int .i64 r).wf = true by rw [hr]; exact HWF.out l HLM.out)
          have HR := hid hr
          have HSW := hid (show w.heap.size ≤ wr.heap.size from Nat.le_trans (by omega) hgr.size)
          have HSL := hid (show w.heap.size < wr.heap.size from Nat.lt_of_lt_of_le (by omega) hgr.size)
          clear hgr hr
          have HUR2 := hid (show Sits wr (.slice (some ⟨b2, off2, none⟩) wl c2) ws from HUR.out)
          cases hok : ok (pkL ws l) with
          | false =>
            have HNG := hid (show ¬ GdT rk ok PL ws from fun hg => by
              have := hg.yes k hlt (by show lsT PL k < _; rw [HXM.out, HLE.out]; omega)
              rw [HGDT.out, hok] at this
              cases this)
            go_wp2_with (first
              | (go_at_call 136; (refine (Max_any _ l _ HZ.out hl1 (by omega)).mono ?_); (rintro e w2 ⟨rfl, rfl⟩); (rw [HX.out]))
              | fail)
            have HPK := hid (picked_any _ _ ws l wr.drew (HUR2.out.below ((Below.refl wr.heap.size wr).drew)) (HZ.out.below ((Below.refl wr.heap.size wr).drew)) HINW.out (by omega))
            go_region_held3 (fun w' => w'.cell? ⟨w.heap.size, 1, none⟩ = some (.func (.func 133) #[] #[.pointer (some pa)]))
              (first | exact hx1r | exact (HB3.out.cell (by exact HSL.out)).trans hx1r | exact (HB4.out.cell (by exact HSL.out)).trans hx1r | go_keep | fail)
              (first
                | (go_at_call 133; (refine (HCLO.out w3 _ wr.heap.size (pkL ws l) ⟨l, HLM.out, rfl⟩ HSW.out HO3.out (grownBy_trans HG.out (grown_of_belowA HB3.out))).mono ?_); (rintro e w4 ⟨rfl, hb4⟩); (rw [← HR.out, hok]); (have HB4 := hid (Below_chain HB3.out hb4)); (clear hb4))
                | (go_at_call 163; (refine HPK.out.mono ?_); (rintro e w3 ⟨rfl, ho3, hb3⟩); (have HO3 := hid ho3); (have HB3 := hid (Below_chain ((Below.refl wr.heap.size wr).drew) hb3)); (clear ho3 hb3))
                | fail)
            obtain ⟨c9, b9, hlk, hbi⟩ := (HMP.out.below HB4.out).look HRW.out
            have HBI := hid hbi
            have HM4 := hid (HMP.out.below HB4.out)
            have hx2r : w4.cell? ⟨w.heap.size, 2, none⟩ = some (.map (some mb)) := (HB4.out.cell (by exact HSL.out)).trans HX2R.out
            have HG4 := hid (grownBy_trans HG.out (grown_of_belowA HB4.out))
            clear hbi
            cases b9
            all_goals
              go_wp2_with fail
              go_ret
              exact ⟨false, rfl, ⟨fun h => (by cases h), fun _ => HNG.out, ⟨SetK PL m k, fun i _ h => .inl h, fun h => (by cases h), HGK.out, HM4.out⟩, HG4.out⟩⟩
          | true =>
            go_wp2_with (first
              | (go_at_call 136; (refine (Max_any _ l _ HZ.out hl1 (by omega)).mono ?_); (rintro e w2 ⟨rfl, rfl⟩); (rw [HX.out]))
              | fail)
            have HPK := hid (picked_any _ _ ws l wr.drew (HUR2.out.below ((Below.refl wr.heap.size wr).drew)) (HZ.out.below ((Below.refl wr.heap.size wr).drew)) HINW.out (by omega))
            go_region_held3 (fun w' => w'.cell? ⟨w.heap.size, 1, none⟩ = some (.func (.func 133) #[] #[.pointer (some pa)]))
              (first | exact hx1r | exact (HB3.out.cell (by exact HSL.out)).trans hx1r | exact (HB4.out.cell (by exact HSL.out)).trans hx1r | go_keep | fail)
              (first
                | (go_at_call 133; (refine (HCLO.out w3 _ wr.heap.size (pkL ws l) ⟨l, HLM.out, rfl⟩ HSW.out HO3.out (grownBy_trans HG.out (grown_of_belowA HB3.out))).mono ?_); (rintro e w4 ⟨rfl, hb4⟩); (rw [← HR.out, hok]); (have HB4 := hid (Below_chain HB3.out hb4)); (clear hb4))
                | (go_at_call 163; (refine HPK.out.mono ?_); (rintro e w3 ⟨rfl, ho3, hb3⟩); (have HO3 := hid ho3); (have HB3 := hid (Below_chain ((Below.refl wr.heap.size wr).drew) hb3)); (clear ho3 hb3))
                | fail)
            obtain ⟨c9, b9, hlk, hbi⟩ := (HMP.out.below HB4.out).look HRW.out
            have HBI := hid hbi
            have HM4 := hid (HMP.out.below HB4.out)
            have hx2r : w4.cell? ⟨w.heap.size, 2, none⟩ = some (.map (some mb)) := (HB4.out.cell (by exact HSL.out)).trans HX2R.out
            have HG4 := hid (grownBy_trans HG.out (grown_of_belowA HB4.out))
            have HG4r := hid (grownBy_trans HGR.out (grown_of_belowA HB4.out))
            clear hbi
            cases b9 with
            | true =>
              have HNG := hid (show ¬ GdT rk ok PL ws from fun hg => by
                obtain ⟨i, hi, hs, e⟩ := HBI.out.1 rfl
                have h3 := hg.inj i k hi hlt (by show lsT PL i < _; rw [HLE.out]; unfold SetK at hs; omega) (by show lsT PL k < _; rw [HXM.out, HLE.out]; omega) (by rw [e, HT.out, HR.out])
                rw [h3] at hs
                exact SetK_not HXM.out hs)
              go_wp2_with fail
              go_ret
              exact ⟨false, rfl, ⟨fun h => (by cases h), fun _ => HNG.out, ⟨SetK PL m k, fun i _ h => .inl h, fun h => (by cases h), HGK.out, HM4.out⟩, HG4.out⟩⟩
            | false =>
              obtain ⟨D4, hO4, hH4⟩ := HM4.out
              have HO4 := hid hO4
              have HH4 := hid hH4
              have HNO := hid (show ¬ ∃ i, i < PL.length ∧ SetK PL m k i ∧ rkT rk PL ws i = r from fun h => by have := HBI.out.2 h; cases this)
              clear hO4 hH4
              have hk9 : k < 1000 := by omega
              have HKW := hid (show (Lit.int .i64 (k : Int)).wf = true from WalkArith.wf_i64 (by omega))
              have HKEY := hid (keyOf_int_mk (q := .i64) (a := r) Try.underlying3 HRW.out)
              have HKT := hid (show kI (rkT rk PL ws k) = Lit.int .i64 r by rw [HT.out, ← HR.out]; rfl)
              have HNH := hid (show Maps.has D4 (kI (rkT rk PL ws k)) = false by
                cases hh : Maps.has D4 (kI (rkT rk PL ws k)) with
                | false => rfl
                | true =>
                  obtain ⟨i, hi, hs, e⟩ := (HH4.out.key _).1 hh
                  exact absurd ⟨i, hi, hs, by rw [HKT.out] at e; unfold kI at e; injection e with _ e2; exact e2.symm⟩ HNO.out)
              have HGN := hid (show Gd rk ok PL ws (SetK PL m (k + 1)) from ⟨fun i hi hs => by
                  rcases (SetK_new HXM.out).1 hs with h2 | rfl
                  · exact HGK.out.yes i hi h2
                  · rw [HGDT.out]; exact hok, fun i j hi hj hsi hsj e => by
                  rcases (SetK_new HXM.out).1 hsi with h2 | rfl
                  · rcases (SetK_new HXM.out).1 hsj with h3 | rfl
                    · exact HGK.out.inj i j hi hj h2 h3 e
                    · exact absurd ⟨i, hi, h2, by rw [e, HT.out, ← HR.out]⟩ HNO.out
                  · rcases (SetK_new HXM.out).1 hsj with h3 | rfl
                    · exact absurd ⟨j, hj, h3, by rw [← e, HT.out, ← HR.out]⟩ HNO.out
                    · rfl⟩)
              go_wp2_with (first
                | (at_mapUpdate; refine wpList_mapUpdate_own _ rfl _ _ _ 78 rfl 3 3 Try.keyInt9 Try.underlying78 (plainElem (H := Unit) Try.prog 3) mb PL.length _ rfl HO4.out (by unfold maxLen; omega) _ _ _ rfl rfl HKEY.out _ [] (plainElem_int Try.underlying3 HKW.out) ?_; intro w5 hown5 hgrow5; have HO5 := hid (MapI.of (N := PL.length) hown5 (by rw [← HKT.out]; exact HH4.out.put HO4.out.isMap hlt HNH.out (fun i _ => SetK_new HXM.out))); have HG5 := hid (grownBy_trans HG4r.out hgrow5); clear hown5 hgrow5)
                | fail)
              go_roundw
              case rel => exact ⟨k + 1, by go_num, hlt, HGN.out, HO5.out, HG5.out⟩
              case measure => simp [intOf]; omega
    · obtain rfl : k = PL.length := by omega
      have HGT := hid (show GdT rk ok PL ws from ⟨fun i hi hs => HGK.out.yes i hi ((SetK_all hi).2 (by rw [← HLE.out]; exact hs)), fun i j hi hj hsi hsj e => HGK.out.inj i j hi hj ((SetK_all hi).2 (by rw [← HLE.out]; exact hsi)) ((SetK_all hj).2 (by rw [← HLE.out]; exact hsj)) e⟩)
      clear hgk hmap hgr
      go_wp2_with fail
      go_ret
      exact ⟨true, rfl, ⟨fun _ => HGT.out, fun h => (by cases h), ⟨SetK PL m PL.length, fun i _ h => .inl h, fun _ i hi => (by rw [SetK_all hi, HLE.out]), HGK.out, HMP.out⟩, HG.out⟩⟩
end Go.Proofs.Yteimfdpkodcfbaa
