/- Contracts: suTied. Conditions: a row of n * n bools, n from 2 to 11. -/
import Derived.Test.YteimfdpkodcfbaaPcyM
import Derived.Test.YteimfdpkodcfbaaPair3
namespace Go.Proofs.Yteimfdpkodcfbaa
open Go.RowKit
set_option linter.unusedVariables false
set_option maxRecDepth 4000

/-- numbers below n, each once -/
structure RcT (n : Nat) (R : List Int) : Prop where
  nod : R.Nodup
  rng : ∀ y ∈ R, 0 ≤ y ∧ y < (n : Int)
theorem nodup_leT (es : List Int) : ∀ (Q : List Int), es.Nodup → (∀ x ∈ es, x ∈ Q) → es.length ≤ Q.length := by
  induction es with
  | nil => intro Q _ _; simp
  | cons x es ih =>
    intro Q hn hs
    have hx : x ∈ Q := hs x (by simp)
    have hn' := List.nodup_cons.1 hn
    have h := ih (Q.erase x) hn'.2 (fun y hy => (List.mem_erase_of_ne (fun e => hn'.1 (by rw [← e]; exact hy))).2 (hs y (by simp [hy])))
    have h2 := List.length_erase_of_mem hx
    have h3 : 0 < Q.length := List.length_pos_of_mem hx
    simp only [List.length_cons]
    omega
theorem RcT.len {n : Nat} {R : List Int} (h : RcT n R) : R.length ≤ n := by
  have := nodup_leT R (upTo n) h.nod (fun y hy => by
    have := h.rng y hy
    exact List.mem_map.2 ⟨y.toNat, List.mem_range.2 (by omega), by omega⟩)
  rwa [upTo_len9] at this
theorem RcT.push {n y : Nat} {R : List Int} (h : RcT n R) (hy : y < n) (hh : hasB R (y : Int) = false) : RcT n (R ++ [(y : Int)]) := by
  have hnm : (y : Int) ∉ R := fun hm => by
    have : hasB R (y : Int) = true := by unfold hasB; simpa using hm
    rw [hh] at this; cases this
  refine ⟨?_, fun z hz => ?_⟩
  · rw [List.nodup_append]
    refine ⟨h.nod, by simp, fun a ha b hb => ?_⟩
    simp at hb
    rintro rfl
    rw [hb] at ha
    exact hnm ha
  · rw [List.mem_append] at hz
    rcases hz with hz | hz
    · exact h.rng z hz
    · simp at hz; omega
theorem tie_idx {n r y : Nat} (hr : r < n) (hy : y < n) : r * n + y < n * n := by
  have := Nat.mul_le_mul_right n (show r + 1 ≤ n by omega)
  rw [Nat.succ_mul] at this
  omega
theorem stT_yes {n r y : Nat} {L : List Bool} {R : List Int} (h : L.getD (r * n + y) false = true) (h2 : hasB R (y : Int) = false) : stT n L r y R = R ++ [(y : Int)] := by unfold stT; rw [h, h2]; rfl
theorem stT_no {n r y : Nat} {L : List Bool} {R : List Int} (h : L.getD (r * n + y) false = false) : stT n L r y R = R := by unfold stT; rw [h]; rfl
theorem stT_has {n r y : Nat} {L : List Bool} {R : List Int} (h2 : hasB R (y : Int) = true) : stT n L r y R = R := by unfold stT; rw [h2]; simp
set_option maxHeartbeats 2000000 in
theorem suTied_any (n P g x : Nat) (L : List Bool) (w : World) (hn : n ≤ 11) (hP : P = n * n) (hx : x < n) (hrow : w.rowIs g 4 P (fun t => .bool (L.getD t false))) :
    Calls Try.prog 139 #[.int .i64 (n : Int), .slice (some ⟨g, 0, none⟩) P P, .int .i64 (x : Int)] w fun e w' => e = .returned (.bool (tiT n L x)) ∧ Below w.heap.size w w' := by
  have HROW := hid hrow
  have hglt := hrow.lt
  have hP121 : P ≤ 121 := by rw [hP]; exact Nat.mul_le_mul hn hn
  have HPP := hid hP
  obtain ⟨i0, hi, hz0, hz1, hz2⟩ := info_parts Try.info3
  have HO1 := hid (Own.lit1 w (x : Int))
  have HB1 := hid ((Below.refl w.heap.size w).alloc (Nat.le_refl _) (.cells #[.int .i64 (x : Int)] 3))
  obtain ⟨RES, hRES⟩ : ∃ RES, RES = reT n L x := ⟨_, rfl⟩
  have HRS := hid (show RES = bfT n L n 0 [(x : Int)] from hRES)
  have HTI := hid (show tiT n L x = allTo P (fun i => !(L.getD i false) || hasB RES ((i / n : Nat) : Int)) by rw [hP, hRES]; rfl)
  have HRC := hid (show RcT n [(x : Int)] from ⟨by simp, fun y hy => by simp at hy; omega⟩)
  clear hrow hP hRES
  go_enter Try.func139, Try.ntmps139
  go_wp2_with fail
  go_loopw [7, 8] (fun vp i wr => ∃ (k f : Nat) (R : List Int), i = .int .i64 (k : Int) ∧ f + k = n ∧ Own wr w.heap.size vp R ∧ RES = bfT n L f k R ∧ RcT n R ∧ Below w.heap.size w wr) (fun _ i _ => n - (intOf i).toNat)
  case atStart => exact ⟨0, n, [(x : Int)], rfl, rfl, HO1.out, HRS.out, HRC.out, HB1.out⟩
  case round =>
    obtain ⟨k, f, R, rfl, hfk, hown, hres, hrc, hbel⟩ := hrel
    have HO := hid hown
    have HB := hid hbel
    have HRES := hid hres
    have HRC2 := hid hrc
    have hRl := hrc.len
    obtain ⟨ao, cc, rfl, hc1, hcc⟩ := hown.shp9
    obtain ⟨m, hm⟩ : ∃ m, m = R.length := ⟨_, rfl⟩
    have HM := hid hm
    rw [← hm] at HO hc1 hRl ⊢
    clear hown hres hrc hbel hm
    by_cases hlt : k < m
    · obtain ⟨r, hr⟩ : ∃ r : Nat, R.getD k 0 = (r : Int) := ⟨(R.getD k 0).toNat, by
        have := HRC2.out.rng (R.getD k 0) (by rw [getD_at (by have := HM.out; omega)]; exact List.getElem_mem _)
        omega⟩
      have hrn : r < n := by
        have := HRC2.out.rng (R.getD k 0) (by rw [getD_at (by have := HM.out; omega)]; exact List.getElem_mem _)
        omega
      obtain ⟨f', hf'⟩ : ∃ f', f = f' + 1 := ⟨f - 1, by omega⟩
      have HFF := hid (show f' + (k + 1) = n by omega)
      have HRES2 := hid (show RES = bfT n L f' (k + 1) (inT n L r n 0 R) by
        rw [HRES.out, hf', bfT, if_pos (by rw [← HM.out]; exact hlt), hr, Int.toNat_natCast])
      obtain ⟨wo, rfl⟩ : ∃ wo : World, wo = wr := ⟨_, rfl⟩
      obtain ⟨rn, hrn2⟩ : ∃ rn, rn = r * n := ⟨_, rfl⟩
      have hrni : (r : Int) * (n : Int) = (rn : Int) := by rw [hrn2, Int.natCast_mul]
      have hrn3 : rn ≤ 121 := by rw [hrn2]; exact Nat.mul_le_mul (show r ≤ 11 by omega) hn
      have HRN := hid hrn2
      have HRK := hid hr
      clear hr hf' hrn2
      go_wp2_with fail
      go_loopw [7, 9] (fun vp i wr => ∃ (y d m2 : Nat) (R2 : List Int), i = .int .i64 (y : Int) ∧ y + d = n ∧ Own wr w.heap.size vp R2 ∧ inT n L r n 0 R = inT n L r d y R2 ∧ RcT n R2 ∧ m2 = R2.length ∧ k < m2 ∧ R2.getD k 0 = (r : Int) ∧ Below w.heap.size w wr) (fun _ i _ => n - (intOf i).toNat)
      case atStart => exact ⟨0, n, m, R, rfl, by omega, HO.out, rfl, HRC2.out, HM.out, hlt, HRK.out, HB.out⟩
      case round =>
        obtain ⟨y, d, m2, R2, rfl, hyd, hown, hin, hrc, hm2, hkm, hrk, hbel⟩ := hrel
        have HO3 := hid hown
        have HB3 := hid hbel
        have HIN := hid hin
        have HRC3 := hid hrc
        have HM3 := hid hm2
        have hRl3 := hrc.len
        obtain ⟨ao3, cc3, rfl, hc3, hcc3⟩ := hown.shp9
        rw [← hm2] at HO3 hc3 hRl3 ⊢
        have hO4 := HO3.out
        obtain ⟨g3, n3, c3, e3⟩ := Own.shape hO4 (by rw [← hm2]; omega)
        simp only [Value.slice.injEq] at e3
        obtain ⟨rfl, rfl, rfl⟩ := e3
        obtain ⟨p0, p1, p2, p3, p4, p5, p6⟩ := Own_cells hO4
        have hck : wr.cell? ⟨g3, k, none⟩ = some (.int .i64 (r : Int)) := by rw [p5 k (by rw [← hm2]; exact hkm), ← getD_at, hrk]
        have HRK3 := hid hrk
        clear hown hbel hin hrc hm2 hO4 p0 p1 p2 p4 p5 p6 hrk
        by_cases hyn : y < n
        · obtain ⟨d', hd'⟩ : ∃ d', d = d' + 1 := ⟨d - 1, by omega⟩
          have HDD := hid (show (y + 1) + d' = n by omega)
          have HIN2 := hid (show inT n L r n 0 R = inT n L r d' (y + 1) (stT n L r y R2) by rw [HIN.out, hd', inT])
          obtain ⟨ix, hix⟩ : ∃ ix, ix = rn + y := ⟨_, rfl⟩
          have hixi : (rn : Int) + (y : Int) = (ix : Int) := by omega
          have hixP : ix < P := by rw [HPP.out, hix, HRN.out]; exact tie_idx hrn hyn
          have HIX := hid (show ix = r * n + y by rw [hix, HRN.out])
          have hcl := (HB3.out.cell (p := ⟨g, ix, none⟩) (by exact hglt)).trans (HROW.out.cell hixP)
          have hRd := HO3.out.reads
          have HRD := hid hRd
          clear hd' hix hRd
          cases hbl : L.getD ix false with
          | false =>
            rw [hbl] at hcl
            have HST := hid (show stT n L r y R2 = R2 from stT_no (by rw [← HIX.out]; exact hbl))
            go_wp2_with fail
            go_roundw
            case rel => exact ⟨y + 1, d', m2, R2, by go_num, HDD.out, HO3.out, by rw [HIN2.out, HST.out], HRC3.out, HM3.out, hkm, HRK3.out, HB3.out⟩
            case measure => simp [intOf]; omega
          | true =>
            rw [hbl] at hcl
            cases hhb : hasB R2 (y : Int) with
            | true =>
              have HST := hid (show stT n L r y R2 = R2 from stT_has hhb)
              go_wp2_with (first
                | (go_at_call 123; (refine (l1Has_any _ R2 _ _ HRD.out).mono ?_); (rintro e w' ⟨rfl, rfl⟩); (rw [hhb]))
                | fail)
              go_roundw
              case rel => exact ⟨y + 1, d', m2, R2, by go_num, HDD.out, HO3.out, by rw [HIN2.out, HST.out], HRC3.out, HM3.out, hkm, HRK3.out, HB3.out⟩
              case measure => simp [intOf]; omega
            | false =>
              have HST := hid (show stT n L r y R2 = R2 ++ [(y : Int)] from stT_yes (by rw [← HIX.out]; exact hbl) hhb)
              have HRC4 := hid (HRC3.out.push hyn hhb)
              have hm6 : m2 ≤ 1048576 := by omega
              go_wp2_with (first
                | (go_at_call 123; (refine (l1Has_any _ R2 _ _ HRD.out).mono ?_); (rintro e w' ⟨rfl, rfl⟩); (rw [hhb]))
                | (at_builtin; (refine wpList_push _ rfl _ _ 22 rfl w.heap.size i0 Try.underlying22 hi hz0 hz1 hz2 (some ⟨g3, 0, none⟩) m2 cc3 R2 rfl HO3.out (y : Int) wr.heap.size rfl rfl hm6 HB3.out.size ?_); (intro g5 c5 w5 hp5); (have HO5 := hid hp5.own); (have HB5 := hid (hp5.below w rfl HB3.out)); (clear hp5))
                | fail)
              go_roundw
              case rel => exact ⟨y + 1, d', m2 + 1, R2 ++ [(y : Int)], by go_num, HDD.out, HO5.out, by rw [HIN2.out, HST.out], HRC4.out, by rw [List.length_append, ← HM3.out]; rfl, by omega, by
                rw [List.getD_eq_getElem?_getD, List.getElem?_append_left (by rw [← HM3.out]; exact hkm), ← List.getD_eq_getElem?_getD]; exact HRK3.out, HB5.out⟩
              case measure => simp [intOf]; omega
        · have HDN := hid (show inT n L r n 0 R = R2 by rw [HIN.out, show d = 0 by omega]; rfl)
          go_wp2_with fail
          go_roundw
          case rel => exact ⟨k + 1, f', R2, by go_num, HFF.out, HO3.out, by rw [HRES2.out, HDN.out], HRC3.out, HB3.out⟩
          case measure => simp [intOf]; omega
    · have HRR := hid (show RES = R by
        rw [HRES.out]
        cases f with
        | zero => rfl
        | succ f => rw [bfT, if_neg (by rw [← HM.out]; exact hlt)])
      have hnz : ¬ (n : Int) = 0 := by omega
      have hnz2 : ((n : Int) == 0) = false := beq_eq_false_iff_ne.2 hnz
      obtain ⟨wo, rfl⟩ : ∃ wo : World, wo = wr := ⟨_, rfl⟩
      go_wp2_with fail
      go_loopw [10, 11, 48] (fun _ _ i wr => ∃ j : Nat, i = .int .i64 (j : Int) ∧ j ≤ P ∧ allTo j (fun i => !(L.getD i false) || hasB RES ((i / n : Nat) : Int)) = true ∧ wr = wo) (fun _ _ i _ => P - (intOf i).toNat)
      case atStart => exact ⟨0, rfl, Nat.zero_le _, rfl, rfl⟩
      case round =>
        obtain ⟨j, rfl, hj, hall, rfl⟩ := hrel
        have HA := hid hall
        clear hall
        by_cases hlj : j < P
        · have hcl := (HB.out.cell (p := ⟨g, j, none⟩) (by exact hglt)).trans (HROW.out.cell hlj)
          obtain ⟨q, hq⟩ : ∃ q, q = j / n := ⟨_, rfl⟩
          have hqi : (j : Int) / (n : Int) = (q : Int) := by rw [hq, Int.natCast_ediv]
          have HQ := hid hq
          have hq121 : q ≤ 121 := by rw [hq]; exact Nat.le_trans (Nat.div_le_self _ _) (by omega)
          have HRD := hid HO.out.reads
          clear hq
          cases hbl : L.getD j false with
          | false =>
            rw [hbl] at hcl
            have HOK := hid (show (!(L.getD j false) || hasB RES ((j / n : Nat) : Int)) = true by rw [hbl]; rfl)
            go_wp2_with fail
            go_roundw
            case rel => exact ⟨j + 1, by go_num, hlj, allTo_next HA.out HOK.out, trivial⟩
            case measure => simp [intOf]; omega
          | true =>
            rw [hbl] at hcl
            cases hhb : hasB R (q : Int) with
            | true =>
              have HOK := hid (show (!(L.getD j false) || hasB RES ((j / n : Nat) : Int)) = true by rw [← HQ.out, HRR.out, hhb, Bool.or_true])
              go_wp2_with (first
                | (go_at_call 123; (refine (l1Has_any _ R _ _ HRD.out).mono ?_); (rintro e w' ⟨rfl, rfl⟩); (rw [hhb]))
                | fail)
              go_roundw
              case rel => exact ⟨j + 1, by go_num, hlj, allTo_next HA.out HOK.out, trivial⟩
              case measure => simp [intOf]; omega
            | false =>
              have HF := hid (show tiT n L x = false by
                rw [HTI.out]
                refine allTo_no hlj ?_
                show (!(L.getD j false) || hasB RES ((j / n : Nat) : Int)) = false
                rw [← HQ.out, HRR.out, hhb, hbl]; rfl)
              go_wp2_with (first
                | (go_at_call 123; (refine (l1Has_any _ R _ _ HRD.out).mono ?_); (rintro e w' ⟨rfl, rfl⟩); (rw [hhb]))
                | fail)
              go_ret
              exact ⟨ret_bool HF.out.symm, HB.out⟩
        · obtain rfl : j = P := by omega
          have HF := hid (show tiT n L x = true by rw [HTI.out]; exact HA.out)
          go_wp2_with fail
          go_ret
          exact ⟨ret_bool HF.out.symm, HB.out⟩
end Go.Proofs.Yteimfdpkodcfbaa
