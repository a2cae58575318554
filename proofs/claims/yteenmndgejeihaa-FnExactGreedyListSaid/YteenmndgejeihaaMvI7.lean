/- Contract: impl.FollowMoves. Conditions: the slices read as a list of moves and as a list. -/
import Derived.Test.YteenmndgejeihaaMvI5
import Derived.Test.YteenmndgejeihaaBs4
namespace Go.Proofs.Yteenmndgejeihaa
open Go.RowKit
set_option linter.unusedVariables false
set_option maxRecDepth 30000

theorem ListsA_nil (w : World) (base : Nat) : ListsA w base (.slice none 0 0) [] := ⟨[], rfl, World.ownsRow_nil _ _ _ _, fun i h => absurd h (by simp), fun i j h => absurd h (by simp)⟩
theorem foL_at {x : List Int} {ms : List Mv} {st : List Int} {j i : Nat} (h : i < (foL x ms st j).length) : (foL x ms st j)[i] = foN x ms st i := by simp [foL]
theorem foN_PN {n : Nat} {ms : List Mv} {st : List Int} (hg : ∀ t, t < ms.length → mvAt n ms t = true) (hs : ∀ t, t < st.length → 0 ≤ st.getD t 0 ∧ st.getD t 0 < ms.length) : ∀ j, j ≤ st.length → PN n (foN (upTo n) ms st j)
  | 0, _ => PN_upTo n
  | j + 1, h => by
    have ih := foN_PN hg hs j (by omega)
    have hj := hs j (by omega)
    exact mvM_PN ih (hg (st.getD j 0).toNat (by omega))
theorem Own.sliceF {w : World} {B : Nat} {v : Value} {xs : List Int} (h : Own w B v xs) : ∃ ao c, v = .slice ao xs.length c := by
  rcases h.form with ⟨rfl, rfl⟩ | ⟨g, cap, rfl, _⟩
  · exact ⟨none, 0, rfl⟩
  · exact ⟨_, _, rfl⟩
theorem cell_set_ne {w : World} {a b : Addr} {v x : Value} (h : w.cell? a = some x) (hne : a ≠ b) : (w.setCell b v).cell? a = some x := (World.cell?_setCell_other _ _ _ _ (Ne.symm hne)).trans h
theorem preLen_fmRes (n : Int) (ms : List Mv) (st : List Int) : preLen (fmRes n ms st) (fmRes n ms st).length ≤ 100000 := by
  cases h : fmB n ms st with
  | false => rw [fmRes, h, if_neg (by simp)]; exact Nat.zero_le _
  | true =>
    rw [fmRes, h, if_pos rfl]
    rw [fmB, Bool.and_eq_true, Bool.and_eq_true, decide_eq_true_eq] at h
    have hp := tk_parts h.1
    have h1 := preLen_le (L := foL (upTo n.toNat) ms st st.length) (c := 5) (fun l hl => by
      obtain ⟨i, hi, rfl⟩ := List.mem_iff_getElem.1 hl
      rw [foL_at, foN_len, upTo_length]
      omega) (foL (upTo n.toNat) ms st st.length).length
    rw [foL_len] at h1 ⊢
    omega
set_option maxHeartbeats 2000000 in
theorem impl_FollowMoves_any (n : Int) (v u : Value) (ms : List Mv) (st : List Int) (w : World) (hm : ReadsM w v ms) (h : Sits w u st) :
    Calls Try.prog 50 #[.int .i64 n, v, u] w fun e w' => ∃ r, e = .returned (.tuple #[r, .bool (fmB n ms st)]) ∧ ListsA w' w.heap.size r (fmRes n ms st) ∧ Below w.heap.size w w' := by
  have HRM := hid hm
  have HS := hid h
  obtain ⟨ao, cm, rfl, hcm, hcmm, hmd⟩ := hm
  unfold maxLen at hcmm
  obtain ⟨bs, os, cs, rfl, hcs1, hcsm, hbs, hcell⟩ := h
  have HC := hid hcell
  clear hmd hcell
  cases ht : tkB n ms with
  | false =>
    have HT := hid ht
    have HB := hid (show fmB n ms st = false by rw [fmB, ht]; rfl)
    have HR := hid (show fmRes n ms st = [] by rw [fmRes, HB.out, if_neg (by simp)])
    clear ht
    go_enter Try.func50, Try.ntmps50
    go_wp2_with (first | (go_at_call 91; refine (moversOf_any n _ ms _ HRM.out).mono ?_; rintro e w1 ⟨u1, rfl, _, hb1⟩; rw [HT.out]; have HB1 := hid hb1; clear hb1) | fail)
    go_ret2
    exact ⟨_, ret_sbA HB.out.symm, by rw [HR.out]; exact ListsA_nil _ _, HB1.out⟩
  | true =>
    have HT := hid ht
    obtain ⟨h1, h5, h12, hg⟩ := tk_parts ht
    obtain ⟨N, rfl⟩ : ∃ N : Nat, n = (N : Int) := ⟨n.toNat, by omega⟩
    have HG := hid hg
    clear hg ht
    by_cases hlen : 1100 ≤ st.length
    · have HB := hid (show fmB N ms st = false by rw [fmB, HT.out, decide_eq_false (by omega)]; rfl)
      have HR := hid (show fmRes N ms st = [] by rw [fmRes, HB.out, if_neg (by simp)])
      have hl2 : (1100 : Int) ≤ (st.length : Int) := by omega
      go_enter Try.func50, Try.ntmps50
      go_wp2_with (first | (go_at_call 91; refine (moversOf_any _ _ ms _ HRM.out).mono ?_; rintro e w1 ⟨u1, rfl, _, hb1⟩; rw [HT.out]; have HB1 := hid hb1; clear hb1) | fail)
      go_ret2
      exact ⟨_, ret_sbA HB.out.symm, by rw [HR.out]; exact ListsA_nil _ _, HB1.out⟩
    · have hl2 : ¬ (1100 : Int) ≤ (st.length : Int) := by omega
      cases hf : fmS ms st with
      | false =>
        have HF := hid (show belowB st ms.length = false from hf)
        have HB := hid (show fmB N ms st = false by rw [fmB, hf, Bool.and_false, Bool.and_false])
        have HR := hid (show fmRes N ms st = [] by rw [fmRes, HB.out, if_neg (by simp)])
        clear hf
        go_enter Try.func50, Try.ntmps50
        go_wp2_with (first
          | (go_at_call 91; refine (moversOf_any _ _ ms _ HRM.out).mono ?_; rintro e w1 ⟨u1, rfl, _, hb1⟩; rw [HT.out]; have HS1 := hid (HS.out.below hb1); have HB1 := hid hb1; clear hb1)
          | (go_at_call 98; refine (areBelow_any _ st _ _ HS1.out.reads).mono ?_; rintro e w2 ⟨rfl, rfl⟩; rw [HF.out])
          | fail)
        go_ret2
        exact ⟨_, ret_sbA HB.out.symm, by rw [HR.out]; exact ListsA_nil _ _, HB1.out⟩
      | true =>
        have HF := hid (show belowB st ms.length = true from hf)
        have HFB := hid (show fmB N ms st = true by rw [fmB, HT.out, decide_eq_true (by omega), hf]; rfl)
        have HR := hid (show fmRes N ms st = foL (upTo N) ms st st.length by rw [fmRes, HFB.out, if_pos rfl]; rfl)
        have HU := hid (upTo_length N)
        have HST := hid (show ∀ t, t < st.length → 0 ≤ st.getD t 0 ∧ st.getD t 0 < ms.length from fun t ht => by
          have := (allTo_iff _ _).1 hf t ht
          rw [inB_iff] at this
          omega)
        obtain ⟨K, hK⟩ : ∃ K, K = st.length + 1 := ⟨_, rfl⟩
        have HK := hid hK
        obtain ⟨M, hM⟩ : ∃ M, M = foL (upTo N) ms st st.length := ⟨_, rfl⟩
        have HM := hid hM
        have HML := hid (show M.length = K by rw [hM, foL_len, hK])
        have HLM := hid (show K ≤ maxLen by unfold maxLen; omega)
        have HPN := hid (foN_PN HG.out HST.out)
        rw [← hM] at HR
        have hw1 : IntKind.i64.wrap ((st.length : Int) + 1) = (K : Int) := by rw [show (st.length : Int) + 1 = (K : Int) by omega]; exact IntWalk.i64_in _ (by omega)
        have hK2 : K ≤ 1101 := by omega
        have hd2 : decide ((1100 : Int) ≤ (st.length : Int)) = false := decide_eq_false hl2
        have hK0 : (0 : Int) < (K : Int) := by omega
        clear hf hM hK
        go_enter Try.func50, Try.ntmps50
        go_wp2_with fail
        refine (moversOf_any _ _ ms _ HRM.out).mono ?_
        rintro e w1 ⟨u1, rfl, hmv, hb1⟩
        obtain ⟨gm, rfl, hrm, hgm⟩ := hmv HT.out
        rw [HT.out]
        have HRM1 := hid hrm
        have HS1 := hid (HS.out.below hb1)
        have HB1 := hid hb1
        have hgm1 := World.rowIs.lt hrm
        have hs1 := hb1.size
        clear hmv hrm hb1
        have hmk := run_make_intss K (by omega) w1
        have HR0 := hid (World.rowIs_made w1 (.slice none 0 0) K 22)
        have HB0 := hid (Below_chain HB1.out ((Below.refl _ _).alloc (Nat.le_refl _) (.cells (madeCells #[.slice none 0 0] K) 22)))
        have HRM2 := hid (World.rowIs.alloc HRM1.out (.cells (madeCells #[.slice none 0 0] K) 22))
        have hS0 : w1.heap.size < (w1.alloc (.cells (madeCells #[.slice none 0 0] K) 22)).heap.size := by simp
        obtain ⟨wm, hwm⟩ : ∃ wm, wm = w1.alloc (.cells (madeCells #[.slice none 0 0] K) 22) := ⟨_, rfl⟩
        rw [← hwm] at hmk HR0 HB0 HRM2 hS0
        clear hwm
        go_wp2_with (first
          | (go_at_call 98; refine (areBelow_any _ st _ _ HS1.out.reads).mono ?_; rintro e w2 ⟨rfl, rfl⟩; rw [HF.out])
          | fail)
        refine (firstNumbers_any N _ (by omega)).mono ?_
        rintro e w3 ⟨rfl, ho3, hb3⟩
        have HB3 := hid hb3
        have HR3 := hid (rowIs_below HR0.out hb3 hS0)
        have HRM3 := hid (RowMv.below HRM2.out hb3)
        have hcz := HR3.out.cell (i := 0) (by omega)
        have hfz := HR3.out.frozen 0
        have hs3 := hb3.size
        have HO3 := hid (ho3.mono (show w1.heap.size + 1 ≤ wm.heap.size by omega))
        clear ho3 hb3
        go_wp2_with fail
        have HG3 := hid (grownBy_setCellAt w3 w1.heap.size 0 (.slice (some ⟨wm.heap.size, 0, none⟩) N N))
        have HR4 := hid (HR3.out.set 0 (.slice (some ⟨wm.heap.size, 0, none⟩) N N))
        have HRM4 := hid (World.rowIs.of_block HRM3.out (HG3.out.block gm (World.rowIs.lt HRM3.out) (by simp only [ne_eq, Option.some.injEq]; omega)))
        have HM0 := hid (show M[0]'(by rw [HML.out]; omega) = upTo N by have := HM.out; subst this; rw [foL_at]; rfl)
        have HF4 := hid (Filled.step (w0 := wm) (g := w1.heap.size) (U := fun _ => .slice none 0 0) (u := .slice (some ⟨wm.heap.size, 0, none⟩) N N) (k := 0) (Filled.zero _ _ _ _) (Filled.zero _ _ _ _) (by rw [HML.out]; omega)
          (by rw [HM0.out]; exact HO3.out.kept HG3.out (.inr (by simp only [Value.ownBlock, ne_eq, Option.some.injEq]; omega))) (fun q hq => by simp only [Value.ownBlock, Option.some.injEq] at hq; omega))
        have HB4 := hid ((Below_chain HB0.out HB3.out).setCell (p := ⟨w1.heap.size, 0, none⟩) hs1 (.slice (some ⟨wm.heap.size, 0, none⟩) N N))
        obtain ⟨w4, hw4⟩ : ∃ w4, w4 = w3.setCell ⟨w1.heap.size, 0, none⟩ (.slice (some ⟨wm.heap.size, 0, none⟩) N N) := ⟨_, rfl⟩
        rw [← hw4] at HR4 HRM4 HF4 HB4 ⊢
        have hs4 : w1.heap.size < w4.heap.size := World.rowIs.lt HR4.out
        clear hw4 hcz hfz
        go_loopw [43] (fun i wr => ∃ k : Nat, k ≤ st.length ∧ i = .int .i64 k ∧ (∃ U : Nat → Value, wr.rowIs w1.heap.size 22 K U ∧ Filled wr w1.heap.size U M (k + 1)) ∧ RowMv wr gm ms ∧ Below w.heap.size w wr) (fun i _ => st.length - (intOf i).toNat)
        case atStart => exact ⟨0, Nat.zero_le _, rfl, ⟨_, HR4.out, HF4.out⟩, HRM4.out, HB4.out⟩
        case round =>
          obtain ⟨k, hk, rfl, ⟨U, hrow, hfil⟩, hrmv, hbel⟩ := hrel
          have HROW := hid hrow
          have HFIL := hid hfil
          have HRMV := hid hrmv
          have HB := hid hbel
          have hszr := World.rowIs.lt hrow
          by_cases hlt : k < st.length
          · have hcs := (hbel.cell (p := ⟨bs, os + k, none⟩) (by exact hbs)).trans (HC.out k hlt)
            have hst := HST.out k hlt
            have hKK := HK.out
            have hs41 : w.heap.size ≤ w1.heap.size := by omega
            obtain ⟨s, hs⟩ : ∃ s : Nat, st.getD k 0 = s := ⟨(st.getD k 0).toNat, by omega⟩
            have hse : st[k] = (s : Int) := by rw [← hs, getD_at hlt]
            rw [hse] at hcs
            have hsl : s < ms.length := by omega
            obtain ⟨T, X, hV⟩ := mvV_iface (mGet ms s)
            have hcm2 : wr.cell? ⟨gm, s, none⟩ = some (.iface T X) := by rw [← hV]; exact hrmv.cell hsl
            have hkM : k < M.length := by rw [HML.out]; omega
            have hown := hfil.own k hkM (by omega)
            obtain ⟨l, hl⟩ : ∃ l, l = foN (upTo N) ms st k := ⟨_, rfl⟩
            have hMk : M[k] = l := by have := HM.out; subst this; rw [foL_at, hl]
            rw [hMk] at hown
            have hP : PN N l := by rw [hl]; exact HPN.out k (by omega)
            have hlN := hP.len
            have hMk1 : ∀ h : k + 1 < M.length, M[k + 1] = mvM (mGet ms s) l := fun h => by have := HM.out; subst this; rw [foL_at, foN, hs, Int.toNat_natCast, hl]
            obtain ⟨az, cz, hze⟩ := hown.sliceF
            have hcl : wr.cell? ⟨w1.heap.size, k, none⟩ = some (.slice az l.length cz) := by rw [← hze]; exact hrow.cell (by omega)
            obtain ⟨ga, na, ca, hze2⟩ := Own.shape hown (by omega)
            have hsit : Sits wr (U k) l := by rw [hze2] at hown ⊢; exact hown.sits
            rw [hze] at hsit
            have HSIT := hid hsit
            have HMV := hid (show mvB (l.length : Int) (mGet ms s).1 (mGet ms s).2.1 (mGet ms s).2.2 = true by rw [hlN]; exact HG.out s hsl)
            have HCON := hid (show ∀ (v : Value) (W : World), Sits W v l → Calls Try.prog 80 #[.iface T X, v] W (fun e w' => e = .returned (.slice (some ⟨W.heap.size, 0, none⟩) l.length l.length) ∧ RowL w' W.heap.size (mvM (mGet ms s) l) ∧ Below W.heap.size W w') from fun v W h => by
              rw [← hV]
              exact movedBy_any (mGet ms s) v l W h (by omega) HMV.out)
            have q1 : (0 : Int) ≤ (s : Int) := by omega
            have q2 : (s : Int) < (ms.length : Int) := by omega
            have q3 : (0 : Int) ≤ (k : Int) := by omega
            have q4 : (k : Int) < (K : Int) := by omega
            have q5 : (k : Int) + 1 < (K : Int) := by omega
            have q6 : (0 : Int) ≤ (k : Int) + 1 := by omega
            have hwk : IntKind.i64.wrap ((k : Int) + 1) = (k : Int) + 1 := IntWalk.i64_in _ (by omega)
            have HL := hid hlN
            have HMK1 := hid hMk1
            clear hKK hst hs hse hV hkM hown hl hMk hP hlN hMk1 hze hze2 hsit hrow hfil hrmv hbel
            go_wp2_with fail
            go_region_held3 (fun w' => w'.cell? ⟨gm, s, none⟩ = some (.iface T X) ∧ w'.cell? ⟨w1.heap.size, k, none⟩ = some (.slice az l.length cz))
              (first | exact ⟨hcm2, hcl⟩ | exact ⟨cell_below2 hcm2 HB5.out, cell_below2 hcl HB5.out⟩ | exact ⟨cell_set_ne (cell_below2 hcm2 HB5.out) (fun e => by simp only [Addr.mk.injEq] at e; omega), cell_set_ne (cell_below2 hcl HB5.out) (fun e => by simp only [Addr.mk.injEq] at e; omega)⟩ | go_keep | fail)
              (first
                | (go_at_call 80; refine (HCON.out _ _ (HSIT.out.below (Below.drew (Below.refl _ _)))).mono ?_; rintro e w5 ⟨rfl, hr5, hb5⟩; have HR5 := hid hr5; have HB5 := hid ((Below.refl _ _).drew.trans hb5 : Below wr.heap.size wr w5); have HROW5 := hid (rowIs_below HROW.out HB5.out hszr); have hcz := HROW5.out.cell (i := k + 1) (by omega); have hfz := HROW5.out.frozen (k + 1); obtain ⟨zz, hzz⟩ : ∃ zz, w5.cell? ⟨w1.heap.size, k + 1, none⟩ = some zz := ⟨_, hcz⟩; clear hr5 hb5 hcz)
                | fail)
            have hsz5 := HB5.out.size
            have hdr : wr.drew.heap.size = wr.heap.size := rfl
            have HG := hid (grownBy_setCellAt w5 w1.heap.size (k + 1) (.slice (some ⟨wr.heap.size, 0, none⟩) l.length l.length))
            have HR6 := hid (HROW5.out.set (k + 1) (.slice (some ⟨wr.heap.size, 0, none⟩) l.length l.length))
            have HRM6 := hid (World.rowIs.of_block (RowMv.below HRMV.out HB5.out) (HG.out.block gm (by omega) (by simp only [ne_eq, Option.some.injEq]; omega)))
            have hl100 : l.length ≤ 1048576 := by have := HL.out; omega
            have HO6 := hid (((RowL.own HR5.out (mvM_len _ _) hl100).mono (show w1.heap.size + 1 ≤ wr.heap.size by omega)).kept HG.out (.inr (by simp only [Value.ownBlock, ne_eq, Option.some.injEq]; omega)))
            have hkM : k + 1 < M.length := by have := HK.out; have := HML.out; omega
            have HF6 := hid (Filled.step (u := .slice (some ⟨wr.heap.size, 0, none⟩) l.length l.length) HFIL.out ((HFIL.out.below HB5.out).kept HG.out) hkM (by rw [HMK1.out hkM]; exact HO6.out) (fun q hq => by simp only [Value.ownBlock, Option.some.injEq] at hq; omega))
            have HB6 := hid ((Below_chain HB.out HB5.out).setCell (p := ⟨w1.heap.size, k + 1, none⟩) (by show w.heap.size ≤ w1.heap.size; omega) (.slice (some ⟨wr.heap.size, 0, none⟩) l.length l.length))
            clear hkM hfz hzz hdr
            go_wp2_with fail
            go_roundw
            case rel => exact ⟨k + 1, by omega, by go_num, ⟨_, HR6.out, HF6.out⟩, HRM6.out, HB6.out⟩
            case measure => simp [intOf]; omega
          · obtain rfl : k = st.length := by omega
            clear hrow hfil hrmv hbel
            go_wp2_with fail
            go_ret2
            exact ⟨_, ret_sbA HFB.out.symm, by rw [HR.out]; exact (Filled.listsU (n := K) (HK.out ▸ HFIL.out) HROW.out HML.out HLM.out).listsA.mono (by omega), HB.out⟩
end Go.Proofs.Yteenmndgejeihaa
