/- Contracts: listFrom with the closure of GreedyList, impl.GreedyList. Conditions: the slice reads as a list of moves. -/
import Derived.Test.YteenmndgejeihaaGrC
import Derived.Test.YteenmndgejeihaaOnP
namespace Go.Proofs.Yteenmndgejeihaa
open Go.RowKit
set_option linter.unusedVariables false
set_option maxRecDepth 4000

/-- where the loop stands: the lists so far, the next one, whether there is one -/
def LGr (N : Nat) (ms : List Mv) (gt F b1 B : Nat) (s7 s8 s9 : Value) (wr : World) : Prop :=
  (∃ (f : Nat) (x : List Int) (D : List (List Int)) (H g n c : Nat), s9 = .bool true ∧ s8 = .slice (some ⟨g, 0, none⟩) n c ∧ GI N (D ++ [x]) ∧ grL N ms = grRun ms f (D ++ [x]) ∧ D.length + f = 120 ∧
    Own wr B s8 x ∧ H ≤ g ∧ RowsU wr b1 B H s7 D ∧ wr.rowIs gt 4 F (metF D)) ∨ (s9 = .bool false ∧ ListsA wr B s7 (grL N ms))
/-- what stays -/
structure KGr (ms : List Mv) (gm gt F : Nat) (a b : Addr) (w wr : World) : Prop where
  ca : wr.cell? a = some (.slice (some ⟨gt, 0, none⟩) F F)
  cb : wr.cell? b = some (.slice (some ⟨gm, 0, none⟩) ms.length ms.length)
  mv : RowMv wr gm ms
  bel : Below gt w wr
  sz : w.heap.size ≤ wr.heap.size
theorem KGr.below {ms : List Mv} {gm gt F : Nat} {a b : Addr} {w wr w' : World} (h : KGr ms gm gt F a b w wr) (hb : Below wr.heap.size wr w') (hgt : gt ≤ w.heap.size) : KGr ms gm gt F a b w w' :=
  ⟨cell_below2 h.ca hb, cell_below2 h.cb hb, RowMv.below h.mv hb, h.bel.trans (hb.mono (Nat.le_trans hgt h.sz)), Nat.le_trans h.sz hb.size⟩
theorem KGr.grown {ms : List Mv} {gm gt F : Nat} {a b : Addr} {w wr w' : World} {row : Option Nat} (h : KGr ms gm gt F a b w wr) (hg : wr.grownBy w' row) (hgt : gt ≤ w.heap.size) (ha : some a.block ≠ row) (hb : some b.block ≠ row) (hm : some gm ≠ row) (hr : ∀ q, row = some q → gt ≤ q) : KGr ms gm gt F a b w w' :=
  ⟨(hg.cell_far a (World.block_lt_of_cell? _ _ h.ca) ha).trans h.ca, (hg.cell_far b (World.block_lt_of_cell? _ _ h.cb) hb).trans h.cb, World.rowIs.of_block h.mv (hg.block gm (World.rowIs.lt h.mv) hm), h.bel.grown hg (Nat.le_trans hgt h.sz) hr, Nat.le_trans h.sz hg.size⟩
set_option maxHeartbeats 2000000 in
theorem listFrom_greedy (N : Nat) (ms : List Mv) (gm gt F B gs ns cs : Nat) (a b : Addr) (w : World) (h5 : N ≤ 5) (h1 : 1 ≤ N) (hF : F = fact N) (hml : ms.length ≤ 12)
    (hg : ∀ t, t < ms.length → mvAt N ms t = true) (ha : w.cell? a = some (.slice (some ⟨gt, 0, none⟩) F F)) (hb : w.cell? b = some (.slice (some ⟨gm, 0, none⟩) ms.length ms.length))
    (hmv : RowMv w gm ms) (hmet : w.rowIs gt 4 F (metF [])) (hB : B ≤ w.heap.size) (hgtB : gt < B) (hag : a.block ≠ gt) (hbg : b.block ≠ gt) (hmg : gm ≠ gt)
    (hv : Own w B (.slice (some ⟨gs, 0, none⟩) ns cs) (upTo N)) :
    Calls Try.prog 102 #[.slice (some ⟨gs, 0, none⟩) ns cs, .int .i64 (F : Int), .func (.func 100) #[] #[.pointer (some a), .pointer (some b)]] w fun e w' => ∃ u, e = .returned u ∧ ListsA w' B u (grL N ms) ∧ Below gt w w' ∧ w'.cell? a = some (.slice (some ⟨gt, 0, none⟩) F F) := by
  obtain ⟨j0, hj, hy0, hy1, hy2⟩ := info_parts Try.infoL
  have hF120 : F ≤ 120 := by rw [hF]; exact fact_five h5
  have hab := World.block_lt_of_cell? w _ ha
  have hbb := World.block_lt_of_cell? w _ hb
  have hgmb := World.rowIs.lt hmv
  obtain ⟨wm, hrun, hown0, hgrow0⟩ := run_make_own (P := Try.prog) w w.heap.size 45 22 j0 (.slice none 0 0) 1 Try.underlying45 hj hy0 hy1 .i64 .i64 F (by rw [hy2]; omega) (by unfold maxLen; omega) (Nat.le_refl _)
  have hK0 : KGr ms gm gt F a b w w := ⟨ha, hb, hmv, Below.refl _ _, Nat.le_refl _⟩
  have HK := hid (hK0.grown hgrow0 (by omega) (by simp) (by simp) (by simp) (fun q hq => by cases hq))
  have hst : LGr N ms gt F w.heap.size B (.slice (some ⟨w.heap.size, 0, none⟩) 0 F) (.slice (some ⟨gs, 0, none⟩) ns cs) (.bool true) wm := by
    have hv' : Own wm B (.slice (some ⟨gs, 0, none⟩) ns cs) (upTo N) := Own.kept hv hgrow0 (.inr (by simp [Value.ownBlock]))
    exact .inl ⟨120, upTo N, [], 0, gs, ns, cs, rfl, rfl, GI_first N, rfl, rfl, hv', Nat.zero_le _, ⟨[], rfl, hown0, fun i h => absurd h (by simp), fun i j h => absurd h (by simp), fun i h => absurd h (by simp)⟩, World.rowIs.of_block hmet (hgrow0.block gt (by omega) (by simp))⟩
  have HST := hid hst
  have HG := hid hg
  have HFF := hid hF
  clear hst hown0 hgrow0 hv hK0 ha hb hmv hmet hg hF
  go_enter Try.func102, Try.ntmps102
  go_wp2_with fail
  clear hrun
  go_loopw [7, 8, 9] (fun s7 s8 s9 wr => LGr N ms gt F w.heap.size B s7 s8 s9 wr ∧ KGr ms gm gt F a b w wr) (fun s7 _ _ _ => 1002 - slLen2 s7)
  case atStart => exact ⟨HST.out, HK.out⟩
  case round =>
    obtain ⟨hlf, hkg⟩ := hrel
    rcases hlf with ⟨f, x, D, H, g, n, c, rfl, rfl, hgi, heq, hdf, ho, hHg, hrows, hmet⟩ | ⟨rfl, hla⟩
    · have HEQ := hid heq
      have HGI := hid hgi
      have HO := hid ho
      have HKG := hid hkg
      have HMET := hid hmet
      have HLL := hid hrows.len
      have HDF := hid hdf
      obtain ⟨vs, r1, r2, r3, r4, r5⟩ := hrows
      have HR2 := hid r2
      have HR := hid (show vs.length = D.length ∧ (∀ i (h1 : i < D.length) (h2 : i < vs.length), Own wr B vs[i] D[i]) ∧ (∀ i j (h1 : i < vs.length) (h2 : j < vs.length) (g : Nat), i ≠ j → vs[i].ownBlock = some g → vs[j].ownBlock ≠ some g) ∧ (∀ i (h1 : i < vs.length) g, vs[i].ownBlock = some g → g < H) from ⟨r1, r3, r4, r5⟩)
      have hszw := hkg.sz
      have hDl : D.length ≤ 1000 := by omega
      have hA : D.length + 1 ≤ maxLen := by unfold maxLen; omega
      have hB2 : (D.length + 1) * 24 ≤ 140737488355328 := by omega
      obtain ⟨E, hE⟩ : ∃ E, E = D ++ [x] := ⟨_, rfl⟩
      have HE := hid hE
      have hs5 : w.heap.size ≤ (wr.alloc (.cells #[.slice (some ⟨g, 0, none⟩) n c] 22)).heap.size := Nat.le_trans hszw (sz_al (Nat.le_refl _) _)
      clear ho hkg heq hgi r1 r2 r3 r4 r5 hmet hE hdf
      go_wp2_with (first
        | (at_builtin; refine wpList_append_own _ rfl _ _ 45 rfl w.heap.size 22 j0 (.slice none 0 0) 1 24 Try.underlying45 hj hy0 hy1 hy2 rfl (by decide) _ _ _ rfl (World.ownsRow.alloc HR2.out _) ⟨wr.heap.size, 0, none⟩ 1 1 [.slice (some ⟨g, 0, none⟩) n c] rfl rfl (fun j u hj => new_cellV j hj) (by intro u hu; simp at hu; subst hu; rfl) hA hB2 hs5 ?_)
        | fail)
      intro v1 w1 hown1 hgrow1 _
      have hba : Below wr.heap.size wr (wr.alloc (.cells #[.slice (some ⟨g, 0, none⟩) n c] 22)) := (Below.refl _ _).alloc (Nat.le_refl _) _
      have hlow := World.ownsRow.lt HR2.out
      have hrowne : ∀ q, q < w.heap.size → some q ≠ u7.ownBlock := fun q hq e => by have := (hlow q e.symm).1; omega
      have HK1 := hid ((HKG.out.below hba (by omega)).grown hgrow1 (by omega) (hrowne _ hab) (hrowne _ hbb) (hrowne _ hgmb) (fun q hq => by have := (hlow q hq).1; omega))
      have HMET1 := hid (World.rowIs.of_block (World.rowIs.of_block HMET.out (hba.block gt (World.rowIs.lt HMET.out))) (hgrow1.block gt (by omega) (hrowne _ (by omega))))
      have HPU := hid (show RowsU w1 w.heap.size B w1.heap.size v1 (D ++ [x]) from
        RowsU.push HR.out.1 (World.ownsRow.alloc HR2.out _) (fun i a b => (HR.out.2.1 i a b).below hba) HR.out.2.2.1 HR.out.2.2.2 (HO.out.below hba) (fun q hq => by simp only [Value.ownBlock, Option.some.injEq] at hq; omega) hown1 hgrow1)
      have HO1 := hid (Own.kept_type (HO.out.below hba) (T := 22) (by decide) (World.ownsRow.alloc HR2.out _) hgrow1)
      have hsz1 := HK1.out.sz
      rw [← HE.out] at HEQ HGI HPU
      clear hown1 hgrow1 hba hlow hrowne
      go_wp2_with (first | (go_at_call 100; refine (greedyClos_any N ms gm gt F D E x _ a b _ h5 h1 HFF.out hml HG.out HE.out HGI.out HK1.out.ca HK1.out.cb HK1.out.mv HMET1.out (HO1.out.mono (by omega)) hag hbg hmg).mono ?_; rintro e w2 ⟨u2, rfl, ho2, hmt2, hg2⟩; have HO2 := hid ho2; have HMT2 := hid hmt2; have HK2 := hid (HK1.out.grown hg2 (by omega) (by simp only [ne_eq, Option.some.injEq]; exact hag) (by simp only [ne_eq, Option.some.injEq]; exact hbg) (by simp only [ne_eq, Option.some.injEq]; exact hmg) (fun q hq => by simp only [Option.some.injEq] at hq; omega)); have HP2 := hid (HPU.out.stay (by omega) (fun k h1 h2 => hg2.block k h2 (by simp only [ne_eq, Option.some.injEq]; omega))); clear ho2 hmt2 hg2) | fail)
      have HLE := hid (show E.length = D.length + 1 by rw [HE.out]; simp)
      have hsl : 1002 - slLen2 v1 < 1002 - slLen2 u7 := by
        have h1 := HP2.out.len
        have h2 := HLL.out
        have h3 := HLE.out
        rw [h1, h2]; omega
      by_cases hneg : nwI E ms < 0
      · have hfin : grL N ms = E := by rw [HEQ.out, grRun_end hneg f]
        exact ⟨⟨.inr ⟨by rw [decide_eq_false (by omega)], by rw [hfin]; exact HP2.out.listsA hB⟩, HK2.out⟩, hsl⟩
      · have hi0 : 0 ≤ nwI E ms := by omega
        have hE2 := HE.out
        have hnx := HGI.out.next HG.out hi0
        have hll := hnx.len h5
        rw [List.length_append, List.length_singleton] at hll
        have hdf := HDF.out
        have hle := HLE.out
        obtain ⟨f', rfl⟩ : ∃ f', f = f' + 1 := ⟨f - 1, by omega⟩
        have hst := HEQ.out.trans (grRun_step hneg f')
        have hlast : lastL E = x := by rw [hE2, lastL_snoc]
        rw [hlast] at hnx hst
        have ho2 := HO2.out hi0
        have hxP : PN N x := HGI.out.2.2 x (by rw [hE2]; simp)
        obtain ⟨g3, n3, c3, rfl⟩ := Own.shape ho2 (by rw [mvM_len, hxP.len]; omega)
        have hlow := (World.ownsRow.lt ho2 g3 rfl).1
        exact ⟨⟨.inl ⟨f', _, E, w1.heap.size, g3, n3, c3, by rw [decide_eq_true hi0], rfl, hnx, hst, by omega, ho2.mono (by omega), hlow, HP2.out, HMT2.out⟩, HK2.out⟩, hsl⟩
    · have HLA := hid hla
      clear hla
      go_wp2_with fail
      go_ret
      exact ⟨_, rfl, HLA.out, hkg.bel, hkg.ca⟩
theorem preLen_glRes (n : Int) (ms : List Mv) : preLen (glRes n ms) (glRes n ms).length ≤ 100000 := by
  unfold glRes
  split
  · rename_i h
    have hp := tk_parts h
    have e : ((n.toNat : Nat) : Int) = n := by omega
    have hg : ∀ t, t < ms.length → mvAt (n.toNat : Int) ms t = true := fun t ht => by rw [e]; exact hp.2.2.2 t ht
    have hI : ∀ (f : Nat) (D : List (List Int)), GI n.toNat D → GI n.toNat (grRun ms f D) := by
      intro f
      induction f with
      | zero => intro D h; exact h
      | succ f ih =>
        intro D h
        rw [grRun]
        split
        · exact h
        · exact ih _ (h.next hg (by omega))
    have h1 := hI 120 _ (GI_first n.toNat)
    have h2 := h1.len (show n.toNat ≤ 5 by omega)
    have h3 := preLen_le (L := grL n.toNat ms) (c := 5) (fun l hl => by rw [(h1.2.2 l hl).len]; omega) (grL n.toNat ms).length
    have h4 : (grL n.toNat ms).length ≤ 120 := h2
    omega
  · exact Nat.zero_le _
theorem madeBools (w : World) (K : Nat) : (w.alloc (.cells (madeCells #[.bool false] K) 4)).rowIs w.heap.size 4 K (metF []) := (World.rowIs_made w (.bool false) K 4).congr (fun q hq => rfl)
set_option maxHeartbeats 1000000 in
theorem impl_GreedyList_any (n : Int) (v : Value) (ms : List Mv) (w : World) (hm : ReadsM w v ms) :
    Calls Try.prog 53 #[.int .i64 n, v] w fun e w' => ∃ r, e = .returned (.tuple #[r, .bool (tkB n ms)]) ∧ ListsA w' w.heap.size r (glRes n ms) ∧ Below w.heap.size w w' := by
  have HRM := hid hm
  obtain ⟨ao, cm, rfl, hcm, hcmm, hmd⟩ := hm
  unfold maxLen at hcmm
  clear hmd
  cases ht : tkB n ms with
  | false =>
    have HT := hid ht
    have HR := hid (show glRes n ms = [] by rw [glRes, if_neg (by rw [ht]; simp)])
    clear ht
    go_enter Try.func53, Try.ntmps53
    go_wp2_with (first | (go_at_call 91; refine (moversOf_any2 n _ ms _ HRM.out).mono ?_; rintro e w1 ⟨u1, rfl, hu, hb1⟩; have hu2 := hu.2 HT.out; subst hu2; rw [HT.out]; have HB1 := hid hb1; clear hb1 hu) | fail)
    go_ret2
    exact ⟨_, rfl, by rw [HR.out]; exact ListsA_nil _ _, HB1.out.alloc HB1.out.size _⟩
  | true =>
    have HT := hid ht
    obtain ⟨h1, h5, h12, hg⟩ := tk_parts ht
    obtain ⟨N, rfl⟩ : ∃ N : Nat, n = (N : Int) := ⟨n.toNat, by omega⟩
    have HG := hid hg
    have HR := hid (show glRes N ms = grL N ms by rw [glRes, if_pos ht]; rfl)
    have hF := fact_five (n := N) (by omega)
    obtain ⟨F, hFF⟩ : ∃ F, F = fact N := ⟨_, rfl⟩
    have HFF := hid hFF
    rw [← hFF] at hF
    clear hg ht hFF
    go_enter Try.func53, Try.ntmps53
    go_wp2_with fail
    refine (moversOf_any _ _ ms _ HRM.out).mono ?_
    rintro e w1 ⟨u1, rfl, hmv, hb1⟩
    obtain ⟨gm, rfl, hrm, hgm0⟩ := hmv HT.out
    rw [HT.out]
    have HB1 := hid hb1
    have hsz1 := hb1.size
    have hgm := World.rowIs.lt hrm
    have hba := (Below.refl w1.heap.size w1).alloc (Nat.le_refl _) (.cells #[.slice (some ⟨gm, 0, none⟩) ms.length ms.length] 99)
    have hbox := (World.rowIs_alloc w1 #[.slice (some ⟨gm, 0, none⟩) ms.length ms.length] 99 (fun _ => .slice (some ⟨gm, 0, none⟩) ms.length ms.length) (fun t ht => by
      match t, ht with
      | 0, _ => rfl
      | t + 1, h => exact absurd h (by simp))).cell (i := 0) (by simp)
    have hszA : (w1.alloc (.cells #[.slice (some ⟨gm, 0, none⟩) ms.length ms.length] 99)).heap.size = w1.heap.size + 1 := by simp
    have hmk := run_make_boolsP F (by omega) (w1.alloc (.cells #[.slice (some ⟨gm, 0, none⟩) ms.length ms.length] 99))
    have hmt := madeBools (w1.alloc (.cells #[.slice (some ⟨gm, 0, none⟩) ms.length ms.length] 99)) F
    have HMV2 := hid (RowMv.below hrm hba)
    have HBA := hid (hb1.alloc hsz1 (.cells #[.slice (some ⟨gm, 0, none⟩) ms.length ms.length] 99))
    obtain ⟨wa, hwa⟩ : ∃ wa, wa = w1.alloc (.cells #[.slice (some ⟨gm, 0, none⟩) ms.length ms.length] 99) := ⟨_, rfl⟩
    have hbb := (Below.refl wa.heap.size wa).alloc (Nat.le_refl _) (.cells (madeCells #[.bool false] F) 4)
    obtain ⟨wb, hwb⟩ : ∃ wb, wb = wa.alloc (.cells (madeCells #[.bool false] F) 4) := ⟨_, rfl⟩
    have hwb2 := hwb
    rw [hwa] at hwb2
    rw [← hwb2, hszA] at hmk
    rw [← hwa] at hbox hszA hmt HMV2 HBA
    rw [← hwb] at hbb hmt
    rw [hszA] at hmt hbb
    have HMT := hid hmt
    have HBB := hid hbb
    have HBOX := hid hbox
    clear hba hrm hmv hb1 hmt hbb hbox hwb2 hwa
    have hszB : wb.heap.size = w1.heap.size + 2 := by rw [hwb, World.size_alloc, hszA]
    have hbc := (Below.refl wb.heap.size wb).alloc (Nat.le_refl _) (.cells #[.slice (some ⟨w1.heap.size + 1, 0, none⟩) F F] 108)
    have hboxc := (World.rowIs_alloc wb #[.slice (some ⟨w1.heap.size + 1, 0, none⟩) F F] 108 (fun _ => .slice (some ⟨w1.heap.size + 1, 0, none⟩) F F) (fun t ht => by
      match t, ht with
      | 0, _ => rfl
      | t + 1, h => exact absurd h (by simp))).cell (i := 0) (by simp)
    obtain ⟨wc, hwc⟩ : ∃ wc, wc = wb.alloc (.cells #[.slice (some ⟨w1.heap.size + 1, 0, none⟩) F F] 108) := ⟨_, rfl⟩
    rw [← hwc] at hbc hboxc
    rw [hszB] at hboxc
    have hszC := hbc.size
    have HMV3 := hid ((RowMv.below HMV2.out (by rw [hszA]; exact HBB.out)).below hbc)
    have HMT3 := hid (World.rowIs.of_block HMT.out (hbc.block _ (World.rowIs.lt HMT.out)))
    have HBX3 := hid (cell_below2 (cell_below2 HBOX.out (by rw [hszA]; exact HBB.out)) hbc)
    have HBC := hid (((HBA.out.trans (HBB.out.mono (by omega))).trans (hbc.mono (by omega))) : Below w.heap.size w wc)
    have HUL := hid (upTo_length N)
    clear hbc hwb
    go_wp2_with (first | (go_at_call 67; refine (factorial_any N _ (by omega)).mono ?_; rintro e w2 ⟨rfl, rfl⟩; rw [← HFF.out]) | fail)
    rw [← hwc]
    clear hwc hmk
    go_region_held3 (fun w' => w'.cell? ⟨w1.heap.size + 2, 0, none⟩ = some (.slice (some ⟨w1.heap.size + 1, 0, none⟩) F F))
      (first | exact hboxc | exact HCA5.out | exact cell_below2 hboxc HB4.out | go_keep | fail)
      (first
        | (go_at_call 102; refine (listFrom_greedy N ms gm (w1.heap.size + 1) F (w1.heap.size + 2) g4 N N ⟨w1.heap.size + 2, 0, none⟩ ⟨w1.heap.size, 0, none⟩ w4 (by omega) (by omega) HFF.out h12 HG.out HA4.out HC4.out HMV4.out HMT4.out HZ4.out (by omega) HN1.out HN2.out HN3.out HO4.out).mono ?_; rintro e w5 ⟨u5, rfl, ho5, hb5, hca5⟩; have HCA5 := hid hca5; have HO5 := hid (ho5.mono (show w.heap.size ≤ w1.heap.size + 2 by omega)); have HB5 := hid ((Below_chain HBC.out HB4.out).trans (hb5.mono (show w.heap.size ≤ w1.heap.size + 1 by omega))); clear ho5 hb5 hca5)
        | (go_at_call 82; refine (firstNumbers_any N _ (by omega)).mono ?_; rintro e w4 ⟨he, ho4, hb4⟩; obtain ⟨g4, hg4⟩ : ∃ g4, g4 = wc.drew.heap.size := ⟨_, rfl⟩; rw [← hg4] at he ho4; subst he; have hg5 : wc.heap.size = g4 := hg4.symm; have HB4 := hid ((Below.refl _ _).drew.trans hb4 : Below wc.heap.size wc w4); have HO4 := hid (ho4.mono (show w1.heap.size + 2 ≤ g4 by omega)); have HA4 := hid (cell_below2 hboxc HB4.out); have HC4 := hid (cell_below2 HBX3.out HB4.out); have HMV4 := hid (RowMv.below HMV3.out HB4.out); have HMT4 := hid (World.rowIs.of_block HMT3.out (HB4.out.block _ (World.rowIs.lt HMT3.out))); have HZ4 := hid (show w1.heap.size + 2 ≤ w4.heap.size from Nat.le_trans (by omega) HB4.out.size); have HN1 := hid (show w1.heap.size + 2 ≠ w1.heap.size + 1 by omega); have HN2 := hid (show w1.heap.size ≠ w1.heap.size + 1 by omega); have HN3 := hid (show gm ≠ w1.heap.size + 1 by omega); clear ho4 hb4 hg4)
        | fail)
    all_goals
      go_wp2_with fail
      go_ret2
      exact ⟨_, rfl, by rw [HR.out]; exact HO5.out, HB5.out⟩
end Go.Proofs.Yteenmndgejeihaa
