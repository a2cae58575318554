/- Contracts: listFrom with NextPermutation; both AllPermutations functions. Conditions: at most 6 numbers for the first. -/
import Derived.Test.YteejdagnlepegabOrdM
import Derived.Test.YteejdagnlepegabAllC3
namespace Go.Proofs.Yteejdagnlepegab
open Go.RowKit
set_option linter.unusedVariables false

/-- where the loop stands -/
def LP (n B : Nat) (s7 s8 s9 : Value) (wr : World) : Prop :=
  (∃ (j : Nat) (H g m c : Nat), s9 = .bool true ∧ j < fact n ∧ s8 = .slice (some ⟨g, 0, none⟩) m c ∧
    Own wr B s8 (atR n (upTo n) j) ∧ H ≤ g ∧ RowsUnder wr B H s7 ((ordersL n).take j)) ∨ (s9 = .bool false ∧ ListsA wr B s7 (ordersL n))
set_option maxHeartbeats 2000000 in
theorem listFrom_perm (N : Nat) (hN : N < 7) (g0 n0 c0 : Nat) (B : Nat) (w : World) (hB : B ≤ w.heap.size) (hv : Own w B (.slice (some ⟨g0, 0, none⟩) n0 c0) (upTo N)) :
    Calls Try.prog 38 #[.slice (some ⟨g0, 0, none⟩) n0 c0, .int .i64 (fact N : Int), .func (.func 17) #[] #[]] w fun e w' => ∃ u, e = .returned u ∧ ListsA w' B u (ordersL N) ∧ Below B w w' := by
  obtain ⟨j0, hj, hy0, hy1, hy2⟩ := info_parts Try.infoL
  have hlen := ordersL_length N
  obtain ⟨hbd, hpos⟩ := fact_small N hN
  obtain ⟨C, hC⟩ : ∃ C, C = fact N := ⟨_, rfl⟩
  have HCB := hid hC
  rw [← hC] at hlen hbd hpos ⊢
  obtain ⟨wm, hrun, hown0, hgrow0⟩ := run_make_own (P := Try.prog) w B 22 28 j0 (.slice none 0 0) 1 Try.underlying22 hj hy0 hy1 .i64 .i64 C (by rw [hy2]; omega) (by unfold maxLen; omega) hB
  have HWM := hid (Below.grown (Below.refl B w) hgrow0 hB (fun q hq => by cases hq))
  have HLEN := hid hlen
  have hst : LP N B (.slice (some ⟨w.heap.size, 0, none⟩) 0 C) (.slice (some ⟨g0, 0, none⟩) n0 c0) (.bool true) wm := by
    have hv' : Own wm B (.slice (some ⟨g0, 0, none⟩) n0 c0) (upTo N) := Own.kept hv hgrow0 (.inr (by simp [Value.ownBlock]))
    refine .inl ⟨0, 0, g0, n0, c0, rfl, by rw [← hC]; exact hpos, rfl, by rw [atR_zero N hN]; exact hv', Nat.zero_le _, ⟨[], rfl, hown0, fun i h => absurd h (by simp), fun i j h => absurd h (by simp), fun i h => absurd h (by simp)⟩⟩
  have HST := hid hst
  clear hst hown0 hgrow0 hv hC
  go_enter Try.func38, Try.ntmps38
  go_wp2_with fail
  clear hrun
  go_loopw [7, 8, 9] (fun s7 s8 s9 wr => LP N B s7 s8 s9 wr ∧ Below B w wr) (fun s7 _ _ _ => C + 1 - slLen s7)
  case atStart => exact ⟨HST.out, HWM.out⟩
  case round =>
    obtain ⟨hlf, hbel⟩ := hrel
    rcases hlf with ⟨j, H, g, n, c, rfl, hjl, rfl, ho, hHg, hrows⟩ | ⟨rfl, hla⟩
    · obtain ⟨e3, e4⟩ := ord_step N hN j hjl
      have HWF := hid (atR_wf N hN j hjl)
      have HTK := hid (ordersL_take hjl)
      have hxl := atR_length N (upTo N) j
      obtain ⟨xs, hxs⟩ : ∃ xs, xs = atR N (upTo N) j := ⟨_, rfl⟩
      rw [← hxs] at ho e3 e4 HWF HTK hxl
      have HE3 := hid e3
      have HE4 := hid e4
      have HXL := hid hxl
      have HO := hid ho
      have HBB := hid hbel
      have hll := hrows.len
      rw [← HCB.out] at hjl
      have hlt : ((ordersL N).take j).length = j := by rw [List.length_take, hlen]; omega
      obtain ⟨vs, r1, r2, r3, r4, r5⟩ := hrows
      rw [hlt] at r1 r2 hll
      have HR2 := hid r2
      have hszB : B ≤ wr.heap.size := hbel.size |> Nat.le_trans hB
      obtain ⟨Bb, hBb⟩ : ∃ Bb, Bb = npB xs := ⟨_, rfl⟩
      have HBb := hid hBb
      have HR := hid (show vs.length = ((ordersL N).take j).length ∧ (∀ i (h1 : i < ((ordersL N).take j).length) (h2 : i < vs.length), Own wr B vs[i] ((ordersL N).take j)[i]) ∧ (∀ i j (h1 : i < vs.length) (h2 : j < vs.length) (g : Nat), i ≠ j → vs[i].ownBlock = some g → vs[j].ownBlock ≠ some g) ∧ (∀ i (h1 : i < vs.length) g, vs[i].ownBlock = some g → g < H) from ⟨by rw [hlt]; exact r1, r3, r4, r5⟩)
      have HLT := hid hlt
      clear ho hbel hxs e3 e4 r1 r2 r3 r4 r5 hlt hBb hxl
      go_wp2_with (first
        | (at_builtin; refine wpList_append_own _ rfl _ _ 22 rfl B 28 j0 (.slice none 0 0) 1 24 Try.underlying22 hj hy0 hy1 hy2 rfl (by decide) _ _ _ rfl (World.ownsRow.alloc HR2.out _) ⟨wr.heap.size, 0, none⟩ 1 1 [.slice (some ⟨g, 0, none⟩) n c] rfl rfl (fun j u hj => new_cellV j hj) (by intro u hu; simp at hu; subst hu; rfl) ?c3 ?c4 ?c5 ?_)
        | fail)
      case c3 => unfold maxLen; omega
      case c4 => omega
      case c5 => exact Nat.le_trans hszB (by simp)
      intro v1 w1 hown1 hgrow1 _
      have hsa : wr.heap.size ≤ (wr.alloc (.cells #[.slice (some ⟨g, 0, none⟩) n c] 28)).heap.size := by simp
      have hsz1 := hgrow1.size
      have hBA : Below B w (wr.alloc (.cells #[.slice (some ⟨g, 0, none⟩) n c] 28)) := HBB.out.alloc hszB _
      have hBL : Below wr.heap.size wr (wr.alloc (.cells #[.slice (some ⟨g, 0, none⟩) n c] 28)) := (Below.refl _ _).alloc (Nat.le_refl _) _
      have HB1 := hid (hBA.grown hgrow1 (Nat.le_trans hszB hsa) (fun q hq => (World.ownsRow.lt HR2.out q hq).1))
      have HPU := hid (show RowsUnder w1 B w1.heap.size v1 ((ordersL N).take j ++ [xs]) from
        RowsUnder.push HR.out.1 (by rw [HLT.out]; exact World.ownsRow.alloc HR2.out _) (fun i a b => (HR.out.2.1 i a b).below hBL) HR.out.2.2.1 HR.out.2.2.2 (HO.out.below hBL) (fun q hq => by simp only [Value.ownBlock, Option.some.injEq] at hq; omega) (by rw [HLT.out]; exact hown1) hgrow1)
      have HSIT := hid (show Sits w1 (.slice (some ⟨g, 0, none⟩) n c) xs from (Own.kept_type (HO.out.below hBL) (T := 28) (by decide) (World.ownsRow.alloc HR2.out _) hgrow1).sits)
      have hx20 : xs.length ≤ 1048576 := by rw [HXL.out]; omega
      have hsz2 : B ≤ w1.heap.size := Nat.le_trans hszB (Nat.le_trans hsa hsz1)
      clear hown1 hgrow1 hBA hBL
      go_wp2_with (first | (go_at_call 17; refine (impl_NextPermutation_any _ xs _ HSIT.out hx20 HWF.out).mono ?_; rintro e w2 ⟨u2, rfl, ho2, hb2⟩; rw [← HBb.out]; have HO2 := hid ho2; have HB2 := hid hb2; clear ho2 hb2) | fail)
      have HB12 := hid (HB1.out.trans (HB2.out.mono hsz2))
      have HP2 := hid (by have h := HPU.out.keep HB2.out; rwa [← HTK.out] at h)
      cases hbb : Bb with
      | true =>
        subst hbb
        have hj1 : j + 1 < fact N := of_decide_eq_true (HE3.out.symm.trans HBb.out.symm)
        have hnx := HE4.out hj1
        have hk1 : 0 < (npRes xs).length := by
          rw [hnx, atR_length]
          rcases Nat.eq_zero_or_pos N with h0 | h0
          · subst h0; simp [fact] at hj1
          · exact h0
        obtain ⟨g3, n3, c3, rfl⟩ := Own.shape HO2.out hk1
        have hg3 := (World.ownsRow.lt HO2.out.row g3 rfl).1
        have HO3 := hid HO2.out
        rw [hnx] at HO3
        go_roundw
        case rel => exact ⟨.inl ⟨j + 1, w1.heap.size, g3, n3, c3, rfl, hj1, rfl, HO3.out.mono hsz2, hg3, HP2.out⟩, HB12.out⟩
        case measure =>
          have h1 := HP2.out.len
          rw [List.length_take, HLEN.out, Nat.min_eq_left (by omega)] at h1
          show C + 1 - slLen v1 < C + 1 - slLen u7
          rw [h1, hll]; omega
      | false =>
        subst hbb
        have hj1 : ¬ j + 1 < fact N := of_decide_eq_false (HE3.out.symm.trans HBb.out.symm)
        rw [← HCB.out] at hj1
        go_roundw
        case rel => exact ⟨.inr ⟨rfl, by have h := HP2.out.listsA; rwa [List.take_of_length_le (by rw [HLEN.out]; omega)] at h⟩, HB12.out⟩
        case measure =>
          have h1 := HP2.out.len
          rw [List.length_take, HLEN.out, Nat.min_eq_left (by omega)] at h1
          show C + 1 - slLen v1 < C + 1 - slLen u7
          rw [h1, hll]; omega
    · have HLA := hid hla
      clear hla
      go_wp2_with fail
      go_ret
      exact ⟨_, rfl, HLA.out, hbel⟩
end Go.Proofs.Yteejdagnlepegab
