/- Contract: raOrders. Conditions: at most 6 numbers. -/
import Derived.Test.YteejdagnlepegabOrd1
namespace Go.Proofs.Yteejdagnlepegab
open Go.RowKit
set_option linter.unusedVariables false

theorem Own.aslice {w : World} {base : Nat} {v : Value} {xs : List Int} (h : Own w base v xs) : ∃ ao n c, v = .slice ao n c := by
  rcases h.form with ⟨rfl, _⟩ | ⟨g, cap, rfl, _⟩
  · exact ⟨_, _, _, rfl⟩
  · exact ⟨_, _, _, rfl⟩
theorem raOrders_any (N : Nat) (hN : N < 7) (w : World) :
    Calls Try.prog 51 #[.int .i64 (N : Int)] w fun e w' => ∃ u, e = .returned u ∧ Lists w' w.heap.size u (ordersL N) ∧ Below w.heap.size w w' := by
  obtain ⟨j0, hj, hy0, hy1, hy2⟩ := info_parts Try.infoL
  obtain ⟨hbd, hpos⟩ := fact_small N hN
  have hN13 : N < 13 := by omega
  go_enter Try.func51, Try.ntmps51
  go_wp2_with fail
  go_loopw [3, 4] (fun ov i wr => ∃ r : Nat, r ≤ fact N ∧ i = .int .i64 (r : Int) ∧ Lists wr w.heap.size ov ((ordersL N).take r) ∧ Below w.heap.size w wr) (fun _ i _ => fact N - (intOf i).toNat)
  case atStart => exact ⟨0, Nat.zero_le _, rfl, Lists.nil _ _, Below.refl _ _⟩
  case round =>
    obtain ⟨r, hr, rfl, hli, hbel⟩ := hrel
    have HLI := hid hli
    have HB := hid hbel
    clear hli hbel
    by_cases hlt : r < fact N
    · have HT := hid (ordersL_take hlt)
      have HLT := hid (show ((ordersL N).take r).length = r by rw [List.length_take, ordersL_length]; omega)
      obtain ⟨L, hLd⟩ : ∃ L, L = (ordersL N).take r := ⟨_, rfl⟩
      rw [← hLd] at HLI HT HLT
      have hszw := HB.out.size
      clear hLd
      have hN20 : N ≤ 1048576 := by omega
      have hN12 : N ≤ 12 := by omega
      have hlt2 : (r : Int) < (fact N : Int) := by omega
      go_wp2_with (first
        | (go_at_call 69; refine (raFactorial_any N _ hN13).mono ?_; rintro e w' ⟨rfl, rfl⟩)
        | (go_at_call 71; refine (raUpTo_any N _ hN20).mono ?_; rintro e w1 ⟨u1, rfl, ho1, hb1⟩; have HO1 := hid ho1.reads; have HB1 := hid hb1; clear ho1 hb1)
        | (go_at_call 70; refine (raAt_any N _ (upTo N) r _ _ HO1.out (upTo_length N) hN12 hlt rfl).mono ?_; rintro e w2 ⟨u2, rfl, ho2, hb2⟩; obtain ⟨ao2, n2, c2, rfl⟩ := Own.aslice ho2; have HB2 := hid (Below_chain HB1.out hb2); have HB2A := hid (HB2.out.alloc HB2.out.size (.cells #[.slice ao2 n2 c2] 28)); have HO2 := hid ((ho2.below ((Below.refl _ _).alloc (Nat.le_refl _) (.cells #[.slice ao2 n2 c2] 28))).mono (Nat.le_trans HB.out.size HB1.out.size)); have HLA := HLI.out.below HB2A.out; obtain ⟨vs, hvl, hvr, hve⟩ := HLA; have HVR := hid hvr; have HVE := hid hve; have HVL := hid hvl; have hs2 := HB2.out.size; have HV2 := hid ho2.one; clear ho2 hb2 hvr hve hvl)
        | (at_builtin; refine wpList_append_lies _ rfl (.tmp 11) (.tmp 16) 22 rfl w.heap.size 28 j0 (.slice none 0 0) 1 24 Try.underlying22 hj hy0 hy1 hy2 rfl (by decide) _ _ _ rfl HVR.out ⟨w2.heap.size, 0, none⟩ 1 1 [.slice ao2 n2 c2] rfl rfl (fun j u hj => new_cellV j hj) HV2.out (Nat.zero_lt_one) ?c3 ?c4 ?c5 ?_)
        | fail)
      case c3 => rw [HLT.out]; unfold maxLen; omega
      case c4 => rw [HLT.out]; omega
      case c5 => exact Nat.le_trans hszw (Nat.le_trans hs2 (by simp))
      intro g4 cap4 w4 hown4 hgrow4 hor
      have HPU := hid (show Lists w4 w.heap.size (.slice (some ⟨g4, 0, none⟩) (L.length + 1) cap4) (L ++ [atR N (upTo N) r]) from Lists_push HVL.out HVR.out HVE.out HO2.out hown4 hgrow4)
      have HB4 := hid ((HB.out.trans (HB2A.out.mono hszw)).grown hgrow4 (Nat.le_trans hszw (Nat.le_trans hs2 (by simp))) (fun q hq => (World.ownsRow.lt HVR.out q hq).1))
      clear hown4 hgrow4 hor
      go_wp2_with fail
      go_roundw
      case rel => exact ⟨r + 1, hlt, by go_num, by rw [HT.out]; exact HPU.out, HB4.out⟩
      case measure => simp [intOf]; omega
    · have HE : Hid (r = fact N) := by show r = fact N; omega
      have hlt2 : ¬ (r : Int) < (fact N : Int) := by omega
      go_wp2_with (first
        | (go_at_call 69; refine (raFactorial_any N _ hN13).mono ?_; rintro e w' ⟨rfl, rfl⟩)
        | fail)
      go_ret
      exact ⟨_, rfl, by have h := HLI.out; rwa [List.take_of_length_le (by rw [ordersL_length, HE.out]; exact Nat.le_refl _)] at h, HB.out⟩
end Go.Proofs.Yteejdagnlepegab
