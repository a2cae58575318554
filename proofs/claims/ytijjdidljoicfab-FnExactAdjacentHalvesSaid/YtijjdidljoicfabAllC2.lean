/- Contract: listFrom with the closure of AllCombinations. Conditions: at most 12 items. -/
import Derived.Test.YtijjdidljoicfabAllC1
namespace Go.Proofs.Ytijjdidljoicfab
open Go.RowKit
set_option linter.unusedVariables false

def slLen : Value → Nat
  | .slice _ n _ => n
  | _ => 0
theorem RowsUnder.keep {w w' : World} {base H : Nat} {v : Value} {L : List (List Int)} (h : RowsUnder w base H v L) (hb : Below w.heap.size w w') : RowsUnder w' base H v L := by
  obtain ⟨vs, a, b, c, d, e⟩ := h
  exact ⟨vs, a, ownsRow_below b hb, fun i x y => (c i x y).below hb, d, e⟩
theorem ownsRow_len {w : World} {base : Nat} {e : TypeId} {v : Value} {n : Nat} {vs : List Value} (h : w.ownsRow base e 1 v n vs) : slLen v = n := by
  rcases h.2 with ⟨rfl, hn⟩ | ⟨g, cap, cur, rfl, _⟩
  · exact hn.symm
  · rfl
theorem RowsUnder.len {w : World} {base H : Nat} {v : Value} {L : List (List Int)} (h : RowsUnder w base H v L) : slLen v = L.length := by
  obtain ⟨vs, a, b, _⟩ := h
  exact ownsRow_len b
theorem take_snoc {L : List (List Int)} {j : Nat} {xs : List Int} (h : j < L.length) (e : L.getD j [] = xs) : L.take (j + 1) = L.take j ++ [xs] := by
  rw [List.take_succ_eq_append_getElem h, ← e]
  simp [List.getD_eq_getElem?_getD, h]
/-- where the loop stands: the lists so far, the next one, whether there is one -/
def LF (N k B : Nat) (s7 s8 s9 : Value) (wr : World) : Prop :=
  (∃ (j : Nat) (xs : List Int) (H g n c : Nat), s9 = .bool true ∧ j < (allL N k 0).length ∧ RF N 0 xs ∧ xs.length = k ∧ rankC N 0 xs = j ∧ s8 = .slice (some ⟨g, 0, none⟩) n c ∧
    Own wr B s8 xs ∧ H ≤ g ∧ RowsUnder wr B H s7 ((allL N k 0).take j)) ∨ (s9 = .bool false ∧ ListsA wr B s7 (allL N k 0))
theorem RF_wf {N : Nat} {xs : List Int} (hN : N ≤ 12) (h : RF N 0 xs) : ∀ x ∈ xs, (Lit.int .i64 x).wf = true := by
  intro x hx
  obtain ⟨i, hi, rfl⟩ := List.mem_iff_getElem.1 hx
  have := RF_rise N xs 0 h i hi
  rw [getD_at hi] at this
  exact WalkArith.wf_i64 (by omega)
set_option maxHeartbeats 2000000 in
theorem listFrom_any (N k : Nat) (hN : N ≤ 12) (hk : k ≤ N) (g0 n0 c0 : Nat) (a : Addr) (B : Nat) (w : World) (ha : w.cell? a = some (.int .i64 (N : Int))) (hab : a.block < B) (hB : B ≤ w.heap.size) (hv : Own w B (.slice (some ⟨g0, 0, none⟩) n0 c0) (upTo k)) :
    Calls Try.prog 36 #[.slice (some ⟨g0, 0, none⟩) n0 c0, .int .i64 (binom N k : Int), .func (.func 77) #[] #[.pointer (some a)]] w fun e w' => ∃ u, e = .returned u ∧ ListsA w' B u (allL N k 0) ∧ Below B w w' := by
  obtain ⟨j0, hj, hy0, hy1, hy2⟩ := info_parts Try.infoL
  have hlen := allL_len N hN k 0 (by omega)
  rw [Nat.sub_zero] at hlen
  have hbd := allL_bound N hN k 0 (by omega)
  obtain ⟨C, hC⟩ : ∃ C, C = binom N k := ⟨_, rfl⟩
  have HCB := hid hC
  rw [← hC] at hlen ⊢
  have hC2 : C ≤ 2000 := by omega
  obtain ⟨wm, hrun, hown0, hgrow0⟩ := run_make_own (P := Try.prog) w B 22 28 j0 (.slice none 0 0) 1 Try.underlying22 hj hy0 hy1 .i64 .i64 C (by rw [hy2]; omega) (by unfold maxLen; omega) hB
  have HWM := hid (Below.grown (Below.refl B w) hgrow0 hB (fun q hq => by cases hq))
  have HA := hid ha
  have HLEN := hid hlen
  have HSZM := hid hgrow0.size
  have hst : LF N k B (.slice (some ⟨w.heap.size, 0, none⟩) 0 C) (.slice (some ⟨g0, 0, none⟩) n0 c0) (.bool true) wm := by
    have hv' : Own wm B (.slice (some ⟨g0, 0, none⟩) n0 c0) (upTo k) := Own.kept hv hgrow0 (.inr (by simp [Value.ownBlock]))
    have hpos : 0 < (allL N k 0).length := by
      rw [upTo_upFrom] at hv
      obtain ⟨_, h, _⟩ := seq_step hN hk (upFrom_length k _) (RF_upFrom N k 0 (by omega)) (rankC_upFrom N k 0)
      exact h
    refine .inl ⟨0, upTo k, 0, g0, n0, c0, rfl, hpos, by rw [upTo_upFrom]; exact RF_upFrom N k 0 (by omega), upTo_length k, by rw [upTo_upFrom]; exact rankC_upFrom N k 0, rfl, hv', Nat.zero_le _, ⟨[], rfl, hown0, fun i h => absurd h (by simp), fun i j h => absurd h (by simp), fun i h => absurd h (by simp)⟩⟩
  have HST := hid hst
  clear hst hown0 hgrow0 hv hC
  go_enter Try.func36, Try.ntmps36
  go_wp2_with fail
  clear hrun
  go_loopw [7, 8, 9] (fun s7 s8 s9 wr => LF N k B s7 s8 s9 wr ∧ Below B w wr ∧ wm.heap.size ≤ wr.heap.size) (fun s7 _ _ _ => C + 1 - slLen s7)
  case atStart => exact ⟨HST.out, HWM.out, Nat.le_refl _⟩
  case round =>
    obtain ⟨hlf, hbel, hszw⟩ := hrel
    rcases hlf with ⟨j, xs, H, g, n, c, rfl, hjl, hrf, hxl, hrk, rfl, ho, hHg, hrows⟩ | ⟨rfl, hla⟩
    · obtain ⟨e1, e2, e3, e4⟩ := seq_step hN hk hxl hrf hrk
      have HE1 := hid e1
      have HE4 := hid e4
      have HE3 := hid e3
      have HRF := hid hrf
      have HXL := hid hxl
      have HO := hid ho
      have HBB := hid hbel
      have hll := hrows.len
      have hlt : ((allL N k 0).take j).length = j := by rw [List.length_take]; omega
      have HTK := hid (take_snoc hjl e1)
      obtain ⟨vs, r1, r2, r3, r4, r5⟩ := hrows
      rw [hlt] at r1 r2 hll
      have HR2 := hid r2
      have hszB : B ≤ wr.heap.size := hbel.size |> Nat.le_trans hB
      obtain ⟨Bb, hBb⟩ : ∃ Bb, Bb = nxB (N : Int) xs := ⟨_, rfl⟩
      have HBb := hid hBb
      have HR := hid (show vs.length = ((allL N k 0).take j).length ∧ (∀ i (h1 : i < ((allL N k 0).take j).length) (h2 : i < vs.length), Own wr B vs[i] ((allL N k 0).take j)[i]) ∧ (∀ i j (h1 : i < vs.length) (h2 : j < vs.length) (g : Nat), i ≠ j → vs[i].ownBlock = some g → vs[j].ownBlock ≠ some g) ∧ (∀ i (h1 : i < vs.length) g, vs[i].ownBlock = some g → g < H) from ⟨by rw [hlt]; exact r1, r3, r4, r5⟩)
      have HLT := hid hlt
      have hjC : j < C := by rw [← HLEN.out]; exact hjl
      have HJ := hid hjl
      clear ho hbel hrf hxl hrk e1 e3 e4 r1 r2 r3 r4 r5 hlt hBb
      go_wp2_with (first
        | (at_builtin; refine wpList_append_own _ rfl _ _ 22 rfl B 28 j0 (.slice none 0 0) 1 24 Try.underlying22 hj hy0 hy1 hy2 rfl (by decide) _ _ _ rfl (World.ownsRow.alloc HR2.out _) ⟨wr.heap.size, 0, none⟩ 1 1 [.slice (some ⟨g, 0, none⟩) n c] rfl rfl (fun j u hj => new_cellV j hj) (by intro u hu; simp at hu; subst hu; rfl) ?c3 ?c4 ?c5 ?_)
        | fail)
      case c3 => unfold maxLen; omega
      case c4 => omega
      case c5 => exact Nat.le_trans hszB (by simp)
      intro v1 w1 hown1 hgrow1 _
      have hsa : wr.heap.size ≤ (wr.alloc (.cells #[.slice (some ⟨g, 0, none⟩) n c] 28)).heap.size := by simp
      have hsz1 := hgrow1.size
      have hBA : Below B w (wr.alloc (.cells #[.slice (some ⟨g, 0, none⟩) n c] 28)) := HBB.out.alloc hszB _
      have hBL : Below wr.heap.size wr (wr.alloc (.cells #[.slice (some ⟨g, 0, none⟩) n c] 28)) := (Below.refl _ _).alloc (Nat.le_refl _) _
      have HB1 := hid (hBA.grown hgrow1 (Nat.le_trans hszB hsa) (fun q hq => (World.ownsRow.lt HR2.out q hq).1))
      have HPU := hid (show RowsUnder w1 B w1.heap.size v1 ((allL N k 0).take j ++ [xs]) from
        RowsUnder.push HR.out.1 (by rw [HLT.out]; exact World.ownsRow.alloc HR2.out _) (fun i a b => (HR.out.2.1 i a b).below hBL) HR.out.2.2.1 HR.out.2.2.2 (HO.out.below hBL) (fun q hq => by simp only [Value.ownBlock, Option.some.injEq] at hq; omega) (by rw [HLT.out]; exact hown1) hgrow1)
      have HSIT := hid (show Sits w1 (.slice (some ⟨g, 0, none⟩) n c) xs from (Own.kept_type (HO.out.below hBL) (T := 28) (by decide) (World.ownsRow.alloc HR2.out _) hgrow1).sits)
      have HCA := hid (show w1.cell? a = some (.int .i64 (N : Int)) from (HB1.out.cell hab).trans HA.out)
      have HWF := hid (RF_wf hN HRF.out)
      have hx12 : xs.length ≤ 12 := by rw [HXL.out]; omega
      have hsz2 : B ≤ w1.heap.size := Nat.le_trans hszB (Nat.le_trans hsa hsz1)
      clear hown1 hgrow1 hBA hBL
      go_wp2_with (first | (go_at_call 77; refine (closure_any N hN _ xs a _ HCA.out HSIT.out hx12 HWF.out).mono ?_; rintro e w2 ⟨u2, rfl, ho2, hb2⟩; rw [← HBb.out]; have HO2 := hid ho2; have HB2 := hid hb2; clear ho2 hb2) | fail)
      have HB12 := hid (HB1.out.trans (HB2.out.mono hsz2))
      have HP2 := hid (by have h := HPU.out.keep HB2.out; rwa [← HTK.out] at h)
      cases hbb : Bb with
      | true =>
        subst hbb
        obtain ⟨f1, f2, f3⟩ := HE4.out HBb.out.symm
        have hj1 : j + 1 < (allL N k 0).length := of_decide_eq_true (HE3.out.symm.trans HBb.out.symm)
        have hk1 : 0 < (nxRes (N : Int) xs).length := by
          rcases Nat.eq_zero_or_pos k with h0 | h0
          · subst h0; have := HLEN.out; have := HCB.out; have : binom N 0 = 1 := by cases N <;> rfl
            omega
          · omega
        obtain ⟨g3, n3, c3, rfl⟩ := Own.shape HO2.out hk1
        have hg3 := (World.ownsRow.lt HO2.out.row g3 rfl).1
        go_roundw
        case rel => exact ⟨.inl ⟨j + 1, nxRes (N : Int) xs, w1.heap.size, g3, n3, c3, rfl, hj1, f1, f2, f3, rfl, HO2.out.mono hsz2, hg3, HP2.out⟩, HB12.out, Nat.le_trans hszw (Nat.le_trans hsa (Nat.le_trans hsz1 HB2.out.size))⟩
        case measure =>
          have h1 := HP2.out.len
          rw [List.length_take, Nat.min_eq_left (Nat.le_of_lt hj1)] at h1
          show C + 1 - slLen v1 < C + 1 - slLen u7
          rw [h1, hll]; omega
      | false =>
        subst hbb
        have hj1 : ¬ j + 1 < (allL N k 0).length := of_decide_eq_false (HE3.out.symm.trans HBb.out.symm)
        go_roundw
        case rel => exact ⟨.inr ⟨rfl, by have h := HP2.out.listsA; rwa [List.take_of_length_le (by omega)] at h⟩, HB12.out, Nat.le_trans hszw (Nat.le_trans hsa (Nat.le_trans hsz1 HB2.out.size))⟩
        case measure =>
          have h1 := HP2.out.len
          rw [List.length_take, Nat.min_eq_left (by omega)] at h1
          show C + 1 - slLen v1 < C + 1 - slLen u7
          rw [h1, hll]; omega
    · have HLA := hid hla
      clear hla
      go_wp2_with fail
      go_ret
      exact ⟨_, rfl, HLA.out, hbel⟩
end Go.Proofs.Ytijjdidljoicfab
