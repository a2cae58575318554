/- Contracts: allLyndonUpTo$1, listFrom with it, allLyndonUpTo. Conditions: lengths 1 to 12, k in 1..6; as many words as the list is made for. -/
import Derived.Test.YtjghjlhjeibfoabLwS
import Derived.Test.YtjghjlhjeibfoabLn1
import Derived.Test.YtjghjlhjeibfoabLc3
import Derived.Test.YtjghjlhjeibfoabGrE
namespace Go.Proofs.Ytjghjlhjeibfoab
open Go.RowKit
set_option linter.unusedVariables false
set_option maxRecDepth 4000

theorem OwnE.sitsN {w : World} {B : Nat} {v : Value} {xs : List Int} (h : OwnE w B v xs) (h1 : 1 ≤ xs.length) : Sits w v xs := by
  rcases h.form with ⟨_, e⟩ | ⟨g, cap, rfl, _, hlt, h3, h4, hc, _⟩
  · rw [e] at h1; simp at h1
  · exact ⟨g, 0, cap, rfl, h3, by unfold maxLen at h4; omega, hlt, fun i hi => by rw [hc i hi, getD_at hi]⟩
theorem OwnE.blockN {w : World} {B : Nat} {v : Value} {xs : List Int} (h : OwnE w B v xs) : ∀ g, v.ownBlock = some g → B ≤ g := fun g hg => (h.low g hg).1
theorem clos_any (v : Value) (xs : List Int) (n k : Nat) (an ak : Addr) (w : World) (hcn : w.cell? an = some (.int .i64 (n : Int))) (hck : w.cell? ak = some (.int .i64 (k : Int))) (h : Sits w v xs) (h1 : 1 ≤ xs.length) (hl : xs.length ≤ 24) (hn1 : 1 ≤ n) (hn : n < 13) (hk1 : 1 ≤ k) (hk : k < 7) (hb : belL k xs) :
    Calls Try.prog 73 #[v, .pointer (some an), .pointer (some ak)] w fun e w' => ∃ ao c, e = .returned (.tuple #[.slice ao (nxL xs n k).length c, .bool (decide (0 < (nxL xs n k).length))]) ∧ OwnE w' w.heap.size (.slice ao (nxL xs n k).length c) (nxL xs n k) ∧ Below w.heap.size w w' := by
  have H := hid h
  have HBL := hid hb
  clear h hb
  go_enter Try.func73, Try.ntmps73
  go_wp2_with (first | (go_at_call 48; (refine (nextLyndon_any _ xs n k _ H.out h1 hl hn1 hn hk1 hk HBL.out).mono ?_); (rintro e w' ⟨u, rfl, ho, hb⟩); (obtain ⟨ao, c, rfl, _⟩ := ho.shp); (have HO := hid ho); (have HB := hid hb); (clear ho hb)) | fail)
  go_ret2
  exact ⟨_, _, rfl, HO.out, HB.out⟩
/-- where the loop stands: the words so far, the next one, whether there is one -/
def LFw (n k C B : Nat) (s7 s8 s9 : Value) (wr : World) : Prop :=
  (∃ (i H c0 c : Nat) (aA ao : Option Addr) (m : Nat), s9 = .bool true ∧ i < C ∧ m = (wdL n k i).length ∧ s8 = .slice ao m c ∧ OwnE wr B s8 (wdL n k i) ∧ (∀ g, s8.ownBlock = some g → H ≤ g) ∧ H ≤ wr.heap.size ∧ s7 = .slice aA i c0 ∧ GrL wr B H (.slice aA i c0) (wdTo n k i)) ∨
  (∃ (c0 : Nat) (aA : Option Addr), s9 = .bool false ∧ s7 = .slice aA C c0 ∧ GrL wr B wr.heap.size (.slice aA C c0) (wdTo n k C))
set_option maxHeartbeats 2000000 in
theorem listFrom_w (n k C : Nat) (hn1 : 1 ≤ n) (hn : n < 13) (hk1 : 1 ≤ k) (hk : k < 7) (hWC : WdC n k C) (hC0 : 0 < C) (hC : C ≤ 1400) (g0 : Nat) (an ak : Addr) (B : Nat) (w : World) (han : w.cell? an = some (.int .i64 (n : Int))) (hak : w.cell? ak = some (.int .i64 (k : Int))) (hanb : an.block < B) (hakb : ak.block < B) (hB : B ≤ w.heap.size) (hv : Own w B (.slice (some ⟨g0, 0, none⟩) 1 1) [0]) :
    Calls Try.prog 74 #[.slice (some ⟨g0, 0, none⟩) 1 1, .int .i64 (C : Int), .func (.func 73) #[] #[.pointer (some an), .pointer (some ak)]] w fun e w' => ∃ aA c0, e = .returned (.slice aA C c0) ∧ GrL w' B w'.heap.size (.slice aA C c0) (wdTo n k C) ∧ Below B w w' := by
  obtain ⟨j0, hj, hy0, hy1, hy2⟩ := info_parts Try.infoL
  obtain ⟨wm, hrun, hown0, hgrow0⟩ := run_make_own (P := Try.prog) w B 32 22 j0 (.slice none 0 0) 1 Try.underlying32 hj hy0 hy1 .i64 .i64 C (by rw [hy2]; omega) (by unfold maxLen; omega) hB
  have HWM := hid (Below.grown (Below.refl B w) hgrow0 hB (fun q hq => by cases hq))
  have HAN := hid han
  have HAK := hid hak
  have HSZM := hid hgrow0.size
  have HST := hid (show LFw n k C B (.slice (some ⟨w.heap.size, 0, none⟩) 0 C) (.slice (some ⟨g0, 0, none⟩) 1 1) (.bool true) wm from
    .inl ⟨0, 0, C, 1, _, _, 1, rfl, hC0, rfl, rfl, (Own.kept hv hgrow0 (.inr (by simp [Value.ownBlock]))).e, fun g hg => Nat.zero_le _, Nat.zero_le _, rfl, GrL.made hown0⟩)
  have HWD := hid hWC
  clear hown0 hgrow0 hv han hak hWC
  go_enter Try.func74, Try.ntmps74
  go_wp2_with fail
  clear hrun
  go_loopw [7, 8, 9] (fun s7 s8 s9 wr => LFw n k C B s7 s8 s9 wr ∧ Below B w wr) (fun s7 _ _ _ => C + 1 - slLenN s7)
  case atStart => exact ⟨HST.out, HWM.out⟩
  case round =>
    obtain ⟨hlf, hbel⟩ := hrel
    rcases hlf with ⟨i, H, c0, c, aA, ao, m, rfl, hiC, hm, rfl, ho, hH, hHs, rfl, hgr⟩ | ⟨c0, aA, rfl, rfl, hgr⟩
    · have hwd := HWD.out.word hn1 hn hk1 hk hiC
      have HEI := hid (HWD.out.end_iff hiC)
      have HE := hid ho
      have HH := hid hH
      have HG := hid hgr
      have HBB := hid hbel
      have hBs : B ≤ wr.heap.size := Nat.le_trans hB hbel.size
      have HX := hid (show nxL (wdL n k i) n k = wdL n k (i + 1) from rfl)
      have HTS := hid (show wdTo n k i ++ [wdL n k i] = wdTo n k (i + 1) from rfl)
      obtain ⟨W, hW⟩ : ∃ W, W = wdL n k i := ⟨_, rfl⟩
      rw [← hW] at HE hwd HX HTS hm
      have hw1 := hwd.1
      have hw2 := hwd.2.1
      have HBE := hid hwd.2.2
      have HLM := hid hm
      have hi14 : i ≤ 1400 := by omega
      obtain ⟨M, hM⟩ : ∃ M, M = nxL W n k := ⟨_, rfl⟩
      have HME := hid (show M = wdL n k (i + 1) by rw [hM]; exact HX.out)
      have HMN := hid hM
      have HMZ := hid (show 0 < M.length ↔ i + 1 < C by rw [HME.out]; exact HEI.out)
      clear ho hH hgr hbel hwd hW hm hM
      by_cases hmz : i + 1 < C
      · have hd : decide (0 < M.length) = true := decide_eq_true (HMZ.out.2 hmz)
        go_wp2_with (first
          | (at_builtin; (refine wpList_pushE _ rfl _ _ 32 rfl B H j0 Try.underlying32 hj hy0 hy1 hy2 aA i c0 (wdTo n k i) rfl HG.out (.slice ao m c) W HE.out HH.out wr.heap.size rfl rfl (by omega) hBs hHs ?_); (intro g4 c4 w4 hl4 hu4 hz4 hb4); (rw [HTS.out] at hl4); (have HL4 := hid hl4); (have HU4 := hid hu4); (have HZ4 := hid hz4); (have HB4 := hid (hb4 B w (Nat.le_refl _) HBB.out)); (clear hl4 hu4 hz4 hb4))
          | (go_at_call 73; (refine (clos_any _ W n k an ak _ ((HB4.out.cell hanb).trans HAN.out) ((HB4.out.cell hakb).trans HAK.out) (HU4.out.sitsN hw1) hw1 (by omega) hn1 hn hk1 hk HBE.out).mono ?_); (rintro e w5 ⟨ao5, c5, rfl, ho5, hb5⟩); (rw [← HMN.out] at ho5 ⊢); (rw [hd]); (have HO5 := hid ho5); (have HL5 := hid (HL4.out.below hb5)); (have HB5 := hid (HB4.out.trans (hb5.mono (Nat.le_trans hB HB4.out.size)))); (have HZ5 := hid hb5.size); (clear ho5 hb5))
          | fail)
        go_roundw
        case rel => exact ⟨.inl ⟨i + 1, wr.heap.size, c4, c5, some ⟨g4, 0, none⟩, ao5, M.length, rfl, hmz, by rw [HME.out], rfl, by rw [← HME.out]; exact HO5.out.mono (Nat.le_trans hB HB4.out.size), fun g hg => Nat.le_trans HZ4.out (HO5.out.blockN g hg), Nat.le_trans HZ4.out HZ5.out, rfl, HL5.out⟩, HB5.out⟩
        case measure => simp only [slLenN]; omega
      · have hd : decide (0 < M.length) = false := decide_eq_false (fun h => hmz (HMZ.out.1 h))
        have hiC2 : i + 1 = C := by omega
        have HIC := hid hiC2
        clear hiC2
        go_wp2_with (first
          | (at_builtin; (refine wpList_pushE _ rfl _ _ 32 rfl B H j0 Try.underlying32 hj hy0 hy1 hy2 aA i c0 (wdTo n k i) rfl HG.out (.slice ao m c) W HE.out HH.out wr.heap.size rfl rfl (by omega) hBs hHs ?_); (intro g4 c4 w4 hl4 hu4 hz4 hb4); (rw [HTS.out] at hl4); (have HL4 := hid hl4); (have HU4 := hid hu4); (have HZ4 := hid hz4); (have HB4 := hid (hb4 B w (Nat.le_refl _) HBB.out)); (clear hl4 hu4 hz4 hb4))
          | (go_at_call 73; (refine (clos_any _ W n k an ak _ ((HB4.out.cell hanb).trans HAN.out) ((HB4.out.cell hakb).trans HAK.out) (HU4.out.sitsN hw1) hw1 (by omega) hn1 hn hk1 hk HBE.out).mono ?_); (rintro e w5 ⟨ao5, c5, rfl, ho5, hb5⟩); (rw [← HMN.out] at ho5 ⊢); (rw [hd]); (have HO5 := hid ho5); (have HL5 := hid (HL4.out.below hb5)); (have HB5 := hid (HB4.out.trans (hb5.mono (Nat.le_trans hB HB4.out.size)))); (have HZ5 := hid hb5.size); (clear ho5 hb5))
          | fail)
        go_roundw
        case rel => exact ⟨.inr ⟨c4, some ⟨g4, 0, none⟩, rfl, by rw [HIC.out], by have h9 := HL5.out; rw [HIC.out] at h9; exact h9.up (Nat.le_trans HZ4.out HZ5.out)⟩, HB5.out⟩
        case measure => simp only [slLenN]; omega
    · have HG := hid hgr
      clear hgr
      go_wp2_with fail
      go_ret
      exact ⟨_, _, rfl, HG.out, hbel⟩
end Go.Proofs.Ytjghjlhjeibfoab
