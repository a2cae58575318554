/- Contract: impl.CoolList. Conditions: none. -/
import Derived.Test.YtijjdidljoicfabCl1
import Derived.Test.YtijjdidljoicfabPreL
namespace Go.Proofs.Ytijjdidljoicfab
open Go.RowKit
set_option linter.unusedVariables false

theorem coolF_is {n k : Nat} (h : k ≤ n) : List.replicate k (1 : Int) ++ List.replicate (n - k) 0 = coolF n k := by
  show _ = bitsL n (upTo k)
  apply List.ext_getElem
  · rw [bitsL_length]; simp; omega
  · intro i h1 h2
    rw [bitsL_length] at h2
    have h3 := bitsL_getD (n := n) (i := i) (upTo k) h2
    rw [getD_at (by rw [bitsL_length]; exact h2)] at h3
    rw [h3, bitAt]
    have hu : hasB (upTo k) (i : Int) = decide (i < k) := by
      rw [Bool.eq_iff_iff, hasB_iff, decide_eq_true_eq]
      simp only [upTo, List.mem_map, List.mem_range]
      exact ⟨fun ⟨j, hj, e⟩ => by omega, fun h => ⟨i, h, rfl⟩⟩
    rw [hu]
    by_cases hik : i < k
    · rw [List.getElem_append_left (by simpa using hik)]; simp [hik]
    · rw [List.getElem_append_right (by simp; omega)]; simp [hik]
theorem Sits_pair {w : World} {u1 u2 : Value} {a b : List Int} (h1 : Sits w u1 a) (h2 : Sits w u2 b) :
    SitsL (w.alloc (.cells #[u1, u2] 28)) (.slice (some ⟨w.heap.size, 0, none⟩) 2 2) [a, b] := by
  have hb : Below w.heap.size w (w.alloc (.cells #[u1, u2] 28)) := (Below.refl _ _).alloc (Nat.le_refl _) _
  refine ⟨w.heap.size, 0, 2, rfl, Nat.le_refl _, by omega, by simp, fun i hi => ?_⟩
  match i, hi with
  | 0, _ => exact ⟨u1, by simp, h1.below hb⟩
  | 1, _ => exact ⟨u2, by simp, h2.below hb⟩
theorem coolS_elem {n k : Nat} : ∀ l ∈ coolS n k, l.length = n := by
  intro l hl
  rw [coolS] at hl
  rcases List.mem_cons.1 hl with rfl | hl
  · exact coolF_length n k
  · exact coolRun_elem 1000 _ (by rw [coolL_length]; exact coolF_length n k) l hl
theorem preLen_clRes (n k : Int) : preLen (clRes n k) (clRes n k).length ≤ 100000 := by
  cases hs : szB n k with
  | false =>
    have : clRes n k = [] := by rw [clRes, if_neg (by rw [hs]; simp)]
    rw [this]; exact Nat.zero_le _
  | true =>
    obtain ⟨N, K, rfl, rfl, hN, hK⟩ := szB_nat hs
    have hR : clRes (N : Int) (K : Int) = coolS N K := by rw [clRes, if_pos hs]; rfl
    rw [hR]
    have h1 := coolS_length N K
    have h2 := preLen_le (L := coolS N K) (c := 12) (fun l hl => by rw [coolS_elem l hl]; exact hN) (coolS N K).length
    omega
set_option maxHeartbeats 2000000 in
theorem impl_CoolList_any (n k : Int) (w : World) :
    Calls Try.prog 10 #[.int .i64 n, .int .i64 k] w fun e w' => ∃ u, e = .returned (.tuple #[u, .bool (szB n k)]) ∧ ListsA w' w.heap.size u (clRes n k) ∧ Below w.heap.size w w' := by
  cases hs : szB n k with
  | false =>
    have HS := hid hs
    have HR := hid (show clRes n k = [] by rw [clRes, if_neg (by rw [hs]; simp)])
    clear hs
    go_enter Try.func10, Try.ntmps10
    go_wp2_with (first | (go_at_call 30; refine (isChoice_any _ _ _).mono ?_; rintro e w1 ⟨rfl, rfl⟩; rw [HS.out]) | fail)
    go_ret2
    exact ⟨_, rfl, by rw [HR.out]; exact ⟨[], rfl, World.ownsRow_nil _ _ _ _, fun i h => absurd h (by simp), fun i j h => absurd h (by simp)⟩, Below.refl _ _⟩
  | true =>
    have HS := hid hs
    obtain ⟨N, K, rfl, rfl, hN, hK⟩ := szB_nat hs
    have HR := hid (show clRes (N : Int) (K : Int) = coolS N K by rw [clRes, if_pos hs]; rfl)
    have HCH := hid (chooseZ_nat N K (by omega) (by omega))
    have hCb := binom_le N (by omega) K (by omega)
    have hww : IntKind.i64.wrap ((N : Int) - (K : Int)) = ((N - K : Nat) : Int) := by rw [IntWalk.i64_in _ (by omega)]; omega
    have hK12 : K ≤ 12 := by omega
    have hNK12 : N - K ≤ 12 := by omega
    have HFE := hid (show [List.replicate K (1 : Int), List.replicate (N - K) 0].flatten = coolF N K by rw [← coolF_is hK]; simp)
    have HN2 := hid (show [List.replicate K (1 : Int), List.replicate (N - K) 0].length ≤ 1048576 by show 2 ≤ 1048576; omega)
    have HA1 := hid ((Below.refl w.heap.size w).alloc (Nat.le_refl _) (.cells #[.int .i64 1] 3))
    have HC1 := hid (show (w.alloc (.cells #[.int .i64 1] 3)).cell? ⟨w.heap.size, 0, none⟩ = some (.int .i64 1) by simp)
    have HZ1 := hid (show w.heap.size < (w.alloc (.cells #[.int .i64 1] 3)).heap.size by simp)
    obtain ⟨B, hB⟩ : ∃ B, B = binom N K := ⟨_, rfl⟩
    rw [← hB] at HCH hCb
    clear hs hB
    go_enter Try.func10, Try.ntmps10
    go_wp2_with (first
      | (go_at_call 30; refine (isChoice_any _ _ _).mono ?_; rintro e w1 ⟨rfl, rfl⟩; rw [HS.out])
      | fail)
    refine (Repeat_any 1 w.heap.size K hK12 _ HC1.out HZ1.out).mono ?_
    rintro e w1 ⟨rfl, ho1, hb1⟩
    obtain ⟨g1, hg1⟩ : ∃ g, g = (w.alloc (.cells #[.int .i64 1] 3)).heap.size := ⟨_, rfl⟩
    rw [← hg1] at ho1 ⊢
    have HO1 := hid (ho1.mono (show w.heap.size ≤ g1 by rw [hg1]; exact HA1.out.size))
    have HB1 := hid (Below_chain HA1.out hb1)
    have HA2 := hid ((Below.refl w1.heap.size w1).alloc (Nat.le_refl _) (.cells #[.int .i64 0] 3))
    have HC2 := hid (show (w1.alloc (.cells #[.int .i64 0] 3)).cell? ⟨w1.heap.size, 0, none⟩ = some (.int .i64 0) by simp)
    have HZ2 := hid (show w1.heap.size < (w1.alloc (.cells #[.int .i64 0] 3)).heap.size by simp)
    clear ho1 hb1 hg1
    go_wp2_with fail
    refine (Repeat_any 0 w1.heap.size (N - K) hNK12 _ HC2.out HZ2.out).mono ?_
    rintro e w2 ⟨rfl, ho2, hb2⟩
    obtain ⟨g2, hg2⟩ : ∃ g, g = (w1.alloc (.cells #[.int .i64 0] 3)).heap.size := ⟨_, rfl⟩
    rw [← hg2] at ho2 ⊢
    have hb12 := Below_chain HA2.out hb2
    have HO12 := hid (HO1.out.below hb12)
    have HO2 := hid (ho2.mono (show w.heap.size ≤ g2 by rw [hg2]; exact Nat.le_trans HB1.out.size HA2.out.size))
    have HB2 := hid (Below_chain HB1.out hb12)
    have HPR := hid (Sits_pair HO12.out.sits HO2.out.sits)
    have HA3 := hid ((Below.refl w2.heap.size w2).alloc (Nat.le_refl _) (.cells #[.slice (some ⟨g1, 0, none⟩) K K, .slice (some ⟨g2, 0, none⟩) (N - K) (N - K)] 28))
    clear ho2 hb2 hb12 hg2
    go_wp2_with fail
    refine (joined_is _ _ (coolF N K) N _ HPR.out HN2.out HFE.out (coolF_length N K) (by omega)).mono ?_
    rintro e w3 ⟨rfl, ho3, hb3⟩
    obtain ⟨g3, hg3⟩ : ∃ g, g = (w2.alloc (.cells #[.slice (some ⟨g1, 0, none⟩) K K, .slice (some ⟨g2, 0, none⟩) (N - K) (N - K)] 28)).heap.size := ⟨_, rfl⟩
    rw [← hg3] at ho3 ⊢
    have HO3 := hid (ho3.mono (show w.heap.size ≤ g3 by rw [hg3]; exact Nat.le_trans HB2.out.size HA3.out.size))
    have HB3 := hid (Below_chain HB2.out (Below_chain HA3.out hb3))
    have hs3 := HB3.out.size
    clear ho3 hb3 hg3
    go_wp2_with fail
    obtain ⟨w4, hw4⟩ : ∃ w4, w4 = w3.alloc (.cells #[.slice (some ⟨g3, 0, none⟩) N N] 28) := ⟨_, rfl⟩
    have hA4 : Below w3.heap.size w3 w4 := by rw [hw4]; exact (Below.refl _ _).alloc (Nat.le_refl _) _
    have HC4 := hid (show w4.cell? ⟨w3.heap.size, 0, none⟩ = some (.slice (some ⟨g3, 0, none⟩) N N) by rw [hw4]; simp)
    have HC4D := hid (show w4.drew.cell? ⟨w3.heap.size, 0, none⟩ = some (.slice (some ⟨g3, 0, none⟩) N N) from HC4.out)
    have HO4 := hid (show Own w4.drew w.heap.size (.slice (some ⟨g3, 0, none⟩) N N) (coolF N K) from (HO3.out.below hA4).below (Below.refl _ _).drew)
    have HB4 := hid (show Below w.heap.size w w4.drew from (Below_chain HB3.out hA4).drew)
    have HS4 := hid (show w.heap.size ≤ w4.drew.heap.size from HB4.out.size)
    have hB2 : B ≤ 2000 := by omega
    rw [← hw4]
    clear hA4 hw4
    go_region_held3 (fun w' => w'.cell? ⟨w3.heap.size, 0, none⟩ = some (.slice (some ⟨g3, 0, none⟩) N N))
      (first | exact HC4.out | exact HC5.out | go_keep | fail)
      (first
        | (go_at_call 37; refine (choose_any _ _ _ (by omega) (by omega)).mono ?_; rintro e w' ⟨rfl, rfl⟩; rw [HCH.out])
        | (go_at_call 36; refine (listFrom_cool N K hN hK g3 w.heap.size B ⟨w3.heap.size, 0, none⟩ _ HC4D.out HS4.out hB2 HO4.out).mono ?_; rintro e w5 ⟨u5, rfl, hu5, hb5⟩; have HU5 := hid hu5; have HB5 := hid (HB4.out.trans (hb5.mono HS4.out)); have HC5 := hid ((hb5.cell (p := ⟨w3.heap.size, 0, none⟩) (World.block_lt_of_cell? _ _ HC4D.out)).trans HC4D.out); clear hu5 hb5)
        | fail)
    all_goals
      go_wp2_with fail
      go_ret2
      exact ⟨_, rfl, by rw [HR.out]; exact HU5.out, HB5.out⟩
end Go.Proofs.Ytijjdidljoicfab
