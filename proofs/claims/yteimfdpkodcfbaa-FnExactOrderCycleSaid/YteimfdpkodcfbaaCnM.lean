/- Contract: suCount, the word with an index. Conditions: at most 2^20 numbers, the base positive. -/
import Derived.Test.YteimfdpkodcfbaaOrM
import Derived.Test.YteimfdpkodcfbaaPush0
namespace Go.Proofs.Yteimfdpkodcfbaa
open Go.RowKit
set_option linter.unusedVariables false
set_option maxRecDepth 4000

/-- the word with the index k among all of s numbers less than b -/
def cntL (b : Nat) : Nat → Nat → List Int
  | 0, _ => []
  | s + 1, k => cntL b s (k / b) ++ [((k % b : Nat) : Int)]
theorem cntL_length (b : Nat) : ∀ s k, (cntL b s k).length = s
  | 0, _ => rfl
  | s + 1, k => by rw [cntL, List.length_append, cntL_length b s]; rfl
/-- the last s' numbers are known, the first s ones have the index x -/
structure CntI (F : List Int) (b s x : Nat) : Prop where
  take : F.take s = cntL b s x
  le : s ≤ F.length
theorem CntI.start (b s k : Nat) : CntI (cntL b s k) b s k := ⟨by rw [List.take_of_length_le (by rw [cntL_length]; exact Nat.le_refl _)], by rw [cntL_length]; exact Nat.le_refl _⟩
theorem CntI.next {F : List Int} {b s x : Nat} (h : CntI F b (s + 1) x) : CntI F b s (x / b) ∧ F.getD s 0 = ((x % b : Nat) : Int) := by
  have h1 := h.take
  have h2 := h.le
  rw [List.take_succ_eq_append_getElem (by omega), cntL] at h1
  have h3 := List.append_inj h1 (by rw [List.length_take, cntL_length]; omega)
  exact ⟨⟨h3.1, by omega⟩, by rw [getD_at (by omega)]; simpa using h3.2⟩
theorem suCount_any (s b k : Nat) (w : World) (hs : s ≤ 1048576) (hb : 1 ≤ b) (hb2 : b ≤ 1048576) (hk : k ≤ 1048576) :
    Calls Try.prog 100 #[.int .i64 (s : Int), .int .i64 (b : Int), .int .i64 (k : Int)] w fun e w' => e = .returned (.slice (some ⟨w.heap.size, 0, none⟩) s s) ∧ Own w' w.heap.size (.slice (some ⟨w.heap.size, 0, none⟩) s s) (cntL b s k) ∧ Below w.heap.size w w' := by
  have hmk := run_make_ints s hs w
  have HM := hid (World.rowIs_made w (.int .i64 0) s 3)
  have HB0 := hid ((Below.refl w.heap.size w).alloc (Nat.le_refl _) (.cells (madeCells #[.int .i64 0] s) 3))
  have HST := hid (CntI.start b s k)
  have HLN := hid (cntL_length b s k)
  obtain ⟨F, hF⟩ : ∃ F, F = cntL b s k := ⟨_, rfl⟩
  rw [← hF] at HST HLN ⊢
  clear hF
  have hbz : ¬ (b : Int) = 0 := by omega
  have hbz2 : ((b : Int) == 0) = false := beq_eq_false_iff_ne.2 hbz
  go_enter Try.func100, Try.ntmps100
  go_wp2_with fail
  clear hmk
  go_loopw [2, 8] (fun x i wr => ∃ (z : Int) (t q : Nat), i = .int .i64 z ∧ z + 1 = (t : Int) ∧ x = .int .i64 (q : Int) ∧ q ≤ 1048576 ∧ CntI F b t q ∧ wr.rowIs w.heap.size 3 s (fun j => .int .i64 (if t ≤ j then F.getD j 0 else 0)) ∧ Below w.heap.size w wr) (fun _ i _ => match i with | .int _ z => (z + 1).toNat | _ => 0)
  case atStart => exact ⟨(s : Int) - 1, s, k, rfl, by omega, rfl, hk, HST.out, HM.out.congr (fun j hj => by rw [if_neg (by omega)]), HB0.out⟩
  case round =>
    obtain ⟨z, t, q, rfl, hz, rfl, hq, hinv, hrow, hbel⟩ := hrel
    by_cases h0 : t = 0
    · subst h0
      obtain rfl : z = -1 := by omega
      have HOW := hid (Own.of_rowIs (xs := F) (hrow.congr (fun j hj => by rw [if_pos (Nat.zero_le _)])) HLN.out (by unfold maxLen; omega))
      have HB := hid hbel
      clear hrow hbel hinv hz
      go_wp2_with fail
      go_ret
      exact ⟨rfl, HOW.out, HB.out⟩
    · obtain ⟨t1, rfl⟩ : ∃ t1, t = t1 + 1 := ⟨t - 1, by omega⟩
      obtain rfl : z = (t1 : Int) := by omega
      have hle := hinv.le
      rw [HLN.out] at hle
      obtain ⟨hnx, hgd⟩ := hinv.next
      have HNX := hid hnx
      have hqd : q / b ≤ 1048576 := Nat.le_trans (Nat.div_le_self _ _) hq
      obtain ⟨Q, hQ⟩ : ∃ Q, Q = q / b := ⟨_, rfl⟩
      obtain ⟨R, hR⟩ : ∃ R, R = q % b := ⟨_, rfl⟩
      have hRl : R < b := by rw [hR]; exact Nat.mod_lt _ (by omega)
      have u1 : (q : Int).tdiv (b : Int) = (Q : Int) := by rw [Int.tdiv_eq_ediv_of_nonneg (Int.natCast_nonneg q), ← Int.natCast_ediv, hQ]
      have u2 : (q : Int).tmod (b : Int) = (R : Int) := by rw [Int.tmod_eq_emod_of_nonneg (Int.natCast_nonneg q), ← Int.natCast_emod, hR]
      have u3 : (q : Int) / (b : Int) = (Q : Int) := by rw [← Int.natCast_ediv, hQ]
      have u4 : (q : Int) % (b : Int) = (R : Int) := by rw [← Int.natCast_emod, hR]
      have u5 : IntKind.i64.wrap (Q : Int) = (Q : Int) := IntWalk.i64_in _ (by omega)
      have u6 : IntKind.i64.wrap (R : Int) = (R : Int) := IntWalk.i64_in _ (by omega)
      rw [← hQ] at hqd HNX
      rw [← hR] at hgd
      have HGD := hid hgd
      have hts : t1 < s := by omega
      have hf := hrow.frozen t1
      have hcc := hrow.cell hts
      have HS2 := hid (hrow.set t1 (.int .i64 (R : Int)))
      have HB2 := hid (hbel.setCell (p := ⟨w.heap.size, t1, none⟩) (Nat.le_refl _) (.int .i64 (R : Int)))
      obtain ⟨y, hy⟩ : ∃ y, wr.cell? ⟨w.heap.size, t1, none⟩ = some y := ⟨_, hcc⟩
      clear hrow hbel hinv hz hle hnx hgd hQ hR hcc h0
      go_wp2_with fail
      go_roundw
      case rel => exact ⟨(t1 : Int) - 1, t1, Q, by go_num, by omega, rfl, hqd, HNX.out, HS2.out.congr (fun j hj => by
        by_cases h1 : j = t1
        · subst h1; rw [if_pos rfl, if_pos (Nat.le_refl _), HGD.out]
        · rw [if_neg h1]
          by_cases h2 : t1 + 1 ≤ j
          · rw [if_pos h2, if_pos (by omega)]
          · rw [if_neg h2, if_neg (by omega)]), HB2.out⟩
      case measure => simp
end Go.Proofs.Yteimfdpkodcfbaa
