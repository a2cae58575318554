/- Contract: joined, of slices of ints. Conditions: the slice is not nil, and neither are its rows; at most 2^20 numbers altogether. -/
import Derived.Test.YtlkhkecnghpokabSSL
import Derived.Test.YtlkhkecnghpokabBs2
import Derived.Deep.DeepAppendRoom
namespace Go.Proofs.Ytlkhkecnghpokab
open Go.RowKit
set_option linter.unusedVariables false

theorem flat_succ {P : List (List Int)} {k : Nat} (h : k < P.length) : (P.take (k + 1)).flatten = (P.take k).flatten ++ P[k] := by
  rw [List.take_succ_eq_append_getElem h, List.flatten_append]; simp
theorem flat_le {P : List (List Int)} : ∀ k, (P.take k).flatten.length ≤ P.flatten.length := by
  intro k
  have h := List.take_append_drop k P
  have h2 := congrArg (fun x => x.flatten.length) h
  simp only [List.flatten_append, List.length_append] at h2
  omega
set_option maxHeartbeats 1000000 in
theorem joined_any (v : Value) (P : List (List Int)) (w : World) (h : SitsL w v P) (hp : P.length ≤ 1048576) (ht : P.flatten.length ≤ 1048576) :
    Calls Try.prog 93 #[v] w fun e w' => e = .returned (.slice (some ⟨w.heap.size, 0, none⟩) P.flatten.length P.flatten.length) ∧ Own w' w.heap.size (.slice (some ⟨w.heap.size, 0, none⟩) P.flatten.length P.flatten.length) P.flatten ∧ Below w.heap.size w w' := by
  obtain ⟨i0, hi, hz0, hz1, hz2⟩ := info_parts Try.info3
  obtain ⟨g, off, c, rfl, hc1, hm, hg, hc⟩ := h
  obtain ⟨T, hT⟩ : ∃ T, T = P.flatten.length := ⟨_, rfl⟩
  have HT := hid hT
  rw [← hT] at ht ⊢
  obtain ⟨wm, hrun, hown0, hgrow0⟩ := run_make_own (P := Try.prog) w w.heap.size 22 3 i0 (.int .i64 0) 1 Try.underlying22 hi hz0 hz1 .i64 .i64 T (by rw [hz2]; omega) (by unfold maxLen; omega) (Nat.le_refl _)
  have HO0 := hid (show Own wm w.heap.size (.slice (some ⟨w.heap.size, 0, none⟩) 0 T) [] from hown0)
  have HB0 := hid (Below.grown (Below.refl w.heap.size w) hgrow0 (Nat.le_refl _) (fun q hq => by cases hq))
  have HC := hid hc
  have HFL := hid (fun k => flat_le (P := P) k)
  clear hown0 hgrow0 hc hT
  go_enter Try.func93, Try.ntmps93
  go_wp2_with fail
  go_loop [3, 5, 11] (fun lv _ i => ∃ k : Nat, k ≤ P.length ∧ i = .int .i64 k ∧ lv = .int .i64 ((P.take k).flatten.length : Nat)) (fun _ _ i => P.length - (intOf i).toNat)
  case atStart => exact ⟨0, Nat.zero_le _, rfl, rfl⟩
  case round =>
    obtain ⟨k, hk, rfl, rfl⟩ := hrel
    by_cases hlt : k < P.length
    · obtain ⟨z, hz, hsit⟩ := HC.out k hlt
      obtain ⟨l, hl⟩ : ∃ l, l = P[k] := ⟨_, rfl⟩
      have HN := hid (show (P.take (k + 1)).flatten.length = (P.take k).flatten.length + l.length by rw [flat_succ hlt, List.length_append, hl])
      have hle := HFL.out (k + 1)
      rw [HN.out, ← HT.out] at hle
      rw [← hl] at hsit
      obtain ⟨bz, oz, cz, rfl, _, _, _, _⟩ := hsit
      obtain ⟨S, hS⟩ : ∃ S, S = (P.take k).flatten.length := ⟨_, rfl⟩
      rw [← hS] at HN hle ⊢
      clear hl hS
      go_wp2_with fail
      go_round
      case rel => exact ⟨k + 1, by omega, by go_num, by rw [HN.out]; go_num⟩
      case measure => simp [intOf]; omega
    · obtain rfl : k = P.length := by omega
      rw [List.take_length, ← HT.out]
      go_wp2_with fail
      clear hrun
      go_loopw [6, 8, 24] (fun ov _ i wr => ∃ k : Nat, k ≤ P.length ∧ i = .int .i64 k ∧ ov = .slice (some ⟨w.heap.size, 0, none⟩) (P.take k).flatten.length T ∧ Own wr w.heap.size (.slice (some ⟨w.heap.size, 0, none⟩) (P.take k).flatten.length T) (P.take k).flatten ∧ Below w.heap.size w wr) (fun _ _ i _ => P.length - (intOf i).toNat)
      case atStart => exact ⟨0, Nat.zero_le _, rfl, rfl, HO0.out, HB0.out⟩
      case round =>
        obtain ⟨k, hk, rfl, rfl, hown, hbel⟩ := hrel
        have HO := hid hown
        have HB := hid hbel
        have hsz := hbel.size
        by_cases hlt : k < P.length
        · obtain ⟨z, hz, hsit⟩ := HC.out k hlt
          have hcx : wr.cell? ⟨g, off + k, none⟩ = some z := (hbel.cell (by exact hg)).trans hz
          have hsit := hsit.below hbel
          obtain ⟨l, hl⟩ : ∃ l, l = P[k] := ⟨_, rfl⟩
          have HN := hid (show (P.take (k + 1)).flatten = (P.take k).flatten ++ l by rw [flat_succ hlt, hl])
          have HNL := hid (show (P.take (k + 1)).flatten.length = (P.take k).flatten.length + l.length by rw [flat_succ hlt, List.length_append, hl])
          have hle := HFL.out (k + 1)
          rw [HNL.out, ← HT.out] at hle
          rw [← hl] at hsit
          obtain ⟨bz, oz, cz, rfl, hz1', hz2', hz3', hzc⟩ := hsit
          obtain ⟨S, hS⟩ : ∃ S, S = (P.take k).flatten := ⟨_, rfl⟩
          rw [← hS] at HO HN HNL hle ⊢
          have HSRC := hid (show ∀ (j : Nat) (u : Value), (l.map (Value.int .i64))[j]? = some u → wr.cell? ((⟨bz, oz, none⟩ : Addr).add j) = some u from Sits.src (n := 0) (c := 0) hzc)
          clear hl hS hz hown hbel hzc
          go_wp2_with (first
            | (at_builtin; refine wpList_append_own_spare _ rfl _ _ 22 rfl w.heap.size 3 i0 1 Try.underlying22 hi hz1 w.heap.size S.length T _ rfl HO.out.row ⟨bz, oz, none⟩ l.length cz (l.map (Value.int .i64)) rfl (by simp) HSRC.out (ints_one l) (by omega) ?_; intro w1 hown1 hgrow1; have HO1 := hid (show Own w1 w.heap.size (.slice (some ⟨w.heap.size, 0, none⟩) (S.length + l.length) T) (S ++ l) by unfold Own; rw [List.length_append, List.map_append]; exact hown1); have HB1 := hid (HB.out.grown hgrow1 hsz (fun q hq => by cases hq; exact Nat.le_refl _)); clear hown1 hgrow1)
            | fail)
          go_roundw
          case rel => exact ⟨k + 1, by omega, by go_num, by rw [HNL.out], by rw [HNL.out, HN.out]; exact HO1.out, HB1.out⟩
          case measure => simp [intOf]; omega
        · obtain rfl : k = P.length := by omega
          rw [List.take_length, ← HT.out] at HO ⊢
          clear hown hbel
          go_wp2_with fail
          go_ret
          exact ⟨rfl, HO.out, HB.out⟩
theorem joined_is (v : Value) (P : List (List Int)) (F : List Int) (n : Nat) (w : World) (h : SitsL w v P) (hp : P.length ≤ 1048576) (hF : P.flatten = F) (hn : F.length = n) (ht : n ≤ 1048576) :
    Calls Try.prog 93 #[v] w fun e w' => e = .returned (.slice (some ⟨w.heap.size, 0, none⟩) n n) ∧ Own w' w.heap.size (.slice (some ⟨w.heap.size, 0, none⟩) n n) F ∧ Below w.heap.size w w' := by
  subst hF hn
  exact joined_any v P w h hp ht
end Go.Proofs.Ytlkhkecnghpokab
