/- Contract: joined, of slices of slices of ints. Conditions: the slice is not nil, and neither are its rows; at most 2^20 elements altogether. -/
import Derived.Test.YtijjdidljoicfaaJoin
namespace Go.Proofs.Ytijjdidljoicfaa
open Go.RowKit
set_option linter.unusedVariables false

/-- v is a slice that is not nil whose cells hold the values us -/
def SitsRow (w : World) (v : Value) (us : List Value) : Prop :=
  ∃ b off c, v = .slice (some ⟨b, off, none⟩) us.length c ∧ us.length ≤ c ∧ c ≤ 9223372036854775807 ∧ b < w.heap.size ∧ ∀ i (hi : i < us.length), w.cell? ⟨b, off + i, none⟩ = some us[i]
theorem sitsRow_below {w w' : World} {v : Value} {us : List Value} (h : SitsRow w v us) (hb : Below w.heap.size w w') : SitsRow w' v us := by
  obtain ⟨b, off, c, rfl, h1, h2, h3, h4⟩ := h
  exact ⟨b, off, c, rfl, h1, h2, Nat.lt_of_lt_of_le h3 hb.size, fun i hi => (hb.cell (by exact h3)).trans (h4 i hi)⟩
/-- v is a slice that is not nil of such slices -/
def SitsV (w : World) (v : Value) (P : List (List Value)) : Prop :=
  ∃ b off c, v = .slice (some ⟨b, off, none⟩) P.length c ∧ P.length ≤ c ∧ c ≤ 9223372036854775807 ∧ b < w.heap.size ∧ ∀ i (hi : i < P.length), ∃ u, w.cell? ⟨b, off + i, none⟩ = some u ∧ SitsRow w u P[i]
theorem src_vals {w : World} {b off : Nat} {us : List Value} (h : ∀ i (hi : i < us.length), w.cell? ⟨b, off + i, none⟩ = some us[i]) : ∀ (j : Nat) (u : Value), us[j]? = some u → w.cell? ((⟨b, off, none⟩ : Addr).add j) = some u := by
  intro j u hu
  by_cases hj : j < us.length
  · rw [List.getElem?_eq_getElem hj] at hu
    simp at hu
    subst hu
    rw [← h j hj]
    by_cases e : j = 0 <;> simp [Addr.add, e]
  · rw [List.getElem?_eq_none (by omega)] at hu; cases hu
theorem flatV_succ {P : List (List Value)} {k : Nat} (h : k < P.length) : (P.take (k + 1)).flatten = (P.take k).flatten ++ P[k] := by
  rw [List.take_succ_eq_append_getElem h, List.flatten_append]; simp
theorem flatV_le {P : List (List Value)} : ∀ k, (P.take k).flatten.length ≤ P.flatten.length := by
  intro k
  have h := List.take_append_drop k P
  have h2 := congrArg (fun x => x.flatten.length) h
  simp only [List.flatten_append, List.length_append] at h2
  omega
set_option maxHeartbeats 1000000 in
theorem joinedL_any (v : Value) (P : List (List Value)) (w : World) (h : SitsV w v P) (h1 : ∀ p ∈ P, ∀ u ∈ p, u.oneCell' = true) (hp : P.length ≤ 1048576) (ht : P.flatten.length ≤ 1048576) :
    Calls Try.prog 103 #[v] w fun e w' => e = .returned (.slice (some ⟨w.heap.size, 0, none⟩) P.flatten.length P.flatten.length) ∧ w'.ownsRow w.heap.size 22 1 (.slice (some ⟨w.heap.size, 0, none⟩) P.flatten.length P.flatten.length) P.flatten.length P.flatten ∧ Below w.heap.size w w' := by
  obtain ⟨i0, hi, hz0, hz1, hz2⟩ := info_parts Try.infoL
  have H1 := hid h1
  obtain ⟨g, off, c, rfl, hc1, hm, hg, hc⟩ := h
  obtain ⟨T, hT⟩ : ∃ T, T = P.flatten.length := ⟨_, rfl⟩
  have HT := hid hT
  rw [← hT] at ht ⊢
  obtain ⟨wm, hrun, hown0, hgrow0⟩ := run_make_own (P := Try.prog) w w.heap.size 28 22 i0 (.slice none 0 0) 1 Try.underlying28 hi hz0 hz1 .i64 .i64 T (by rw [hz2]; omega) (by unfold maxLen; omega) (Nat.le_refl _)
  have HO0 := hid (show wm.ownsRow w.heap.size 22 1 (.slice (some ⟨w.heap.size, 0, none⟩) 0 T) 0 [] from hown0)
  have HB0 := hid (Below.grown (Below.refl w.heap.size w) hgrow0 (Nat.le_refl _) (fun q hq => by cases hq))
  have HC := hid hc
  have HFL := hid (fun k => flatV_le (P := P) k)
  clear hown0 hgrow0 hc hT h1
  go_enter Try.func103, Try.ntmps103
  go_wp2_with fail
  go_loop [3, 5, 11] (fun lv _ i => ∃ k : Nat, k ≤ P.length ∧ i = .int .i64 k ∧ lv = .int .i64 ((P.take k).flatten.length : Nat)) (fun _ _ i => P.length - (intOf i).toNat)
  case atStart => exact ⟨0, Nat.zero_le _, rfl, rfl⟩
  case round =>
    obtain ⟨k, hk, rfl, rfl⟩ := hrel
    by_cases hlt : k < P.length
    · obtain ⟨z, hz, hsit⟩ := HC.out k hlt
      obtain ⟨l, hl⟩ : ∃ l, l = P[k] := ⟨_, rfl⟩
      have HN := hid (show (P.take (k + 1)).flatten.length = (P.take k).flatten.length + l.length by rw [flatV_succ hlt, List.length_append, hl])
      have hle := HFL.out (k + 1)
      rw [HN.out, ← HT.out] at hle
      rw [← hl] at hsit
      obtain ⟨bz, oz, cz, rfl, _, _, _, _⟩ := hsit
      obtain ⟨S, hS⟩ : ∃ S, S = (P.take k).flatten.length := ⟨_, rfl⟩
      rw [← hS] at HN hle ⊢
      clear hl hS
      go_wp2_with fail
      go_round
      case rel => exact ⟨k + 1, by omega, by go_num, by rw [HN.out]; go_num⟩
      case measure => simp [intOf]; omega
    · obtain rfl : k = P.length := by omega
      rw [List.take_length, ← HT.out]
      go_wp2_with fail
      clear hrun
      go_loopw [6, 8, 24] (fun ov _ i wr => ∃ k : Nat, k ≤ P.length ∧ i = .int .i64 k ∧ ov = .slice (some ⟨w.heap.size, 0, none⟩) (P.take k).flatten.length T ∧ wr.ownsRow w.heap.size 22 1 (.slice (some ⟨w.heap.size, 0, none⟩) (P.take k).flatten.length T) (P.take k).flatten.length (P.take k).flatten ∧ Below w.heap.size w wr) (fun _ _ i _ => P.length - (intOf i).toNat)
      case atStart => exact ⟨0, Nat.zero_le _, rfl, rfl, HO0.out, HB0.out⟩
      case round =>
        obtain ⟨k, hk, rfl, rfl, hown, hbel⟩ := hrel
        have HO := hid hown
        have HB := hid hbel
        have hsz := hbel.size
        by_cases hlt : k < P.length
        · obtain ⟨z, hz, hsit⟩ := HC.out k hlt
          have hcx : wr.cell? ⟨g, off + k, none⟩ = some z := (hbel.cell (by exact hg)).trans hz
          have hsit := sitsRow_below hsit hbel
          obtain ⟨l, hl⟩ : ∃ l, l = P[k] := ⟨_, rfl⟩
          have HL1 := hid (show ∀ u ∈ l, u.oneCell' = true by rw [hl]; exact H1.out _ (List.getElem_mem _))
          have HN := hid (show (P.take (k + 1)).flatten = (P.take k).flatten ++ l by rw [flatV_succ hlt, hl])
          have HNL := hid (show (P.take (k + 1)).flatten.length = (P.take k).flatten.length + l.length by rw [flatV_succ hlt, List.length_append, hl])
          have hle := HFL.out (k + 1)
          rw [HNL.out, ← HT.out] at hle
          rw [← hl] at hsit
          obtain ⟨bz, oz, cz, rfl, hz1', hz2', hz3', hzc⟩ := hsit
          obtain ⟨S, hS⟩ : ∃ S, S = (P.take k).flatten := ⟨_, rfl⟩
          rw [← hS] at HO HN HNL hle ⊢
          have HSRC := hid (src_vals hzc)
          have HONE := hid (show ∀ u ∈ l, u.oneCell' = true from HL1.out)
          clear hl hS hz hown hbel hzc
          go_wp2_with (first
            | (at_builtin; refine wpList_append_own_spare _ rfl _ _ 28 rfl w.heap.size 22 i0 1 Try.underlying28 hi hz1 w.heap.size S.length T _ rfl HO.out ⟨bz, oz, none⟩ l.length cz l rfl (by simp) HSRC.out HONE.out (by omega) ?_; intro w1 hown1 hgrow1; have HO1 := hid hown1; have HB1 := hid (HB.out.grown hgrow1 hsz (fun q hq => by cases hq; exact Nat.le_refl _)); clear hown1 hgrow1)
            | fail)
          go_roundw
          case rel => exact ⟨k + 1, by omega, by go_num, by rw [HNL.out], by rw [HNL.out, HN.out]; exact HO1.out, HB1.out⟩
          case measure => simp [intOf]; omega
        · obtain rfl : k = P.length := by omega
          rw [List.take_length, ← HT.out] at HO ⊢
          clear hown hbel
          go_wp2_with fail
          go_ret
          exact ⟨rfl, HO.out, HB.out⟩
theorem joinedL_is (v : Value) (P : List (List Value)) (F : List Value) (n : Nat) (w : World) (h : SitsV w v P) (h1 : ∀ p ∈ P, ∀ u ∈ p, u.oneCell' = true) (hp : P.length ≤ 1048576) (hF : P.flatten = F) (hn : F.length = n) (ht : n ≤ 1048576) :
    Calls Try.prog 103 #[v] w fun e w' => e = .returned (.slice (some ⟨w.heap.size, 0, none⟩) n n) ∧ w'.ownsRow w.heap.size 22 1 (.slice (some ⟨w.heap.size, 0, none⟩) n n) n F ∧ Below w.heap.size w w' := by
  subst hF hn
  exact joinedL_any v P w h h1 hp ht
end Go.Proofs.Ytijjdidljoicfaa
