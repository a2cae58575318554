/- Contract: joined, of slices of ints, nil ones too. Conditions: the slice of slices is not nil; at most 2^20 numbers altogether. -/
import Derived.Test.YtlkhkecnghpokabJoin
namespace Go.Proofs.Ytlkhkecnghpokab
open Go.RowKit
set_option linter.unusedVariables false
set_option maxRecDepth 4000

/-- u is nil, or a slice that is not nil and reads as l. -/
def RdN (w : World) (u : Value) (l : List Int) : Prop := (u = .slice none 0 0 ∧ l = []) ∨ Sits w u l
theorem RdN.below {w w' : World} {u : Value} {l : List Int} (h : RdN w u l) (hb : Below w.heap.size w w') : RdN w' u l := h.imp_right (fun h => h.below hb)
theorem RdN.shp {w : World} {u : Value} {l : List Int} (h : RdN w u l) : ∃ ao c, u = .slice ao l.length c ∧ l.length ≤ c ∧ c ≤ 9223372036854775807 := by
  rcases h with ⟨rfl, rfl⟩ | ⟨b, off, c, rfl, h1, h2, _⟩
  · exact ⟨none, 0, rfl, Nat.le_refl _, by omega⟩
  · exact ⟨_, c, rfl, h1, h2⟩
theorem Own.rdN {w : World} {B : Nat} {u : Value} {l : List Int} (h : Own w B u l) : RdN w u l := by
  rcases h.form with h1 | ⟨g, cap, rfl, _, hlt, h1, h2, hc, _⟩
  · exact .inl h1
  · exact .inr ⟨g, 0, cap, rfl, h1, by unfold maxLen at h2; omega, hlt, fun i hi => by rw [hc i hi, getD_at hi]⟩
theorem RdN.reads {w : World} {u : Value} {l : List Int} (h : RdN w u l) : Reads w u l := by
  rcases h with ⟨rfl, rfl⟩ | h
  · exact (Own.nil w 0).reads
  · exact h.reads
/-- v is a slice that is not nil of slices, and reads as L. -/
def RdL (w : World) (v : Value) (L : List (List Int)) : Prop :=
  ∃ b off c, v = .slice (some ⟨b, off, none⟩) L.length c ∧ L.length ≤ c ∧ c ≤ 9223372036854775807 ∧ b < w.heap.size ∧ ∀ i (hi : i < L.length), ∃ u, w.cell? ⟨b, off + i, none⟩ = some u ∧ RdN w u L[i]
theorem RdL.below {w w' : World} {v : Value} {L : List (List Int)} (h : RdL w v L) (hb : Below w.heap.size w w') : RdL w' v L := by
  obtain ⟨b, off, c, rfl, h1, h2, h3, h4⟩ := h
  refine ⟨b, off, c, rfl, h1, h2, Nat.lt_of_lt_of_le h3 hb.size, fun i hi => ?_⟩
  obtain ⟨u, hu, hs⟩ := h4 i hi
  exact ⟨u, (hb.cell (by exact h3)).trans hu, hs.below hb⟩
theorem RdL_two {w : World} {u1 u2 : Value} {a b : List Int} (h1 : RdN w u1 a) (h2 : RdN w u2 b) :
    RdL (w.alloc (.cells #[u1, u2] 22)) (.slice (some ⟨w.heap.size, 0, none⟩) 2 2) [a, b] := by
  have hb : Below w.heap.size w (w.alloc (.cells #[u1, u2] 22)) := (Below.refl _ _).alloc (Nat.le_refl _) _
  refine ⟨w.heap.size, 0, 2, rfl, Nat.le_refl _, by omega, by simp, fun i hi => ?_⟩
  match i, hi with
  | 0, _ => exact ⟨u1, by simp, h1.below hb⟩
  | 1, _ => exact ⟨u2, by simp, h2.below hb⟩
theorem RdL_three {w : World} {u1 u2 u3 : Value} {a b c : List Int} (h1 : RdN w u1 a) (h2 : RdN w u2 b) (h3 : RdN w u3 c) :
    RdL (w.alloc (.cells #[u1, u2, u3] 22)) (.slice (some ⟨w.heap.size, 0, none⟩) 3 3) [a, b, c] := by
  have hb : Below w.heap.size w (w.alloc (.cells #[u1, u2, u3] 22)) := (Below.refl _ _).alloc (Nat.le_refl _) _
  refine ⟨w.heap.size, 0, 3, rfl, Nat.le_refl _, by omega, by simp, fun i hi => ?_⟩
  match i, hi with
  | 0, _ => exact ⟨u1, by simp, h1.below hb⟩
  | 1, _ => exact ⟨u2, by simp, h2.below hb⟩
  | 2, _ => exact ⟨u3, by simp, h3.below hb⟩
theorem wpList_append_none9 {P : Program} {w : World} {ops : Array Oper} {rest : List Oper} {o : Oper} {a : Act} {Q : Exit → Act → World → Prop} (hgd : o.guard = none) (s x : Operand) (t : TypeId)
    (ho : o.op = .call { callee := .builtin .append, args := #[s, x], argTypes := #[t, t] }) (base : Nat) (e : TypeId) (i : TypeInfo) (size : Nat) (ht : P.underlying t = some (.slice e)) (hi : P.info? e = some i)
    (v : Value) (n : Nat) (xs : List Value) (hs : a.eval s = v) (hown : w.ownsRow base e size v n xs) (hx : a.eval x = .slice none 0 0) (h : wpList P ops Q rest (a.put o.dst v) w) : wpList P ops Q (o :: rest) a w := by
  refine wpList_plain hgd fun K hK => ?_
  exact wp_append_none s x t ho base e i size ht hi v n xs hs hown hx (hK _ _ h)
set_option maxHeartbeats 1000000 in
theorem joinedR_any (v : Value) (P : List (List Int)) (w : World) (h : RdL w v P) (hp : P.length ≤ 1048576) (ht : P.flatten.length ≤ 1048576) :
    Calls Try.prog 93 #[v] w fun e w' => e = .returned (.slice (some ⟨w.heap.size, 0, none⟩) P.flatten.length P.flatten.length) ∧ Own w' w.heap.size (.slice (some ⟨w.heap.size, 0, none⟩) P.flatten.length P.flatten.length) P.flatten ∧ Below w.heap.size w w' := by
  obtain ⟨i0, hi, hz0, hz1, hz2⟩ := info_parts Try.info3
  obtain ⟨g, off, c, rfl, hc1, hm, hg, hc⟩ := h
  obtain ⟨T, hT⟩ : ∃ T, T = P.flatten.length := ⟨_, rfl⟩
  have HT := hid hT
  rw [← hT] at ht ⊢
  obtain ⟨wm, hrun, hown0, hgrow0⟩ := run_make_own (P := Try.prog) w w.heap.size 22 3 i0 (.int .i64 0) 1 Try.underlying22 hi hz0 hz1 .i64 .i64 T (by rw [hz2]; omega) (by unfold maxLen; omega) (Nat.le_refl _)
  have HO0 := hid (show Own wm w.heap.size (.slice (some ⟨w.heap.size, 0, none⟩) 0 T) [] from hown0)
  have HB0 := hid (Below.grown (Below.refl w.heap.size w) hgrow0 (Nat.le_refl _) (fun q hq => by cases hq))
  have HC := hid hc
  have HFL := hid (fun k => flat_le (P := P) k)
  clear hown0 hgrow0 hc hT
  go_enter Try.func93, Try.ntmps93
  go_wp2_with fail
  go_loop [3, 5, 11] (fun lv _ i => ∃ k : Nat, k ≤ P.length ∧ i = .int .i64 k ∧ lv = .int .i64 ((P.take k).flatten.length : Nat)) (fun _ _ i => P.length - (intOf i).toNat)
  case atStart => exact ⟨0, Nat.zero_le _, rfl, rfl⟩
  case round =>
    obtain ⟨k, hk, rfl, rfl⟩ := hrel
    by_cases hlt : k < P.length
    · obtain ⟨z, hz, hsit⟩ := HC.out k hlt
      obtain ⟨l, hl⟩ : ∃ l, l = P[k] := ⟨_, rfl⟩
      have HN := hid (show (P.take (k + 1)).flatten.length = (P.take k).flatten.length + l.length by rw [flat_succ hlt, List.length_append, hl])
      have hle := HFL.out (k + 1)
      rw [HN.out, ← HT.out] at hle
      rw [← hl] at hsit
      obtain ⟨az, cz, rfl, _, _⟩ := hsit.shp
      obtain ⟨S, hS⟩ : ∃ S, S = (P.take k).flatten.length := ⟨_, rfl⟩
      rw [← hS] at HN hle ⊢
      clear hl hS
      go_wp2_with fail
      go_round
      case rel => exact ⟨k + 1, by omega, by go_num, by rw [HN.out]; go_num⟩
      case measure => simp [intOf]; omega
    · obtain rfl : k = P.length := by omega
      rw [List.take_length, ← HT.out]
      go_wp2_with fail
      clear hrun
      go_loopw [6, 8, 24] (fun ov _ i wr => ∃ k : Nat, k ≤ P.length ∧ i = .int .i64 k ∧ ov = .slice (some ⟨w.heap.size, 0, none⟩) (P.take k).flatten.length T ∧ Own wr w.heap.size (.slice (some ⟨w.heap.size, 0, none⟩) (P.take k).flatten.length T) (P.take k).flatten ∧ Below w.heap.size w wr) (fun _ _ i _ => P.length - (intOf i).toNat)
      case atStart => exact ⟨0, Nat.zero_le _, rfl, rfl, HO0.out, HB0.out⟩
      case round =>
        obtain ⟨k, hk, rfl, rfl, hown, hbel⟩ := hrel
        have HO := hid hown
        have HB := hid hbel
        have hsz := hbel.size
        by_cases hlt : k < P.length
        · obtain ⟨z, hz, hsit⟩ := HC.out k hlt
          have hcx : wr.cell? ⟨g, off + k, none⟩ = some z := (hbel.cell (by exact hg)).trans hz
          have hsit := hsit.below hbel
          obtain ⟨l, hl⟩ : ∃ l, l = P[k] := ⟨_, rfl⟩
          have HN := hid (show (P.take (k + 1)).flatten = (P.take k).flatten ++ l by rw [flat_succ hlt, hl])
          have HNL := hid (show (P.take (k + 1)).flatten.length = (P.take k).flatten.length + l.length by rw [flat_succ hlt, List.length_append, hl])
          have hle := HFL.out (k + 1)
          rw [HNL.out, ← HT.out] at hle
          rw [← hl] at hsit
          rcases hsit with ⟨rfl, rfl⟩ | ⟨bz, oz, cz, rfl, hz1', hz2', hz3', hzc⟩
          · rw [show ([] : List Int).length = 0 from rfl] at HNL hle
            obtain ⟨S, hS⟩ : ∃ S, S = (P.take k).flatten := ⟨_, rfl⟩
            rw [← hS] at HO HN HNL hle ⊢
            rw [List.append_nil] at HN
            clear hl hS hz hown hbel hle
            go_wp2_with (first
              | (at_builtin; (refine wpList_append_none9 rfl _ _ 22 rfl w.heap.size 3 i0 1 Try.underlying22 hi _ S.length _ rfl HO.out.row rfl ?_))
              | fail)
            go_roundw
            case rel => exact ⟨k + 1, by omega, by go_num, by rw [HN.out], by rw [HN.out]; exact HO.out, HB.out⟩
            case measure => simp [intOf]; omega
          · obtain ⟨S, hS⟩ : ∃ S, S = (P.take k).flatten := ⟨_, rfl⟩
            rw [← hS] at HO HN HNL hle ⊢
            have HSRC := hid (show ∀ (j : Nat) (u : Value), (l.map (Value.int .i64))[j]? = some u → wr.cell? ((⟨bz, oz, none⟩ : Addr).add j) = some u from Sits.src (n := 0) (c := 0) hzc)
            clear hl hS hz hown hbel hzc
            go_wp2_with (first
              | (at_builtin; refine wpList_append_own_spare _ rfl _ _ 22 rfl w.heap.size 3 i0 1 Try.underlying22 hi hz1 w.heap.size S.length T _ rfl HO.out.row ⟨bz, oz, none⟩ l.length cz (l.map (Value.int .i64)) rfl (by simp) HSRC.out (ints_one l) (by omega) ?_; intro w1 hown1 hgrow1; have HO1 := hid (show Own w1 w.heap.size (.slice (some ⟨w.heap.size, 0, none⟩) (S.length + l.length) T) (S ++ l) by unfold Own; rw [List.length_append, List.map_append]; exact hown1); have HB1 := hid (HB.out.grown hgrow1 hsz (fun q hq => by cases hq; exact Nat.le_refl _)); clear hown1 hgrow1)
              | fail)
            go_roundw
            case rel => exact ⟨k + 1, by omega, by go_num, by rw [HNL.out], by rw [HNL.out, HN.out]; exact HO1.out, HB1.out⟩
            case measure => simp [intOf]; omega
        · obtain rfl : k = P.length := by omega
          rw [List.take_length, ← HT.out] at HO ⊢
          clear hown hbel
          go_wp2_with fail
          go_ret
          exact ⟨rfl, HO.out, HB.out⟩
theorem joinedR_is (v : Value) (P : List (List Int)) (F : List Int) (n : Nat) (w : World) (h : RdL w v P) (hp : P.length ≤ 1048576) (hF : P.flatten = F) (hn : F.length = n) (ht : n ≤ 1048576) :
    Calls Try.prog 93 #[v] w fun e w' => e = .returned (.slice (some ⟨w.heap.size, 0, none⟩) n n) ∧ Own w' w.heap.size (.slice (some ⟨w.heap.size, 0, none⟩) n n) F ∧ Below w.heap.size w w' := by
  subst hF hn
  exact joinedR_any v P w h hp ht
end Go.Proofs.Ytlkhkecnghpokab
