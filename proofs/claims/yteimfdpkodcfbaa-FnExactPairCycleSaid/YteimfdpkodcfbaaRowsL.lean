/- Slices of slices of ints that came in, as lists of lists; contracts: szIntS, szIntSS. Conditions: the slices read as lists (of lists). -/
import Derived.Test.YteimfdpkodcfbaaBs1
import Derived.Deep.Matrix
namespace Go.Proofs.Yteimfdpkodcfbaa
open Go.RowKit
set_option linter.unusedVariables false

/-- v is a slice whose elements are slices that read as the lists of L; they may share memory. -/
def ReadsL (w : World) (v : Value) (L : List (List Int)) : Prop :=
  ∃ ao c, v = .slice ao L.length c ∧ L.length ≤ c ∧ c ≤ maxLen ∧
    (L = [] ∨ ∃ b off, ao = some ⟨b, off, none⟩ ∧ b < w.heap.size ∧ ∀ i (hi : i < L.length), ∃ u, w.cell? ⟨b, off + i, none⟩ = some u ∧ Reads w u L[i])
theorem ReadsL.below {w w' : World} {v : Value} {L : List (List Int)} (h : ReadsL w v L) (hb : Below w.heap.size w w') : ReadsL w' v L := by
  obtain ⟨ao, c, rfl, h1, h2, h⟩ := h
  refine ⟨ao, c, rfl, h1, h2, ?_⟩
  rcases h with h | ⟨b, off, rfl, h3, h4⟩
  · exact .inl h
  · refine .inr ⟨b, off, rfl, Nat.lt_of_lt_of_le h3 hb.size, fun i hi => ?_⟩
    obtain ⟨u, hu, hr⟩ := h4 i hi
    exact ⟨u, (hb.cell (by exact h3)).trans hu, hr.below hb⟩
theorem szIntS_any (v : Value) (xs : List Int) (m : Int) (w : World) (h : Reads w v xs) (h0 : 0 ≤ m) (h1 : m ≤ 1073741824) :
    Calls Try.prog 146 #[v, .int .i64 m] w fun e w' => e = .returned (.int .i64 (if (xs.length : Int) ≤ m then m - xs.length else -1)) ∧ w = w' := by
  obtain ⟨ao, c, rfl, hc1, hm, h⟩ := h.view
  clear h
  by_cases hle : (xs.length : Int) ≤ m
  · have HE := hid (show (if (xs.length : Int) ≤ m then m - xs.length else -1) = m - xs.length from if_pos hle)
    go_enter Try.func146, Try.ntmps146
    go_wp2
    go_ret
    exact ⟨rfl, rfl⟩
  · have HE := hid (show (if (xs.length : Int) ≤ m then m - xs.length else -1) = -1 from if_neg hle)
    go_enter Try.func146, Try.ntmps146
    go_wp2
    go_ret
    exact ⟨rfl, rfl⟩
theorem szIntSS_any (v : Value) (L : List (List Int)) (m : Int) (w : World) (h : ReadsL w v L) (h0 : 0 ≤ m) (h1 : m ≤ 1073741824) :
    Calls Try.prog 102 #[v, .int .i64 m] w fun e w' => ∃ q : Int, e = .returned (.int .i64 q) ∧ w = w' ∧ q ≤ m ∧ (0 ≤ q → (L.length : Int) ≤ m ∧ ∀ i (hi : i < L.length), (L[i].length : Int) ≤ m) := by
  obtain ⟨ao, c, rfl, hc1, hm, h⟩ := h
  unfold maxLen at hm
  by_cases hle : (L.length : Int) ≤ m
  · rcases h with h | ⟨b, off, rfl, hb, hc⟩
    · subst h
      go_enter Try.func102, Try.ntmps102
      go_wp2
      refine wp_loop_rounds 1 ?_
      rw [rounds_succ]
      go_wp2
      go_ret
      exact ⟨_, rfl, rfl, by simp, fun _ => ⟨hle, fun i hi => absurd hi (by simp)⟩⟩
    · have HC := hid hc
      clear hc
      go_enter Try.func102, Try.ntmps102
      go_wp2_with fail
      go_loop [1, 5] (fun q i => ∃ (t : Nat) (p : Int), t ≤ L.length ∧ i = .int .i64 t ∧ q = .int .i64 p ∧ 0 ≤ p ∧ p ≤ m ∧ ∀ j (hj : j < L.length), j < t → (L[j].length : Int) ≤ m) (fun _ i => L.length - (intOf i).toNat)
      case atStart => exact ⟨0, m - L.length, Nat.zero_le _, rfl, by first | rfl | go_num, by omega, by omega, fun j _ hj => absurd hj (by omega)⟩
      case round =>
        obtain ⟨t, p, ht, rfl, rfl, hp0, hpm, hall⟩ := hrel
        have HALL := hid hall
        clear hall
        by_cases hlt : t < L.length
        · obtain ⟨z, hz, hread⟩ := HC.out t hlt
          obtain ⟨l, hl⟩ : ∃ l, l = L[t] := ⟨_, rfl⟩
          have HL := hid hl
          rw [← hl] at hread
          have HR := hid hread
          have hp1 : p ≤ 1073741824 := by omega
          clear hread hl
          by_cases hl2 : (l.length : Int) ≤ p
          · have HE := hid (show (if (l.length : Int) ≤ p then p - l.length else -1) = p - l.length from if_pos hl2)
            go_wp2_with (first | (go_at_call 146; refine (szIntS_any _ l p _ HR.out hp0 hp1).mono ?_; rintro e w1 ⟨rfl, rfl⟩; rw [HE.out]) | fail)
            go_round
            case rel => exact ⟨t + 1, p - l.length, by omega, by go_num, rfl, by omega, by omega, fun j hj hjt => by
              by_cases hjj : j < t
              · exact HALL.out j hj hjj
              · have : j = t := by omega
                subst this
                rw [← HL.out]; omega⟩
            case measure => simp [intOf]; omega
          · have HE := hid (show (if (l.length : Int) ≤ p then p - l.length else -1) = -1 from if_neg hl2)
            go_wp2_with (first | (go_at_call 146; refine (szIntS_any _ l p _ HR.out hp0 hp1).mono ?_; rintro e w1 ⟨rfl, rfl⟩; rw [HE.out]) | fail)
            go_ret
            exact ⟨_, rfl, rfl, by omega, fun h => absurd h (by decide)⟩
        · have htl : t = L.length := by omega
          go_wp2_with fail
          go_ret
          exact ⟨_, rfl, rfl, hpm, fun _ => by first | exact ⟨hle, fun i hi => HALL.out i hi (by omega)⟩ | exact fun i hi => HALL.out i hi (by omega)⟩
  · clear h
    go_enter Try.func102, Try.ntmps102
    go_wp2
    go_ret
    exact ⟨_, rfl, rfl, by omega, fun h => absurd h (by decide)⟩
end Go.Proofs.Yteimfdpkodcfbaa
