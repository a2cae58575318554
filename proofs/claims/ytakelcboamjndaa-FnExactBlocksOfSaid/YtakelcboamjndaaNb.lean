/- Contracts: numberBehind, growthOfWord. Conditions: the slices read as lists; numbers in a range; a balanced word of at most 24 letters. -/
import Derived.Test.YtakelcboamjndaaPar
import Derived.Test.YtakelcboamjndaaNoC
namespace Go.Proofs.Ytakelcboamjndaa
open Go.RowKit Go.Maps
set_option linter.unusedVariables false
set_option maxRecDepth 4000

theorem topTo_bound {xs : List Int} {b : Int} (hb : -1 ≤ b) : ∀ k, (∀ i, i < k → xs.getD i 0 ≤ b) → topTo xs k ≤ b
  | 0, _ => hb
  | k + 1, h => by
    have h1 := topTo_bound hb k (fun i hi => h i (by omega))
    have h2 := h k (by omega)
    rw [topTo]; omega
theorem topL_bound {xs : List Int} {b : Int} (hb : -1 ≤ b) (h : ∀ x ∈ xs, x ≤ b) : topL xs ≤ b :=
  topTo_bound hb _ fun i hi => by rw [getD_at hi]; exact h _ (List.getElem_mem _)
theorem numberBehind_any (v : Value) (xs : List Int) (w : World) (h : Reads w v xs) (hs : ∀ x ∈ xs, -1 ≤ x ∧ x ≤ 1000) :
    Calls Try.prog 70 #[v] w fun e w' => e = .returned (.int .i64 (topL xs + 1)) ∧ w = w' := by
  obtain ⟨ao, c, rfl, hc1, hm, h⟩ := h.view
  rcases h with h | ⟨b, off, rfl, hb, hc⟩
  · subst h
    go_enter Try.func70, Try.ntmps70
    go_wp2
    refine wp_loop_rounds 1 ?_
    rw [rounds_succ]
    go_wp2
    go_ret
    exact ⟨rfl, rfl⟩
  · have HC := hid hc
    have HS := hid hs
    clear hc hs
    go_enter Try.func70, Try.ntmps70
    go_wp2
    go_loop [3, 8] (fun m i => ∃ k : Nat, k ≤ xs.length ∧ i = .int .i64 k ∧ m = .int .i64 (topTo xs k + 1)) (fun _ i => xs.length - (intOf i).toNat)
    case atStart => exact ⟨0, Nat.zero_le _, rfl, rfl⟩
    case round =>
      obtain ⟨k, hk, rfl, rfl⟩ := hrel
      by_cases hlt : k < xs.length
      · have hcx := HC.out k hlt
        have hrange := HS.out xs[k] (List.getElem_mem _)
        obtain ⟨x, hx⟩ : ∃ x, x = xs[k] := ⟨_, rfl⟩
        have HX := hid (show xs.getD k 0 = x by rw [getD_at hlt, hx])
        rw [← hx] at hcx hrange
        have ht1 := topTo_low xs k
        have ht2 : topTo xs k ≤ 1000 := topTo_bound (by omega) k (fun i hi => by rw [getD_at (by omega)]; exact (HS.out _ (List.getElem_mem _)).2)
        obtain ⟨t, ht⟩ : ∃ t, t = topTo xs k := ⟨_, rfl⟩
        have HT := hid ht
        rw [← ht] at ht1 ht2
        rw [← ht]
        have u1 : IntKind.i64.wrap (x + 1) = x + 1 := IntWalk.i64_in _ (by omega)
        clear hx ht
        by_cases hlx : t + 1 < x + 1
        · have HE := hid (show topTo xs (k + 1) + 1 = x + 1 by rw [topTo, HX.out, ← HT.out]; omega)
          go_wp2_with fail
          go_round
          case rel => exact ⟨k + 1, by omega, by go_num, by rw [HE.out]⟩
          case measure => simp [intOf]; omega
        · have HE := hid (show topTo xs (k + 1) + 1 = t + 1 by rw [topTo, HX.out, ← HT.out]; omega)
          go_wp2_with fail
          go_round
          case rel => exact ⟨k + 1, by omega, by go_num, by rw [HE.out]⟩
          case measure => simp [intOf]; omega
      · obtain rfl : k = xs.length := by omega
        go_wp2
        go_ret
        exact ⟨rfl, rfl⟩
/-- numbers stay small -/
structure GInv (G S : List Int) : Prop where
  op : ∀ x ∈ S, 0 ≤ x ∧ x ≤ G.length
  gr : ∀ x ∈ G, 0 ≤ x ∧ x + 1 ≤ G.length
theorem GInv.top {G S : List Int} (h : GInv G S) : -1 ≤ topL G ∧ topL G + 1 ≤ G.length :=
  ⟨topL_low G, by have := topL_bound (xs := G) (b := (G.length : Int) - 1) (by omega) (fun x hx => by have := (h.gr x hx).2; omega); omega⟩
theorem GInv.push {G S : List Int} (h : GInv G S) : GInv G ((topL G + 1) :: S) :=
  ⟨fun x hx => by
    have := h.top
    rcases List.mem_cons.1 hx with rfl | hx
    · omega
    · exact h.op x hx, h.gr⟩
theorem GInv.pop {G S : List Int} {a : Int} (h : GInv G (a :: S)) : GInv (G ++ [a]) S :=
  ⟨fun x hx => by
    have := h.op x (List.mem_cons_of_mem _ hx)
    simp; omega, fun x hx => by
    rcases List.mem_append.1 hx with hx | hx
    · have := h.gr x hx
      simp; omega
    · have h2 : x = a := by simpa using hx
      have := h.op a (by simp)
      simp; omega⟩
theorem GInv.nil : GInv [] [] := ⟨by simp, by simp⟩
end Go.Proofs.Ytakelcboamjndaa
