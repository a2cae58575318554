/- Contracts: numberBehind, growthOfWord. Conditions: the slices read as lists; numbers in a range; a balanced word of at most 24 letters. -/
import Derived.Test.YtakelcboamjndabPar
import Derived.Test.YtakelcboamjndabNoC
namespace Go.Proofs.Ytakelcboamjndab
open Go.RowKit Go.Maps
set_option linter.unusedVariables false
set_option maxRecDepth 4000

theorem topTo_bound {xs : List Int} {b : Int} (hb : -1 ≤ b) : ∀ k, (∀ i, i < k → xs.getD i 0 ≤ b) → topTo xs k ≤ b
  | 0, _ => hb
  | k + 1, h => by
    have h1 := topTo_bound hb k (fun i hi => h i (by omega))
    have h2 := h k (by omega)
    rw [topTo]; omega
theorem topL_bound {xs : List Int} {b : Int} (hb : -1 ≤ b) (h : ∀ x ∈ xs, x ≤ b) : topL xs ≤ b :=
  topTo_bound hb _ fun i hi => by rw [getD_at hi]; exact h _ (List.getElem_mem _)
theorem numberBehind_any (v : Value) (xs : List Int) (w : World) (h : Reads w v xs) (hs : ∀ x ∈ xs, -1 ≤ x ∧ x ≤ 1000) :
    Calls Try.prog 86 #[v] w fun e w' => e = .returned (.int .i64 (topL xs + 1)) ∧ w = w' := by
  obtain ⟨ao, c, rfl, hc1, hm, h⟩ := h.view
  rcases h with h | ⟨b, off, rfl, hb, hc⟩
  · subst h
    go_enter Try.func86, Try.ntmps86
    go_wp2
    refine wp_loop_rounds 1 ?_
    rw [rounds_succ]
    go_wp2
    go_ret
    exact ⟨rfl, rfl⟩
  · have HC := hid hc
    have HS := hid hs
    clear hc hs
    go_enter Try.func86, Try.ntmps86
    go_wp2
    go_loop [3, 8] (fun m i => ∃ k : Nat, k ≤ xs.length ∧ i = .int .i64 k ∧ m = .int .i64 (topTo xs k + 1)) (fun _ i => xs.length - (intOf i).toNat)
    case atStart => exact ⟨0, Nat.zero_le _, rfl, rfl⟩
    case round =>
      obtain ⟨k, hk, rfl, rfl⟩ := hrel
      by_cases hlt : k < xs.length
      · have hcx := HC.out k hlt
        have hrange := HS.out xs[k] (List.getElem_mem _)
        obtain ⟨x, hx⟩ : ∃ x, x = xs[k] := ⟨_, rfl⟩
        have HX := hid (show xs.getD k 0 = x by rw [getD_at hlt, hx])
        rw [← hx] at hcx hrange
        have ht1 := topTo_low xs k
        have ht2 : topTo xs k ≤ 1000 := topTo_bound (by omega) k (fun i hi => by rw [getD_at (by omega)]; exact (HS.out _ (List.getElem_mem _)).2)
        obtain ⟨t, ht⟩ : ∃ t, t = topTo xs k := ⟨_, rfl⟩
        have HT := hid ht
        rw [← ht] at ht1 ht2
        rw [← ht]
        have u1 : IntKind.i64.wrap (x + 1) = x + 1 := IntWalk.i64_in _ (by omega)
        clear hx ht
        by_cases hlx : t + 1 < x + 1
        · have HE := hid (show topTo xs (k + 1) + 1 = x + 1 by rw [topTo, HX.out, ← HT.out]; omega)
          go_wp2_with fail
          go_round
          case rel => exact ⟨k + 1, by omega, by go_num, by rw [HE.out]⟩
          case measure => simp [intOf]; omega
        · have HE := hid (show topTo xs (k + 1) + 1 = t + 1 by rw [topTo, HX.out, ← HT.out]; omega)
          go_wp2_with fail
          go_round
          case rel => exact ⟨k + 1, by omega, by go_num, by rw [HE.out]⟩
          case measure => simp [intOf]; omega
      · obtain rfl : k = xs.length := by omega
        go_wp2
        go_ret
        exact ⟨rfl, rfl⟩
/-- numbers stay small -/
structure GInv (G S : List Int) : Prop where
  op : ∀ x ∈ S, 0 ≤ x ∧ x ≤ G.length
  gr : ∀ x ∈ G, 0 ≤ x ∧ x + 1 ≤ G.length
theorem GInv.top {G S : List Int} (h : GInv G S) : -1 ≤ topL G ∧ topL G + 1 ≤ G.length :=
  ⟨topL_low G, by have := topL_bound (xs := G) (b := (G.length : Int) - 1) (by omega) (fun x hx => by have := (h.gr x hx).2; omega); omega⟩
theorem GInv.push {G S : List Int} (h : GInv G S) : GInv G ((topL G + 1) :: S) :=
  ⟨fun x hx => by
    have := h.top
    rcases List.mem_cons.1 hx with rfl | hx
    · omega
    · exact h.op x hx, h.gr⟩
theorem GInv.pop {G S : List Int} {a : Int} (h : GInv G (a :: S)) : GInv (G ++ [a]) S :=
  ⟨fun x hx => by
    have := h.op x (List.mem_cons_of_mem _ hx)
    simp; omega, fun x hx => by
    rcases List.mem_append.1 hx with hx | hx
    · have := h.gr x hx
      simp; omega
    · have h2 : x = a := by simpa using hx
      have := h.op a (by simp)
      simp; omega⟩
theorem GInv.nil : GInv [] [] := ⟨by simp, by simp⟩
set_option maxHeartbeats 2000000 in
theorem growthOfWord_any (v : Value) (xs : List Int) (w : World) (h : Reads w v xs) (hok0 : blOk xs 0 = true) (hl : xs.length ≤ 24) :
    Calls Try.prog 58 #[v] w fun e w' => ∃ u, e = .returned u ∧ Own w' w.heap.size u (gwL xs [] []) ∧ Below w.heap.size w w' := by
  have HOK := hid hok0
  obtain ⟨T, hT⟩ : ∃ T, T = gwL xs [] [] := ⟨_, rfl⟩
  have HT := hid hT.symm
  rw [← hT]
  have hh := half_len xs.length (by omega)
  obtain ⟨p, hp⟩ : ∃ p, p = xs.length / 2 := ⟨_, rfl⟩
  rw [← hp] at hh
  have hh2 : (xs.length : Int) / 2 = (p : Int) := by omega
  have hp12 : p ≤ 12 := by omega
  obtain ⟨i0, hi, hz0, hz1, hz2⟩ := info_parts Try.info3
  have HMB := hid (show i0.bytes * p ≤ 281474976710656 by rw [hz2]; omega)
  have HMM := hid (show p ≤ maxLen by unfold maxLen; omega)
  obtain ⟨ao, c, rfl, hc1, hm, h⟩ := h.view
  have hcell : xs.length = 0 ∨ ∃ b off, ao = some ⟨b, off, none⟩ ∧ b < w.heap.size ∧ ∀ i (hi : i < xs.length), w.cell? ⟨b, off + i, none⟩ = some (.int .i64 xs[i]) := by
    rcases h with h | ⟨b, off, rfl, hb, hc⟩
    · left; rw [h]; rfl
    · exact .inr ⟨b, off, rfl, hb, hc⟩
  have HCELL := hid hcell
  clear h hcell hT hp hok0
  go_enter Try.func58, Try.ntmps58
  go_wp2_with (first
    | (at_make; refine wpList_make_own _ rfl _ _ 22 rfl w.heap.size 3 i0 (.int .i64 0) 1 Try.underlying22 hi hz0 hz1 .i64 .i64 _ p rfl rfl rfl HMB.out HMM.out (Nat.le_refl _) ?_; intro w2 hmade hgm; have HOM := hid (Own.of_made6 hmade); have HBM := hid ((Below.refl w.heap.size w).grown hgm (Nat.le_refl _) (fun q hq => by cases hq)); clear hmade hgm)
    | fail)
  go_loopw [3, 4, 14] (fun vg vo i wr => ∃ (k t gg cg cO : Nat) (aO : Option Addr) (G S : List Int), k ≤ xs.length ∧ i = .int .i64 k ∧ vg = .slice (some ⟨gg, 0, none⟩) G.length cg ∧ vo = .slice aO t cO ∧ Own wr w.heap.size (.slice (some ⟨gg, 0, none⟩) G.length cg) G ∧ Own wr w.heap.size (.slice aO t cO) S.reverse ∧ (∀ q, (Value.slice aO t cO).ownBlock = some q → q ≠ gg) ∧
    S.length = t ∧ blOk (xs.drop k) t = true ∧ gwL (xs.drop k) G S = T ∧ GInv G S ∧ G.length ≤ k ∧ t ≤ k ∧ Below w.heap.size w wr) (fun _ _ i _ => xs.length - (intOf i).toNat)
  case atStart => exact ⟨0, 0, w.heap.size, p, 0, none, [], [], Nat.zero_le _, rfl, rfl, rfl, HOM.out, Own.nil _ _, fun q hq => by simp [Value.ownBlock] at hq, rfl, HOK.out, HT.out, GInv.nil, Nat.le_refl _, Nat.le_refl _, HBM.out⟩
  case round =>
    obtain ⟨k, t, gg, cg, cO, aO, G, S, hk, rfl, rfl, rfl, hog, hoo, hne, hsl, hok, hgw, hin, hgl, htk, hbel⟩ := hrel
    by_cases hlt : k < xs.length
    · rcases HCELL.out with h | ⟨b, off, rfl, hb, hc⟩
      · omega
      have hcx := (hbel.cell (p := ⟨b, off + k, none⟩) (by exact hb)).trans (hc k hlt)
      obtain ⟨x, hx⟩ : ∃ x, x = xs[k] := ⟨_, rfl⟩
      have hd : xs.drop k = x :: xs.drop (k + 1) := by rw [List.drop_eq_getElem_cons hlt, hx]
      rw [← hx] at hcx
      rw [hd] at hok hgw
      obtain ⟨x1, x2, x3, x4⟩ := blOk_cons.1 hok
      have HB := hid hbel
      have HG := hid hog
      have HO := hid hoo
      have HIN := hid hin
      have q1 : (0 : Int) ≤ (k : Int) := by omega
      have q2 : (k : Int) < (xs.length : Int) := by omega
      have hgl24 : G.length ≤ 24 := by omega
      have ht24 : t ≤ 24 := by omega
      have HGL := hid hgl
      have HTK := hid htk
      have hx01 : x = 0 ∨ x = 1 := by omega
      rcases hx01 with rfl | rfl
      · cases S with
        | nil => simp at hsl; omega
        | cons a r =>
          rw [gw_zero] at hgw
          obtain ⟨t', rfl⟩ : ∃ t', t = t' + 1 := ⟨t - 1, by omega⟩
          rcases hoo.form with ⟨_, e⟩ | ⟨go, co, e, _⟩
          · simp at e
          · have hrl : ((a :: r).reverse).length = t' + 1 := by simpa using hsl
            simp only [Value.slice.injEq] at e
            obtain ⟨rfl, e2, rfl⟩ := e
            clear e2
            obtain ⟨lc, lcap, lm, lgo, _⟩ := hoo.last6
            have hrl2 : r.length = t' := by simpa using hsl
            rw [hrl2] at lc lcap
            have hne2 : go ≠ gg := hne go rfl
            have HCUT := hid (show Own wr w.heap.size (.slice (some ⟨go, 0, none⟩) t' cO) r.reverse by have h := hoo.cut6; rw [hrl2] at h; exact h)
            have HGW := hid (show gwL (xs.drop (k + 1)) (G ++ [a]) r = T from hgw)
            have HOK2 := hid (show blOk (xs.drop (k + 1)) (t' : Int) = true by rw [show (t' : Int) = ((t' + 1 : Nat) : Int) + (2 * 0 - 1) by omega]; exact x4)
            have HPL := hid (show (G ++ [a]).length = G.length + 1 by simp)
            have HRL := hid hrl2
            have HCX := hid (hc)
            have u1 : IntKind.i64.wrap (((t' + 1 : Nat) : Int) - 1) = (t' : Int) := by rw [IntWalk.i64_in _ (by omega)]; omega
            have u2 : IntKind.i64.wrap ((t' : Int) + 1 - 1) = (t' : Int) := by rw [IntWalk.i64_in _ (by omega)]; omega
            have u3 : (t' : Int) + 1 - 1 = (t' : Int) := by omega
            clear hog hoo hne hok hgw hin hbel hd hx x3 x4 hsl hrl hrl2 hc hgl htk
            go_wp2_with (first
              | (at_builtin; (refine wpList_append_lies _ rfl _ _ 22 rfl w.heap.size 3 i0 (.int .i64 0) 1 8 Try.underlying22 hi hz0 hz1 hz2 rfl (by decide) _ _ _ rfl (World.ownsRow.alloc HG.out.row _) ⟨wr.heap.size, 0, none⟩ 1 1 [.int .i64 a] rfl rfl (fun j u hj => new_cell1 j hj) (one_cell _ _) Nat.zero_lt_one (by unfold maxLen; omega) (by omega) (by have := HB.out.size; first | omega | (simp <;> omega)) ?_); (intro g1 c1 w5 hown5 hgrow5 hlies5); (have HG5 := hid hown5); (have hl5 : gg = g1 ∨ g1 = wr.heap.size + 1 := hlies5.elim (fun h => .inl (Option.some.inj h)) (fun h => .inr (by simpa using h))); (have HC5 := hid (World.ownsRow.kept (World.ownsRow.alloc HCUT.out.row (.cells #[.int .i64 a] 3)) hgrow5 (.inr (by show some go ≠ some gg; intro e; exact hne2 (Option.some.inj e))))); (have HB5 := hid ((HB.out.alloc HB.out.size (.cells #[.int .i64 a] 3)).grown hgrow5 (Nat.le_trans HB.out.size (by simp)) (fun k hk => (World.ownsRow.lt HG.out.row k hk).1))); (clear hown5 hgrow5 hlies5))
              | fail)
            have hne5 : go ≠ g1 := by omega
            have HGN := hid (show Own w5 w.heap.size (.slice (some ⟨g1, 0, none⟩) (G ++ [a]).length c1) (G ++ [a]) by rw [HPL.out]; exact Own.snoc HG5.out)
            have HCN := hid (show Own w5 w.heap.size (.slice (some ⟨go, 0, none⟩) t' cO) r.reverse by have h := HC5.out; unfold Own; rw [List.length_reverse, HRL.out] at *; exact h)
            go_roundw
            case rel => exact ⟨k + 1, t', g1, c1, cO, some ⟨go, 0, none⟩, G ++ [a], r, by omega, by go_num, by rw [HPL.out], rfl, HGN.out, HCN.out, fun q hq => by have : go = q := Option.some.inj hq; omega, HRL.out, HOK2.out, HGW.out, HIN.out.pop, by rw [HPL.out]; have := HGL.out; omega, by have := HTK.out; omega, HB5.out⟩
            case measure => simp [intOf]; omega
      · rw [gwL, if_pos rfl] at hgw
        obtain ⟨ht1, ht2⟩ := hin.top
        have HRG := hid hog.reads
        have hsm : ∀ x ∈ G, -1 ≤ x ∧ x ≤ 1000 := fun x hx => by have := hin.gr x hx; omega
        have HSM := hid hsm
        have HTOP := hid (show topL G + 1 = topL G + 1 from rfl)
        obtain ⟨m, hm2⟩ : ∃ m, m = topL G + 1 := ⟨_, rfl⟩
        have HNB := hid (show ∀ V W, Reads W V G → Calls Try.prog 86 #[V] W fun e w' => e = .returned (.int .i64 m) ∧ W = w' from fun V W hV => by rw [hm2]; exact numberBehind_any V G W hV hsm)
        have HPU := hid (show GInv G (m :: S) by rw [hm2]; exact hin.push)
        rw [← hm2] at hgw
        have HGW := hid hgw
        have HOK2 := hid (show blOk (xs.drop (k + 1)) ((t + 1 : Nat) : Int) = true by rw [show ((t + 1 : Nat) : Int) = (t : Int) + (2 * 1 - 1) by omega]; exact x4)
        have HSL := hid (show (m :: S).length = t + 1 by simp [hsl])
        have HRV := hid (show (m :: S).reverse = S.reverse ++ [m] from List.reverse_cons)
        have HRL := hid (show S.reverse.length = t by simp [hsl])
        have HNE := hid hne
        clear hog hne hok hgw hin hbel hd hx x3 x4 hsm hm2 ht1 ht2 hsl hc hgl htk
        have HOR := hid (show wr.ownsRow w.heap.size 3 1 (.slice aO t cO) t (S.reverse.map (Value.int .i64)) by have h := hoo.row; rw [HRL.out] at h; exact h)
        clear hoo
        go_wp2_with (first
          | (go_at_call 86; (refine (HNB.out _ _ HRG.out).mono ?_); (rintro e w' ⟨rfl, rfl⟩))
          | (at_builtin; (refine wpList_append_lies _ rfl _ _ 22 rfl w.heap.size 3 i0 (.int .i64 0) 1 8 Try.underlying22 hi hz0 hz1 hz2 rfl (by decide) _ _ _ rfl (World.ownsRow.alloc HOR.out _) ⟨wr.heap.size, 0, none⟩ 1 1 [.int .i64 m] rfl rfl (fun j u hj => new_cell1 j hj) (one_cell _ _) Nat.zero_lt_one (by unfold maxLen; omega) (by omega) (by have := HB.out.size; first | omega | (simp <;> omega)) ?_); (intro g1 c1 w5 hown5 hgrow5 hlies5); (have HO5 := hid hown5); (have HG5 := hid (World.ownsRow.kept (World.ownsRow.alloc HG.out.row (.cells #[.int .i64 m] 3)) hgrow5 (.inr (by intro e; exact HNE.out gg e.symm rfl)))); (have HL5 := hid hlies5); (have HB5 := hid ((HB.out.alloc HB.out.size (.cells #[.int .i64 m] 3)).grown hgrow5 (Nat.le_trans HB.out.size (by simp)) (fun k hk => (World.ownsRow.lt HOR.out k hk).1))); (clear hown5 hgrow5 hlies5))
          | fail)
        have hne5 : g1 ≠ gg := by
          have hlt9 := (World.ownsRow.lt HG.out.row gg rfl).2
          rcases HL5.out with h | h
          · exact HNE.out g1 h
          · simp at h; omega
        have HON := hid (show Own w5 w.heap.size (.slice (some ⟨g1, 0, none⟩) (t + 1) c1) ((m :: S).reverse) by
          rw [HRV.out]; have h := HO5.out; rw [← HRL.out] at h; have h2 := Own.snoc h; rw [HRL.out] at h2; exact h2)
        go_roundw
        case rel => exact ⟨k + 1, t + 1, gg, cg, c1, some ⟨g1, 0, none⟩, G, m :: S, by omega, by go_num, rfl, rfl, HG5.out, HON.out, fun q hq => by have : g1 = q := Option.some.inj hq; omega, HSL.out, HOK2.out, HGW.out, HPU.out, by have := HGL.out; omega, by have := HTK.out; omega, HB5.out⟩
        case measure => simp [intOf]; omega
    · obtain rfl : k = xs.length := by omega
      have HE := hid (show G = T by rw [← hgw, List.drop_length, gwL])
      have HG := hid hog
      have HB := hid hbel
      clear hog hoo hne hok hgw hin hbel
      go_wp2_with fail
      go_ret
      exact ⟨_, rfl, by rw [← HE.out]; exact HG.out, HB.out⟩
end Go.Proofs.Ytakelcboamjndab
