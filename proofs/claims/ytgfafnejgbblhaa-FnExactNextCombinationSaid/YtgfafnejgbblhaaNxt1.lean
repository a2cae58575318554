/- Contracts: copyOf, both NextCombination functions. Conditions: the slice reads as a list of at most 2^20 numbers. -/
import Derived.Test.YtgfafnejgbblhaaNxtM
import Derived.Test.YtgfafnejgbblhaaCRank
import Derived.Laws.CopyOwn
namespace Go.Proofs.Ytgfafnejgbblhaa
open Go.RowKit
set_option linter.unusedVariables false

theorem heap_new (w : World) (o : Obj) : (w.alloc o).heap[w.heap.size]? = some o := by
  show (w.heap.push o)[w.heap.size]? = some o
  simp
theorem int_one {xs : List Int} : ∀ v ∈ xs.map (Value.int .i64), v.oneCell' = true := by
  intro v hv
  obtain ⟨x, _, rfl⟩ := List.mem_map.1 hv
  rfl
theorem copyOf_any (v : Value) (xs : List Int) (w : World) (h : Sits w v xs) (hl : xs.length ≤ 1048576) :
    Calls Try.prog 59 #[v] w fun e w' => e = .returned (.slice (some ⟨w.heap.size, 0, none⟩) xs.length xs.length) ∧ w'.rowIs w.heap.size 3 xs.length (fun i => .int .i64 (xs.getD i 0)) ∧ Below w.heap.size w w' := by
  obtain ⟨b, off, c, rfl, hc1, hm, hb, hc⟩ := h
  obtain ⟨i0, hi, hz0, hz1, hz2⟩ := info_parts Try.info3
  have hmk := run_make_ints xs.length hl w
  obtain ⟨cur, hcur⟩ : ∃ cur : List Value, cur = (madeCells #[.int .i64 0] xs.length).toList := ⟨_, rfl⟩
  have hcl : cur.length = xs.length := by rw [hcur, Array.length_toList, size_madeCells]
  have HG := hid (show (w.alloc (.cells (madeCells #[.int .i64 0] xs.length) 3)).heap[w.heap.size]? = some (.cells cur.toArray 3 (0, 0)) by rw [hcur]; exact heap_new _ _)
  have HSZ := hid (show (Try.prog.info? 3).map (·.size) = some 1 by rw [hi]; simp [hz1])
  have HN := hid (show (xs.map (Value.int .i64)).length = Nat.min xs.length xs.length by rw [List.length_map]; exact (Nat.min_self _).symm)
  have HPOS := hid (show 0 < (xs.map (Value.int .i64)).length → some (⟨w.heap.size, 0, none⟩ : Addr) = some ⟨w.heap.size, 0, none⟩ ∧ ∃ ad, some (⟨b, off, none⟩ : Addr) = some ad ∧ ∀ j v, (xs.map (Value.int .i64))[j]? = some v → (w.alloc (.cells (madeCells #[.int .i64 0] xs.length) 3)).cell? (ad.add j) = some v from
    fun _ => ⟨rfl, _, rfl, Sits.src (n := 0) (c := 0) (fun i hi => by rw [World.cell?_alloc_past _ _ _ hb]; exact hc i hi)⟩)
  have HFIT := hid (show 0 + (xs.map (Value.int .i64)).length ≤ cur.length by simp [hcl])
  have HSPL := hid (show splice cur 0 (xs.map (Value.int .i64)) = xs.map (Value.int .i64) by simp [splice, hcl])
  have HB := hid ((Below.refl w.heap.size w).alloc (Nat.le_refl _) (.cells (madeCells #[.int .i64 0] xs.length) 3))
  clear hc hcur hcl
  go_enter Try.func59, Try.ntmps59
  go_wp2_with (first
    | (with_reducible refine wpList_copy_splice rfl (.tmp 7) (.tmp 8) 27 27 rfl 3 Try.underlying27 HSZ.out _ _ _ _ _ _ rfl rfl w.heap.size 0 cur 3 HG.out (xs.map (Value.int .i64)) HN.out HPOS.out HFIT.out int_one w.heap.size w HB.out (Nat.le_refl _) ?_; intro w' hsp hbel; have HBEL := hid hbel; clear hbel)
    | fail)
  go_ret
  refine ⟨rfl, ⟨(xs.map (Value.int .i64)).toArray, by rw [← HSPL.out]; exact hsp.out, by simp, fun i hi => by simp [hi]⟩, HBEL.out⟩
theorem nxB_no {n : Int} {xs : List Int} (h : combB n xs = false) : nxB n xs = false := by rw [nxB, h]; rfl
theorem bound_NextCombination (n : Int) (xs : List Int) : (nxRes n xs).length ≤ 1048576 := by
  by_cases h : nxB n xs = true
  · rw [nxRes_yes h]
    simp only [nxB, Bool.and_eq_true] at h
    obtain ⟨c1, c2, c3, c4⟩ := RF_comb h.1
    cases hs : succC n.toNat xs with
    | none => simp
    | some ys =>
      have := ((succC_rank n.toNat (by omega) xs 0 c2 c1).1 ys hs).2.1
      rw [Option.getD_some, this]; omega
  · rw [nxRes_no (by simpa using h)]; simp
theorem spec_NextCombination_any (n : Int) (v : Value) (xs : List Int) (w : World) (_wn : (Lit.int .i64 n).wf = true) (h : Sits w v xs) (hl : xs.length ≤ 1048576) (_hwf : ∀ x ∈ xs, (Lit.int .i64 x).wf = true) :
    Calls Try.prog 29 #[.int .i64 n, v] w fun e w' => ∃ u, e = .returned (.tuple #[u, .bool (nxB n xs)]) ∧ Own w' w.heap.size u (nxRes n xs) ∧ Below w.heap.size w w' := by
  have HR := hid h.reads
  obtain ⟨b, off, c, rfl, hc1, hm, hb, hc⟩ := h
  clear hc
  by_cases hp : combB n xs = true
  · obtain ⟨c1, c2, c3, c4⟩ := RF_comb hp
    obtain ⟨N, rfl⟩ := Int.eq_ofNat_of_zero_le c3
    have HP2 := hid hp
    have hN : N ≤ 12 := by omega
    have hnx := nx_of N hN xs c2 (by simpa using c1) hp
    have HN1 := hid hnx.1
    have HN2 := hid hnx.2
    have hple : placeIn xs (allL N xs.length 0) < 2001 := by
      have h1 := placeIn_lt xs (allL N xs.length 0)
      have h2 := allL_bound N hN xs.length 0 c2
      omega
    have hpge : -1 ≤ placeIn xs (allL N xs.length 0) := by
      rw [place_rank N hN xs 0 c2 (by simpa using c1)]; omega
    have HALL := hid (raAll_any N hN xs.length 0 w c2 (by omega))
    have HBD := hid (show (allL N xs.length 0).length ≤ 100000 from Nat.le_trans (allL_bound N hN xs.length 0 c2) (by omega))
    have HEL := hid (show ∀ l ∈ allL N xs.length 0, l.length ≤ 12 from fun l hl => by rw [allL_elem N xs.length 0 l hl]; exact c2)
    obtain ⟨pl, hpl⟩ : ∃ pl, pl = placeIn xs (allL N xs.length 0) := ⟨_, rfl⟩
    rw [← hpl] at hple hpge HN1 HN2
    have HPL := hid hpl
    clear c1 hnx hpl
    go_enter Try.func29, Try.ntmps29
    go_wp2_with (first | (go_at_call 52; refine (raCombination_any _ _ xs _ HR.out).mono ?_; rintro e w' ⟨rfl, rfl⟩) | (go_at_call 57; refine HALL.out.mono ?_; rintro e w1 ⟨u, rfl, hu, hb1⟩; have HU := hid hu; have HB := hid hb1; have HR2 := hid (HR.out.below hb1); clear hu hb1) | (go_at_call 56; refine (raPlace_any _ _ (allL N xs.length 0) xs _ _ HU.out HR2.out).mono ?_; rintro e w2 ⟨rfl, hb2⟩; have HU2 := hid (HU.out.below hb2); have HB2 := hid (Below_chain HB.out hb2); clear hb2; rw [← HPL.out]) | (go_at_call 58; refine (raOf_any _ (allL N xs.length 0) (pl + 1) _ _ HU2.out HBD.out HEL.out).mono ?_; rintro e w3 ⟨u3, rfl, hu3, hb3⟩; have HU3 := hid hu3; have HB3 := hid (Below_chain HB2.out hb3); clear hu3 hb3) | fail)
    go_ret2
    exact ⟨_, ret_sb6 HN1.out, by rw [← HN2.out]; exact HU3.out.mono HB2.out.size, HB3.out⟩
  · have hp : combB n xs = false := by simpa using hp
    have HP := hid (nxB_no hp)
    have HX := hid (nxRes_no HP.out)
    have HP2 := hid hp
    go_enter Try.func29, Try.ntmps29
    go_wp2_with (first | (go_at_call 52; refine (raCombination_any _ _ xs _ HR.out).mono ?_; rintro e w' ⟨rfl, rfl⟩) | fail)
    go_ret2
    exact ⟨_, ret_sb6 HP.out.symm, by rw [HX.out]; exact Own.nil _ _, Below.refl _ _⟩
end Go.Proofs.Ytgfafnejgbblhaa
