/- Contracts: suWindow. Conditions: a torus whose rows are slices that are not nil. -/
import Derived.Test.YteimfdpkodcfbaaTor1
import Derived.Test.YteimfdpkodcfbaaBs3
import Derived.BigQuiet
namespace Go.Proofs.Yteimfdpkodcfbaa
open Go.RowKit
set_option linter.unusedVariables false
set_option maxRecDepth 4000

/-- a row of a torus in memory -/
structure TRow (w : World) (b off i : Nat) (c : Nat) (l : List Int) (bi oi ci : Nat) : Prop where
  cell : w.cell? ⟨b, off + i, none⟩ = some (.slice (some ⟨bi, oi, none⟩) c ci)
  at' : ∀ j, j < c → w.cell? ⟨bi, oi + j, none⟩ = some (.int .i64 (l.getD j 0))
  lt : bi < w.heap.size
  cap : c ≤ ci
  capm : ci ≤ 9223372036854775807
theorem TRow.below {w w' : World} {b off i c bi oi ci : Nat} {l : List Int} (h : TRow w b off i c l bi oi ci) (hlt : b < w.heap.size) (hb : Below w.heap.size w w') : TRow w' b off i c l bi oi ci :=
  ⟨(hb.cell (p := ⟨b, off + i, none⟩) (by exact hlt)).trans h.cell, fun j hj => (hb.cell (p := ⟨bi, oi + j, none⟩) (by exact h.lt)).trans (h.at' j hj), Nat.lt_of_lt_of_le h.lt hb.size, h.cap, h.capm⟩
theorem TuI.trow {w : World} {b off cc n c : Nat} {L : List (List Int)} (hI : TuI L n c) (h : SitsL w (.slice (some ⟨b, off, none⟩) n cc) L) {i : Nat} (hi : i < n) : ∃ bi oi ci, TRow w b off i c (L.getD i []) bi oi ci := by
  obtain ⟨b', off', c', e, h1, h2, h3, h4⟩ := h
  simp only [Value.slice.injEq, Option.some.injEq, Addr.mk.injEq, and_true] at e
  obtain ⟨⟨rfl, rfl⟩, _, rfl⟩ := e
  have hl : i < L.length := by rw [hI.len]; exact hi
  obtain ⟨u, hu, bi, oi, ci, rfl, k1, k2, k3, k4⟩ := h4 i hl
  have hg : L.getD i [] = L[i] := by rw [List.getD_eq_getElem?_getD, List.getElem?_eq_getElem hl]; rfl
  have hr := hI.row i hi
  rw [hg] at hr ⊢
  rw [hr] at hu k1
  refine ⟨bi, oi, ci, hu, fun j hj => ?_, k3, k1, k2⟩
  rw [k4 j (by rw [hr]; exact hj), getD_at]
theorem Own_lit4x (w : World) (x y z t : Int) : Own (w.alloc (.cells #[.int .i64 x, .int .i64 y, .int .i64 z, .int .i64 t] 3)) w.heap.size (.slice (some ⟨w.heap.size, 0, none⟩) 4 4) [x, y, z, t] :=
  World.ownsRow_lit w #[.int .i64 x, .int .i64 y, .int .i64 z, .int .i64 t] 4 (Nat.le_refl _) (by unfold maxLen; omega) rfl
set_option maxHeartbeats 2000000 in
theorem suWindow_any (b off cc n c i j : Nat) (L : List (List Int)) (w : World) (hI : TuI L n c) (h : SitsL w (.slice (some ⟨b, off, none⟩) n cc) L) (hi : i < n) (hj : j < c) :
    Calls Try.prog 112 #[.agg #[.slice (some ⟨b, off, none⟩) n cc], .int .i64 (i : Int), .int .i64 (j : Int)] w fun e w' => ∃ u, e = .returned u ∧ Own w' w.heap.size u (winT L n c i j) ∧ Below w.heap.size w w' := by
  have h1 := hI.n1
  have hn0 : ¬ n = 0 := by omega
  have hn0i : ¬ (n : Int) = 0 := by omega
  have hc0 : ¬ c = 0 := by omega
  have hc0i : ¬ (c : Int) = 0 := by omega
  obtain ⟨i2, hi2⟩ : ∃ i2, i2 = (i + 1) % n := ⟨_, rfl⟩
  obtain ⟨j2, hj2⟩ : ∃ j2, j2 = (j + 1) % c := ⟨_, rfl⟩
  have hi2n : i2 < n := by rw [hi2]; exact Nat.mod_lt _ (by omega)
  have hj2c : j2 < c := by rw [hj2]; exact Nat.mod_lt _ (by omega)
  have e1 : ((i : Int) + 1) % (n : Int) = (i2 : Int) := by rw [hi2, Int.natCast_emod]; rfl
  have e1' : ((i : Int) + 1).tmod (n : Int) = (i2 : Int) := by rw [Int.tmod_eq_emod_of_nonneg (by omega), e1]
  have e2 : ((j : Int) + 1) % (c : Int) = (j2 : Int) := by rw [hj2, Int.natCast_emod]; rfl
  have e2' : ((j : Int) + 1).tmod (c : Int) = (j2 : Int) := by rw [Int.tmod_eq_emod_of_nonneg (by omega), e2]
  obtain ⟨w1, hw1⟩ : ∃ w1, w1 = w.alloc (.cells #[.slice (some ⟨b, off, none⟩) n cc] 48) := ⟨_, rfl⟩
  have HW1 := hid hw1
  have hB1 : Below w.heap.size w w1 := by rw [hw1]; exact (Below.refl _ _).alloc (Nat.le_refl _) _
  have HB1 := hid hB1
  have x0 : w1.cell? ⟨w.heap.size, 0, none⟩ = some (.slice (some ⟨b, off, none⟩) n cc) := by rw [hw1]; simp
  obtain ⟨bi, oi, ci, hri⟩ := hI.trow h hi
  obtain ⟨bk, ok, ck, hrk⟩ := hI.trow h hi2n
  have hblt : b < w.heap.size := by
    obtain ⟨b', off', c', e, _, _, h3, _⟩ := h
    simp only [Value.slice.injEq, Option.some.injEq, Addr.mk.injEq, and_true] at e
    obtain ⟨⟨rfl, rfl⟩, _, rfl⟩ := e
    exact h3
  have hri1 := hri.below hblt hB1
  have hrk1 := hrk.below hblt hB1
  have HWT := hid (show winT L n c i j = [(L.getD i []).getD j 0, (L.getD i []).getD j2 0, (L.getD i2 []).getD j 0, (L.getD i2 []).getD j2 0] by rw [hi2, hj2]; rfl)
  have y0 := hri1.cell
  have y1 := hri1.at' j hj
  have y2 := hri1.at' j2 hj2c
  have z0 := hrk1.cell
  have z1 := hrk1.at' j hj
  have z2 := hrk1.at' j2 hj2c
  have k1 := hri1.cap
  have k2 := hri1.capm
  have k3 := hrk1.cap
  have k4 := hrk1.capm
  obtain ⟨a1, ha1⟩ : ∃ a, a = (L.getD i []).getD j 0 := ⟨_, rfl⟩
  obtain ⟨a2, ha2⟩ : ∃ a, a = (L.getD i []).getD j2 0 := ⟨_, rfl⟩
  obtain ⟨a3, ha3⟩ : ∃ a, a = (L.getD i2 []).getD j 0 := ⟨_, rfl⟩
  obtain ⟨a4, ha4⟩ : ∃ a, a = (L.getD i2 []).getD j2 0 := ⟨_, rfl⟩
  rw [← ha1] at y1
  rw [← ha2] at y2
  rw [← ha3] at z1
  rw [← ha4] at z2
  rw [← ha1, ← ha2, ← ha3, ← ha4] at HWT
  have hij : (0 : Int) ≤ (i2 : Int) := by omega
  have hin : (i2 : Int) < (n : Int) := by omega
  have hjj : (0 : Int) ≤ (j2 : Int) := by omega
  have hjn : (j2 : Int) < (c : Int) := by omega
  have v1 : IntKind.i64.wrap ((i : Int) + 1) = (i : Int) + 1 := IntWalk.i64_in _ (by omega)
  have v2 : IntKind.i64.wrap ((j : Int) + 1) = (j : Int) + 1 := IntWalk.i64_in _ (by omega)
  have v3 : IntKind.i64.wrap (i2 : Int) = (i2 : Int) := IntWalk.i64_in _ (by omega)
  have v4 : IntKind.i64.wrap (j2 : Int) = (j2 : Int) := IntWalk.i64_in _ (by omega)
  have HX0 := hid x0
  clear ha1 ha2 ha3 ha4 hi2 hj2 hw1 hB1 hri hrk hri1 hrk1 h hI
  go_enter Try.func112, Try.ntmps112
  go_wp2_with fail
  rw [← HW1.out]
  go_quiet (fail)
  have HB2 := hid (below_drewN HB1.out nq)
  have x0' : (w1.drewN nq).cell? ⟨w.heap.size, 0, none⟩ = some (.slice (some ⟨b, off, none⟩) n cc) := x0
  have y0' : (w1.drewN nq).cell? ⟨b, off + i, none⟩ = some (.slice (some ⟨bi, oi, none⟩) c ci) := y0
  have y1' : (w1.drewN nq).cell? ⟨bi, oi + j, none⟩ = some (.int .i64 a1) := y1
  have y2' : (w1.drewN nq).cell? ⟨bi, oi + j2, none⟩ = some (.int .i64 a2) := y2
  have z0' : (w1.drewN nq).cell? ⟨b, off + i2, none⟩ = some (.slice (some ⟨bk, ok, none⟩) c ck) := z0
  have z1' : (w1.drewN nq).cell? ⟨bk, ok + j, none⟩ = some (.int .i64 a3) := z1
  have z2' : (w1.drewN nq).cell? ⟨bk, ok + j2, none⟩ = some (.int .i64 a4) := z2
  obtain ⟨W, hW⟩ : ∃ W, W = w1.drewN nq := ⟨_, rfl⟩
  rw [← hW] at x0' y0' y1' y2' z0' z1' z2' HB2 ⊢
  have HO := hid (Own_lit4x W.drew a1 a2 a3 a4)
  have HBO := hid (show Below W.heap.size W (W.drew.alloc (.cells #[.int .i64 a1, .int .i64 a2, .int .i64 a3, .int .i64 a4] 3)) from (Below.refl _ _).drew.alloc (Nat.le_refl _) _)
  clear hW x0 y0 y1 y2 z0 z1 z2
  go_wp2_with fail
  go_region_held3 (fun w' => w'.cell? ⟨w.heap.size, 0, none⟩ = some (.slice (some ⟨b, off, none⟩) n cc) ∧ w'.cell? ⟨b, off + i, none⟩ = some (.slice (some ⟨bi, oi, none⟩) c ci) ∧ w'.cell? ⟨bi, oi + j, none⟩ = some (.int .i64 a1) ∧ w'.cell? ⟨bi, oi + j2, none⟩ = some (.int .i64 a2) ∧ w'.cell? ⟨bk, ok + j, none⟩ = some (.int .i64 a3) ∧ w'.cell? ⟨bk, ok + j2, none⟩ = some (.int .i64 a4))
    (first | exact ⟨x0', y0', y1', y2', z1', z2'⟩ | go_keep | fail)
    (fail)
  go_wp2_with fail
  go_ret
  exact ⟨_, rfl, by rw [HWT.out]; exact Own.mono (show Own _ W.heap.size _ _ from HO.out) HB2.out.size, HB2.out.trans (HBO.out.mono HB2.out.size)⟩
theorem cmT_succ (L : List (List Int)) (n c p : Nat) (w : List Int) : cmT L n c (p + 1) w = (cmT L n c p w || decide (wnT L n c p = w)) := by
  unfold cmT
  rw [List.range_succ, List.any_append]
  simp
theorem wnT_at {L : List (List Int)} {n c i j : Nat} (hj : j < c) : wnT L n c (i * c + j) = winT L n c i j := by
  unfold wnT
  rw [show (i * c + j) / c = i by rw [Nat.mul_comm, Nat.mul_add_div (by omega), Nat.div_eq_of_lt hj, Nat.add_zero], show (i * c + j) % c = j by rw [Nat.mul_comm, Nat.mul_add_mod, Nat.mod_eq_of_lt hj]]
theorem tor_lt {n c i j : Nat} (hp : n * c = 16) (hi : i < n) (hj : j < c) : i * c + j < 16 := by
  have := Nat.mul_le_mul_right c (show i + 1 ≤ n by omega)
  rw [Nat.succ_mul, hp] at this
  omega
theorem Lists.slice9 {w : World} {B : Nat} {v : Value} {L : List (List Int)} (h : Lists w B v L) : ∃ ao c, v = .slice ao L.length c := by
  rcases h.form with ⟨rfl, rfl⟩ | ⟨g, cap, rfl, _⟩
  · exact ⟨none, 0, rfl⟩
  · exact ⟨_, _, rfl⟩
/-- the windows with the first p indices -/
def wnsT (L : List (List Int)) (n c p : Nat) : List (List Int) := (List.range p).map (wnT L n c)
theorem wnsT_succ (L : List (List Int)) (n c p : Nat) : wnsT L n c (p + 1) = wnsT L n c p ++ [wnT L n c p] := by unfold wnsT; rw [List.range_succ, List.map_append]; rfl
theorem wnsT_len (L : List (List Int)) (n c p : Nat) : (wnsT L n c p).length = p := by simp [wnsT]
theorem wnsT_no {L : List (List Int)} {n c p : Nat} {w : List Int} (h : cmT L n c p w = false) : placeIn w (wnsT L n c p) < 0 := by
  rw [placeIn_none]
  · omega
  · intro j hj e
    rw [wnsT_len] at hj
    have : cmT L n c p w = true := cmT_iff.2 ⟨j, hj, by simpa [wnsT] using e⟩
    rw [h] at this; cases this
theorem wnsT_yes {L : List (List Int)} {n c p : Nat} {w : List Int} (h : cmT L n c p w = true) : 0 ≤ placeIn w (wnsT L n c p) := by
  obtain ⟨q, hq, e⟩ := cmT_iff.1 h
  have key : ∀ (M : List (List Int)), w ∈ M → 0 ≤ placeIn w M := by
    intro M
    induction M with
    | nil => intro h; cases h
    | cons x r ih =>
      intro h
      rw [placeIn]
      by_cases e : x = w
      · rw [if_pos e]; omega
      · rw [if_neg e]
        rcases List.mem_cons.1 h with h2 | h2
        · exact absurd h2.symm e
        · have := ih h2
          rw [if_neg (by omega)]; omega
  exact key _ (List.mem_map.2 ⟨q, List.mem_range.2 hq, e⟩)
set_option maxHeartbeats 2000000 in
theorem suWindows_any (b off cc n c : Nat) (L : List (List Int)) (w : World) (hI : TuI L n c) (h : SitsL w (.slice (some ⟨b, off, none⟩) n cc) L) :
    Calls Try.prog 104 #[.agg #[.slice (some ⟨b, off, none⟩) n cc]] w fun e w' => e = .returned (.bool (wiB L n c)) ∧ Below w.heap.size w w' := by
  have h1 := hI.n1
  have HI := hid hI
  have HS := hid h
  have HPR := hid hI.prod
  have hcells : ∀ W : World, Below w.heap.size w W → ∀ i, i < n → ∃ bi oi ci, TRow W b off i c (L.getD i []) bi oi ci := fun W hb i hi => hI.trow (h.below hb) hi
  have HCE := hid hcells
  obtain ⟨w1, hw1⟩ : ∃ w1, w1 = w.alloc (.cells #[.slice (some ⟨b, off, none⟩) n cc] 48) := ⟨_, rfl⟩
  have HW1 := hid hw1
  have hB1 : Below w.heap.size w w1 := by rw [hw1]; exact (Below.refl _ _).alloc (Nat.le_refl _) _
  have HB1 := hid hB1
  have hs1 : w1.heap.size = w.heap.size + 1 := by rw [hw1]; simp
  have HS1 := hid hs1
  have HX0 := hid (show w1.cell? ⟨w.heap.size, 0, none⟩ = some (.slice (some ⟨b, off, none⟩) n cc) by rw [hw1]; simp)
  have hx0 := HX0.out
  rw [HW1.out] at hx0
  clear hI h hcells hw1 hB1 hs1
  go_enter Try.func104, Try.ntmps104
  go_wp2_with fail
  rw [← HW1.out]
  clear hx0
  obtain ⟨j0, hj, hy0, hy1, hy2⟩ := info_parts Try.infoL
  obtain ⟨B, hB⟩ : ∃ B, B = w1.heap.size := ⟨_, rfl⟩
  have HBB := hid hB
  have HIX := hid (fun (i j : Nat) (hj : j < c) => wnT_at (L := L) (n := n) (c := c) (i := i) (j := j) hj)
  have HLT := hid (fun (i j : Nat) (hi : i < n) (hj : j < c) => tor_lt HPR.out hi hj)
  go_loopw [3, 11] (fun sv i wr => ∃ k : Nat, i = .int .i64 (k : Int) ∧ k ≤ n ∧ Lists wr B sv (wnsT L n c (k * c)) ∧ allTo (k * c) (fun p => !cmT L n c p (wnT L n c p)) = true ∧ Below w1.heap.size w1 wr) (fun _ i _ => n - (intOf i).toNat)
  case atStart => exact ⟨0, rfl, Nat.zero_le _, by rw [Nat.zero_mul]; exact Lists.nil _ _, by rw [Nat.zero_mul]; rfl, Below.refl _ _⟩
  case round =>
    obtain ⟨k, rfl, hk, hls, hall, hbel⟩ := hrel
    have HL := hid hls
    have HA := hid hall
    have HB := hid hbel
    have HBW := hid (Below_chain HB1.out hbel)
    obtain ⟨ao, c0, rfl⟩ := hls.slice9
    rw [wnsT_len] at HL ⊢
    clear hls hall hbel
    by_cases hlt : k < n
    · obtain ⟨bi, oi, ci, hri⟩ := HCE.out wr HBW.out k hlt
      have y0 := hri.cell
      have q1 := hri.cap
      have q2 := hri.capm
      obtain ⟨wo, rfl⟩ : ∃ wo : World, wo = wr := ⟨_, rfl⟩
      obtain ⟨kc, hkc⟩ : ∃ kc, kc = k * c := ⟨_, rfl⟩
      have HKC := hid hkc
      have hkc16 : kc ≤ 16 := by have := Nat.mul_le_mul_right c (Nat.le_of_lt hlt); rw [HPR.out] at this; omega
      rw [← hkc] at HL HA ⊢
      clear hri hkc
      go_wp2_with fail
      go_loopw [3, 18] (fun sv j wr => ∃ (y m : Nat) (ao c0 : _), sv = .slice ao m c0 ∧ m = kc + y ∧ j = .int .i64 (y : Int) ∧ y ≤ c ∧ Lists wr B (.slice ao m c0) (wnsT L n c m) ∧ allTo m (fun p => !cmT L n c p (wnT L n c p)) = true ∧ Below w1.heap.size w1 wr) (fun _ j _ => c - (intOf j).toNat)
      case atStart => exact ⟨0, kc, ao, c0, rfl, rfl, rfl, Nat.zero_le _, HL.out, HA.out, HB.out⟩
      case round =>
        obtain ⟨y, m, ao2, c2, rfl, hm, rfl, hy, hls, hall, hbel⟩ := hrel
        have HM := hid hm
        have HL2 := hid hls
        have HA2 := hid hall
        have HB2 := hid hbel
        have HBW2 := hid (Below_chain HB1.out hbel)
        clear hls hall hbel hm
        by_cases hyc : y < c
        · have x0 : wr.cell? ⟨w.heap.size, 0, none⟩ = some (.slice (some ⟨b, off, none⟩) n cc) := (HB2.out.cell (by show w.heap.size < w1.heap.size; rw [HS1.out]; omega)).trans HX0.out
          have hSW := suWindow_any b off cc n c k y L wr HI.out (HS.out.below HBW2.out) hlt hyc
          have HSW := hid hSW
          have HIX2 := hid (show wnT L n c m = winT L n c k y by rw [HM.out, HKC.out]; exact HIX.out k y hyc)
          have hm16 : m < 16 := by rw [HM.out, HKC.out]; exact HLT.out k y hlt hyc
          clear hSW
          cases hcm : cmT L n c m (wnT L n c m) with
          | true =>
            have HF := hid (show wiB L n c = false from allTo_no hm16 (by rw [hcm]; rfl))
            have hpl := wnsT_yes hcm
            rw [HIX2.out] at hpl
            obtain ⟨pp, hpp⟩ : ∃ pp, pp = placeIn (winT L n c k y) (wnsT L n c m) := ⟨_, rfl⟩
            rw [← hpp] at hpl
            have HPP := hid hpp
            have hge : ¬ pp < 0 := by omega
            clear hcm hpp
            go_wp2_with (first
              | (go_at_call 147; (refine (raPlace_any _ _ (wnsT L n c m) (winT L n c k y) B _ HL3.out HO3.out.reads).mono ?_); (rintro e w4 ⟨rfl, hb4⟩); (rw [← HPP.out]); (have HB4 := hid (Below_chain HB3.out hb4)); (clear hb4))
              | (go_at_call 112; (refine HSW.out.mono ?_); (rintro e w3 ⟨u, rfl, ho3, hb3⟩); (obtain ⟨ao3, c3, rfl, _, _⟩ := ho3.shp9); (have HO3 := hid ho3); (have HL3 := hid (HL2.out.below hb3)); (have HB3 := hid (Below_chain HBW2.out hb3)); (clear ho3 hb3))
              | fail)
            go_ret
            exact ⟨ret_bool HF.out.symm, HB4.out⟩
          | false =>
            have HOK := hid (show (!cmT L n c m (wnT L n c m)) = true by rw [hcm]; rfl)
            have hpl := wnsT_no hcm
            rw [HIX2.out] at hpl
            obtain ⟨pp, hpp⟩ : ∃ pp, pp = placeIn (winT L n c k y) (wnsT L n c m) := ⟨_, rfl⟩
            rw [← hpp] at hpl
            have HPP := hid hpp
            clear hcm hpp
            go_wp2_with (first
              | (at_builtin; (refine wpList_pushL _ rfl _ _ 28 rfl B j0 Try.underlying28 hj hy0 hy1 hy2 ao2 m c2 (wnsT L n c m) rfl HL4.out (.slice ao3 4 c3) (winT L n c k y) HO4.out w4.heap.size rfl rfl (by omega) HB4z.out ?_); (intro g5 c5 w5 hl5 hb5); (have HL5 := hid (show Lists w5 B (.slice (some ⟨g5, 0, none⟩) (m + 1) c5) (wnsT L n c (m + 1)) by rw [wnsT_succ, HIX2.out]; exact hl5)); (have HB5 := hid (hb5 w1 HBB.out.symm (by exact HB41.out))); (clear hl5 hb5))
              | (go_at_call 147; (refine (raPlace_any _ _ (wnsT L n c m) (winT L n c k y) B _ HL3.out HO3.out.reads).mono ?_); (rintro e w4 ⟨rfl, hb4⟩); (rw [← HPP.out]); (have HL4 := hid (HL3.out.below hb4)); (have HB41 := hid (Below_chain HB31.out hb4)); (have HO4 := hid ((HO3.out.below hb4).mono (show B ≤ wr.heap.size by rw [HBB.out]; exact HB2.out.size))); (have HB4z := hid (show B ≤ w4.heap.size by rw [HBB.out]; exact HB41.out.size)); (clear hb4))
              | (go_at_call 112; (refine HSW.out.mono ?_); (rintro e w3 ⟨u, rfl, ho3, hb3⟩); (obtain ⟨ao3, c3, rfl, _, _⟩ := ho3.shp9); (have HO3 := hid ho3); (have HL3 := hid (HL2.out.below hb3)); (have HB31 := hid (Below_chain HB2.out hb3)); (clear ho3 hb3))
              | fail)
            go_roundw
            case rel => exact ⟨y + 1, m + 1, _, _, rfl, by have := HM.out; omega, by go_num, hyc, HL5.out, allTo_next HA2.out HOK.out, HB5.out⟩
            case measure => simp [intOf]; omega
        · have HMC := hid (show m = (k + 1) * c by rw [HM.out, HKC.out, Nat.succ_mul]; omega)
          go_wp2_with fail
          go_roundw
          case rel => exact ⟨k + 1, by go_num, hlt, by rw [← HMC.out]; exact HL2.out, by rw [← HMC.out]; exact HA2.out, HB2.out⟩
          case measure => simp [intOf]; omega
    · have HF := hid (show wiB L n c = true by have h2 := HA.out; rw [show k = n by omega, HPR.out] at h2; exact h2)
      go_wp2_with fail
      go_ret
      exact ⟨ret_bool HF.out.symm, HBW.out⟩
end Go.Proofs.Yteimfdpkodcfbaa
