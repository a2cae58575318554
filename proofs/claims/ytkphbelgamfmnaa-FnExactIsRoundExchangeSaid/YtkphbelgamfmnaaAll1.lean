/- Contract: raAll, all combinations in order. Conditions: n at most 12, k at most 12. -/
import Derived.Test.YtkphbelgamfmnaaSame
import Derived.Test.YtkphbelgamfmnaaAt1
import Derived.Deep.AppendLies
namespace Go.Proofs.Ytkphbelgamfmnaa
open Go.RowKit
set_option linter.unusedVariables false

/-- the lists that begin with f, .., f + m - 1, the rest out of F -/
def outTo (F : Nat → List (List Int)) (f : Nat) : Nat → List (List Int)
  | 0 => []
  | m + 1 => outTo F f m ++ (F (f + m + 1)).map (fun l => ((f + m : Nat) : Int) :: l)
/-- all combinations of the numbers f, .., n - 1 with k elements -/
def allL (n : Nat) : Nat → Nat → List (List Int)
  | 0, _ => [[]]
  | k + 1, f => outTo (allL n k) f (n - f)
theorem binom_sum : ∀ n, n < 14 → ∀ k, k < 14 → binom n k ≤ 2000 := by decide
theorem allL_len (n : Nat) (hn : n ≤ 12) (k : Nat) : ∀ f, k ≤ 12 → (allL n k f).length = binom (n - f) k := by
  induction k with
  | zero => intro f _; cases n - f <;> simp [allL, binom]
  | succ k ih =>
    intro f hk
    rw [allL]
    have : ∀ m, m ≤ n - f → (outTo (allL n k) f m).length + binom (n - f - m) (k + 1) = binom (n - f) (k + 1) := by
      intro m
      induction m with
      | zero => intro _; simp [outTo]
      | succ m ihm =>
        intro hm
        have h1 := ihm (by omega)
        rw [outTo, List.length_append, List.length_map, ih _ (by omega)]
        have e1 : n - f - m = (n - (f + m + 1)) + 1 := by omega
        have e2 : n - f - (m + 1) = n - (f + m + 1) := by omega
        rw [e1, binom] at h1
        rw [e2]
        omega
    have h2 := this (n - f) (Nat.le_refl _)
    have h3 : binom (n - f - (n - f)) (k + 1) = 0 := by rw [Nat.sub_self]; rfl
    omega
theorem allL_bound (n : Nat) (hn : n ≤ 12) (k f : Nat) (hk : k ≤ 12) : (allL n k f).length ≤ 2000 := by
  rw [allL_len n hn k f hk]
  exact binom_sum _ (by omega) _ (by omega)
theorem outTo_bound (n : Nat) (hn : n ≤ 12) (k f m : Nat) (hk : k < 12) (hm : m ≤ 12) : (outTo (allL n k) f m).length ≤ m * 2000 := by
  induction m with
  | zero => simp [outTo]
  | succ m ih =>
    rw [outTo, List.length_append, List.length_map]
    have := ih (by omega)
    have := allL_bound n hn k (f + m + 1) (by omega)
    omega
theorem allL_elem (n k : Nat) : ∀ f, ∀ l ∈ allL n k f, l.length = k := by
  induction k with
  | zero => intro f l h; simp [allL] at h; rw [h]; rfl
  | succ k ih =>
    intro f
    rw [allL]
    generalize n - f = m
    induction m with
    | zero => intro l h; simp [outTo] at h
    | succ m ihm =>
      intro l h
      rw [outTo, List.mem_append] at h
      rcases h with h | h
      · exact ihm l h
      · obtain ⟨t, ht, rfl⟩ := List.mem_map.1 h
        rw [List.length_cons, ih _ t ht]

theorem Lists_push {w w' : World} {base : Nat} {v v' u : Value} {L : List (List Int)} {l : List Int} {vs : List Value} (hl : vs.length = L.length) (h2 : w.ownsRow base 22 1 v L.length vs)
    (h3 : ∀ i (h1 : i < L.length) (h2 : i < vs.length), Own w base vs[i] L[i]) (hu : Own w base u l) (hrow : w'.ownsRow base 22 1 v' (L.length + 1) (vs ++ [u])) (hg : w.grownBy w' v.ownBlock) : Lists w' base v' (L ++ [l]) := by
  have hk : ∀ x : Value, ∀ xs : List Int, Own w base x xs → Own w' base x xs := fun x xs hx => Own.kept_type hx (T := 22) (by decide) h2 hg
  refine ⟨vs ++ [u], by simp [hl], by rw [List.length_append]; exact hrow, fun i a b => ?_⟩
  by_cases hi : i < L.length
  · rw [List.getElem_append_left (by omega), List.getElem_append_left hi]
    exact hk _ _ (h3 i hi (by omega))
  · have e1 : i = vs.length := by simp at b; simp at a; omega
    have e2 : i = L.length := by omega
    rw [List.getElem_append_right (by omega), List.getElem_append_right (by omega)]
    simp only [e1, Nat.sub_self, hl]
    simpa using hk _ _ hu
theorem Own.one {w : World} {base : Nat} {v : Value} {xs : List Int} (h : Own w base v xs) : ∀ u ∈ [v], u.oneCell' = true := by
  intro u hu
  simp at hu
  subst hu
  rcases h.form with ⟨rfl, _⟩ | ⟨g, cap, rfl, _⟩ <;> rfl
theorem new_cellV {u z : Value} {w : World} {T : TypeId} (j : Nat) (hj : [z][j]? = some u) : (w.alloc (.cells #[z] T)).cell? ((⟨w.heap.size, 0, none⟩ : Addr).add j) = some u := by
  match j, hj with
  | 0, hj => simp at hj; subst hj; simp [Addr.add]
theorem Own.shape {w : World} {base : Nat} {v : Value} {xs : List Int} (h : Own w base v xs) (hx : 0 < xs.length) : ∃ g n cap, v = .slice (some ⟨g, 0, none⟩) n cap := by
  rcases h.form with ⟨_, rfl⟩ | ⟨g, cap, rfl, _⟩
  · simp at hx
  · exact ⟨g, _, cap, rfl⟩
theorem size_alloc2 (w : World) (o : Obj) : w.heap.size ≤ (w.alloc o).heap.size := by simp
theorem wpList_append_lies {P : Program} (w : World) {ops : Array Oper} {rest : List Oper} {o : Oper} {a : Act} {Q : Exit → Act → World → Prop} (hgd : o.guard = none) (s x : Operand) (t : TypeId)
    (ho : o.op = .call { callee := .builtin .append, args := #[s, x], argTypes := #[t, t] }) (base : Nat) (e : TypeId) (i : TypeInfo) (z : Value) (size bytes : Nat) (ht : P.underlying t = some (.slice e)) (hi : P.info? e = some i)
    (hz : i.zero = some z) (hsize : i.size = size) (hby : i.bytes = bytes) (hzs : z.cells.size = size) (hsz : 0 < size) (v : Value) (n : Nat) (xs : List Value) (hs : a.eval s = v) (hown : w.ownsRow base e size v n xs) (ad : Addr)
    (m c : Nat) (news : List Value) (hx : a.eval x = .slice (some ad) m c) (hl : news.length = m * size) (hnews : ∀ (j : Nat) (u : Value), news[j]? = some u → w.cell? (ad.add j) = some u) (h1 : ∀ (u : Value), u ∈ news → u.oneCell' = true)
    (hm : 0 < m) (h63 : n + m ≤ maxLen) (hbytes : (n + m) * bytes ≤ 140737488355328) (hbase : base ≤ w.heap.size)
    (h : ∀ (g cap : Nat) (w' : World), w'.ownsRow base e size (.slice (some ⟨g, 0, none⟩) (n + m) cap) (n + m) (xs ++ news) → w.grownBy w' v.ownBlock → v.ownBlock = some g ∨ g = w.heap.size → wpList P ops Q rest (a.put o.dst (.slice (some ⟨g, 0, none⟩) (n + m) cap)) w') :
    wpList P ops Q (o :: rest) a w := by
  refine wpList_plain hgd fun K hK => ?_
  exact wp_append_lies w s x t ho base e i z size bytes ht hi hz hsize hby hzs hsz v n xs hs hown ad m c news hx hl hnews h1 hm h63 hbytes hbase w.heap.size rfl (fun g cap w' a1 a2 a3 _ => hK _ _ (h g cap w' a1 a2 a3))
theorem Lists_kept {w w' : World} {base b0 g n c k : Nat} {ov : Value} {vs : List Value} {L : List (List Int)} (h : Lists w base (.slice (some ⟨g, 0, none⟩) n c) L) (hv : w.ownsRow b0 22 1 ov k vs) (hg : w.grownBy w' ov.ownBlock) (hne : ov.ownBlock ≠ some g) :
    Lists w' base (.slice (some ⟨g, 0, none⟩) n c) L := by
  obtain ⟨us, h1, h2, h3⟩ := h
  exact ⟨us, h1, World.ownsRow.kept h2 hg (.inr (by simp only [Value.ownBlock, ne_eq]; exact fun e => hne e.symm)), fun i a b => Own.kept_type (h3 i a b) (T := 22) (by decide) hv hg⟩
def Apart (lo hi : Nat) (v : Value) : Prop := ∀ q, v.ownBlock = some q → q < lo ∨ hi ≤ q
theorem Lists.low {w : World} {base : Nat} {v : Value} {L : List (List Int)} (h : Lists w base v L) : ∀ q, v.ownBlock = some q → base ≤ q ∧ q < w.heap.size := by
  obtain ⟨vs, _, h2, _⟩ := h
  exact World.ownsRow.lt h2
set_option maxHeartbeats 1600000 in
theorem raAll_any (n : Nat) (hn : n ≤ 12) (k : Nat) : ∀ (f : Nat) (w : World), k ≤ 12 → f ≤ 13 →
    Calls Try.prog 59 #[.int .i64 (n : Int), .int .i64 (k : Int), .int .i64 (f : Int)] w fun e w' => ∃ u, e = .returned u ∧ Lists w' w.heap.size u (allL n k f) ∧ Below w.heap.size w w' := by
  induction k with
  | zero =>
    intro f w _ _
    go_enter Try.func59, Try.ntmps59
    go_wp2_with fail
    go_ret
    refine ⟨_, rfl, ⟨[.slice none 0 0], rfl, World.ownsRow_lit w #[.slice none 0 0] 1 (Nat.le_refl _) (by unfold maxLen; omega) rfl, fun i h1 h2 => ?_⟩, (Below.refl _ _).alloc (Nat.le_refl _) _⟩
    have : i = 0 := by simpa using h2
    subst this
    exact Own.nil _ _
  | succ k ih =>
    intro f w hk hf
    obtain ⟨i0, hi, hz0, hz1, hz2⟩ := info_parts Try.info3
    obtain ⟨j0, hj, hy0, hy1, hy2⟩ := info_parts Try.infoL
    have hne : ((k : Int) + 1 == 0) = false := beq_eq_false_iff_ne.2 (by omega)
    go_enter Try.func59, Try.ntmps59
    go_wp2_with fail
    go_loopw [7, 8, 10, 25, 26, 27] (fun ov x _ _ _ _ wr => ∃ m : Nat, m ≤ n - f ∧ x = .int .i64 ((f : Int) + m) ∧ Lists wr w.heap.size ov (outTo (allL n k) f m) ∧ Below w.heap.size w wr) (fun _ x _ _ _ _ _ => (n + 20) - (intOf x).toNat)
    case atStart => exact ⟨0, Nat.zero_le _, by simp, Lists.nil _ _, Below.refl _ _⟩
    case round =>
      obtain ⟨m, hm, rfl, hli, hbel⟩ := hrel
      obtain ⟨wo, rfl⟩ : ∃ wo : World, wo = wr := ⟨_, rfl⟩
      have HLI := hid hli
      have HBEL := hid hbel
      clear hli hbel
      by_cases hlt : f + m < n
      · have E1 := hid (show ((f : Int) + (m : Int) + 1) = ((f + m + 1 : Nat) : Int) by omega)
        have EX := hid (show ((f : Int) + (m : Int)) = ((f + m : Nat) : Int) by omega)
        have hob := outTo_bound n hn k f m (by omega) (by omega)
        have HIH := hid (ih (f + m + 1) wo (by omega) (by omega))
        have hab := allL_bound n hn k (f + m + 1) (by omega)
        go_wp2_with fail
        rw [E1.out]
        refine HIH.out.mono ?_
        rintro e w1 ⟨u1, rfl, hu1, hb1⟩
        have HL1 := hid (HLI.out.below hb1)
        have HLOW := hid (HLI.out.low)
        have HS1 := hid hb1.size
        have HB1 := hid (Below_chain HBEL.out hb1)
        have HU1 := hid hu1
        obtain ⟨Lk, hLk⟩ : ∃ Lk, Lk = allL n k (f + m + 1) := ⟨_, rfl⟩
        rw [← hLk] at hu1 hab
        have HLK := hid hLk
        have hel := allL_elem n k (f + m + 1)
        rw [← hLk] at hel
        have HEL := hid hel
        have HOT := hid (show outTo (allL n k) f (m + 1) = outTo (allL n k) f m ++ Lk.map (fun l => ((f + m : Nat) : Int) :: l) by rw [outTo, hLk])
        clear hb1 hLk hel
        rcases hu1.form with ⟨rfl, hnil⟩ | ⟨g, cap, rfl, hgl, hg, hc1, hmx, hcl⟩
        · have HN := hid hnil
          clear hu1 hnil
          go_wp2_with fail
          refine wp_loop_rounds 1 ?_
          rw [rounds_succ]
          go_wp2_with fail
          go_roundw
          case rel => first | exact ⟨m + 1, by omega, by go_num, by rw [HOT.out, HN.out, List.map_nil, List.append_nil]; exact HL1.out, HB1.out⟩ | ((repeat apply Exists.intro); exact ⟨⟨m + 1, by omega, by go_num, by rw [HOT.out, HN.out, List.map_nil, List.append_nil]; exact HL1.out, HB1.out⟩, rfl⟩)
          case measure => simp [intOf]; omega
        · have HUL := hid hu1
          clear hu1 hcl
          go_wp2_with fail
          go_loopw [7, 10, 27] (fun ov _ i wr => ∃ t : Nat, t ≤ Lk.length ∧ i = .int .i64 t ∧ Lists wr w.heap.size ov (outTo (allL n k) f m ++ (Lk.take t).map (fun l => ((f + m : Nat) : Int) :: l)) ∧ Lists wr wo.heap.size (.slice (some ⟨g, 0, none⟩) Lk.length cap) Lk ∧ Apart wo.heap.size w1.heap.size ov ∧ w1.heap.size ≤ wr.heap.size ∧ Below w.heap.size w wr) (fun _ _ i _ => Lk.length - (intOf i).toNat)
          case atStart => exact ⟨0, Nat.zero_le _, rfl, by simpa using HL1.out, HUL.out, fun q hq => .inl (HLOW.out q hq).2, Nat.le_refl _, HB1.out⟩
          case round =>
            obtain ⟨t, ht, rfl, hlt2, hul, hap, hsw, hb2⟩ := hrel
            have HLT := hid hlt2
            have HUL2 := hid hul
            have HAP := hid hap
            have HB2 := hid hb2
            clear hlt2 hap hb2
            by_cases hlt3 : t < Lk.length
            · have hzz : ∃ z, wr.cell? ⟨g, t, none⟩ = some z ∧ Own wr wo.heap.size z Lk[t] := by
                rcases hul.form with ⟨h1, _⟩ | ⟨g', cap', e, _, _, _, _, hcl⟩
                · simp at h1
                · simp only [Value.slice.injEq, Option.some.injEq, Addr.mk.injEq, and_true] at e
                  obtain ⟨rfl, _⟩ := e
                  exact hcl t hlt3
              obtain ⟨z, hcz, hzo⟩ := hzz
              obtain ⟨l, hl⟩ : ∃ l, l = Lk[t] := ⟨_, rfl⟩
              rw [← hl] at hzo
              have HZO := hid hzo
              have hll : l.length = k := by
                rw [hl]; exact HEL.out _ (List.getElem_mem _)
              have HLEN := hid (show [((f : Int) + (m : Int))].length + l.length ≤ 1048576 by simp; omega)
              have HTS := hid (show Lk.take (t + 1) = Lk.take t ++ [l] by rw [List.take_succ_eq_append_getElem hlt3, hl])
              have HLIT := hid (Own.lit1 wr ((f : Int) + (m : Int)))
              obtain ⟨L, hLd⟩ : ∃ L, L = outTo (allL n k) f m ++ (Lk.take t).map (fun l => ((f + m : Nat) : Int) :: l) := ⟨_, rfl⟩
              have hLl : L.length ≤ 30000 := by
                rw [hLd, List.length_append, List.length_map]
                have h1 : (Lk.take t).length ≤ t := List.length_take_le _ _
                have h2 : m * 2000 ≤ 24000 := by omega
                omega
              rw [← hLd] at HLT
              have HNEXT := hid (show outTo (allL n k) f m ++ (Lk.take (t + 1)).map (fun l => ((f + m : Nat) : Int) :: l) = L ++ [[((f : Int) + (m : Int))] ++ l] by
                rw [HTS.out, List.map_append, ← List.append_assoc, ← hLd, ← EX.out]; rfl)
              have hsz := HB2.out.size
              have hgl2 := hgl
              clear hul hzo hl hLd hll
              go_wp2_with (first
                | (at_builtin; refine wpList_append_src _ rfl (.tmp 33) (.tmp 34) 22 rfl wr.heap.size i0 Try.underlying22 hi hz0 hz1 hz2 (.slice (some ⟨wr.heap.size, 0, none⟩) 1 1) [((f : Int) + (m : Int))] rfl HLIT.out z _ l rfl (HZO.out.below ((Below.refl _ _).alloc (Nat.le_refl _) _)) HLEN.out (size_alloc2 wr _) ?_; intro v3 w3 hown3 hgrow3; obtain ⟨g3, n3, cap3, rfl⟩ := Own.shape hown3 (by simp); have HB3 := hid (((Below.refl wr.heap.size wr).alloc (Nat.le_refl _) (.cells #[.int .i64 ((f : Int) + (m : Int))] 3)).grown hgrow3 (size_alloc2 wr _) own_low); have HB3A := hid (HB3.out.alloc HB3.out.size (.cells #[(.slice (some ⟨g3, 0, none⟩) n3 cap3)] 22)); have HO3 := hid (hown3.below ((Below.refl _ _).alloc (Nat.le_refl _) (.cells #[(.slice (some ⟨g3, 0, none⟩) n3 cap3)] 22))); have HLA := HLT.out.below HB3A.out; obtain ⟨vs, hvl, hvr, hve⟩ := HLA; have HVR := hid hvr; have HVE := hid hve; have HVL := hid hvl; have hs3 := HB3.out.size; have HV3 := hid hown3.one; clear hown3 hgrow3 hvr hve hvl)
                | (at_builtin; refine wpList_append_lies _ rfl (.tmp 31) (.tmp 36) 28 rfl w.heap.size 22 j0 (.slice none 0 0) 1 24 Try.underlying28 hj hy0 hy1 hy2 rfl (by decide) _ _ _ rfl HVR.out ⟨w3.heap.size, 0, none⟩ 1 1 [(.slice (some ⟨g3, 0, none⟩) n3 cap3)] rfl rfl (fun j u hj => new_cellV j hj) HV3.out (Nat.zero_lt_one) ?c3 ?c4 ?c5 ?_)
                | fail)
              case c3 => unfold maxLen; omega
              case c4 => omega
              case c5 => (try simp); omega
              intro g4 cap4 w4 hown4 hgrow4 hor
              have hbase : wr.heap.size ≤ (w3.alloc (.cells #[(.slice (some ⟨g3, 0, none⟩) n3 cap3)] 22)).heap.size := Nat.le_trans hs3 (size_alloc2 _ _)
              have HPU := hid (show Lists w4 w.heap.size (.slice (some ⟨g4, 0, none⟩) (L.length + 1) cap4) (L ++ [[((f : Int) + (m : Int))] ++ l]) from Lists_push HVL.out HVR.out HVE.out (HO3.out.mono hsz) hown4 hgrow4)
              have HB4 := hid (((Below_chain HB2.out HB3.out).alloc (Nat.le_trans hsz hs3) (.cells #[(.slice (some ⟨g3, 0, none⟩) n3 cap3)] 22)).grown hgrow4 (Nat.le_trans hsz hbase) (fun q hq => (World.ownsRow.lt HVR.out q hq).1))
              have HU4 := hid (Lists_kept (HUL2.out.below HB3A.out) HVR.out hgrow4 (fun e => by
                rcases HAP.out g e with h | h <;> omega))
              have HA4 := hid (show Apart wo.heap.size w1.heap.size (.slice (some ⟨g4, 0, none⟩) (L.length + 1) cap4) from fun q hq => by
                simp only [Value.ownBlock, Option.some.injEq] at hq
                subst hq
                rcases hor with h | h
                · exact HAP.out g4 h
                · right; omega)
              have hs4 : w1.heap.size ≤ w4.heap.size := Nat.le_trans hsw (Nat.le_trans hbase hgrow4.size)
              clear hown4 hgrow4 hor
              go_wp2_with fail
              go_roundw
              case rel => first | exact ⟨t + 1, by omega, by go_num, by rw [HNEXT.out]; exact HPU.out, HU4.out, HA4.out, hs4, HB4.out⟩ | ((repeat apply Exists.intro); exact ⟨⟨t + 1, by omega, by go_num, by rw [HNEXT.out]; exact HPU.out, HU4.out, HA4.out, hs4, HB4.out⟩, rfl⟩)
              case measure => simp [intOf]; omega
            · obtain rfl : t = Lk.length := by omega
              clear hul
              go_wp2_with fail
              go_roundw
              case rel => first | exact ⟨m + 1, by omega, by go_num, by rw [HOT.out]; simpa using HLT.out, HB2.out⟩ | ((repeat apply Exists.intro); exact ⟨⟨m + 1, by omega, by go_num, by rw [HOT.out]; simpa using HLT.out, HB2.out⟩, rfl⟩)
              case measure => simp [intOf]; omega
      · have HE : Hid (allL n (k + 1) f = outTo (allL n k) f m) := by
          show allL n (k + 1) f = outTo (allL n k) f m
          rw [allL, show n - f = m by omega]
        go_wp2_with fail
        go_ret
        exact ⟨_, rfl, by rw [HE.out]; exact HLI.out, HBEL.out⟩
end Go.Proofs.Ytkphbelgamfmnaa
