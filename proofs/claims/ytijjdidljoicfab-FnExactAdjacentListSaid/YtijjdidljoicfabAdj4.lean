/- Facts and contracts (Kept, AdjN, WkM, CAt1, NxtM, MixL, OnceC, Hlv, RevM, Srch), merged. Conditions: as told at each. -/
import Derived.Deep.AppendLies
import Derived.Test.YtijjdidljoicfabAdj3

/- Append that says which row it leaves; frames that spare a row. No conditions. -/
namespace Go.Proofs.Ytijjdidljoicfab
open Go.RowKit
set_option linter.unusedVariables false

/-- Blocks from M on stay as they are, but for one row. -/
structure Fr (M : Nat) (row : Option Nat) (w w' : World) : Prop where
  size : w.heap.size ≤ w'.heap.size
  block : ∀ k, M ≤ k → k < w.heap.size → some k ≠ row → w'.heap[k]? = w.heap[k]?
theorem Fr.refl (M : Nat) (row : Option Nat) (w : World) : Fr M row w w := ⟨Nat.le_refl _, fun _ _ _ _ => rfl⟩
theorem Fr.of_grown {M : Nat} {row : Option Nat} {w w' : World} (h : w.grownBy w' row) : Fr M row w w' := ⟨h.size, fun k _ hk hn => h.block k hk hn⟩
theorem Fr.trans {M : Nat} {row : Option Nat} {w w1 w2 : World} (h : Fr M row w w1) (h' : Fr M row w1 w2) : Fr M row w w2 :=
  ⟨Nat.le_trans h.size h'.size, fun k hm hk hn => (h'.block k hm (Nat.lt_of_lt_of_le hk h.size) hn).trans (h.block k hm hk hn)⟩
theorem Fr.any {M : Nat} {row : Option Nat} {w w' : World} (h : Fr M none w w') : Fr M row w w' := ⟨h.size, fun k hm hk _ => h.block k hm hk (by simp)⟩
theorem Fr.fresh {M g : Nat} {row : Option Nat} {w w1 w2 : World} (h : Fr M row w w1) (h' : Fr M (some g) w1 w2) (hg : row = some g ∨ w.heap.size ≤ g) : Fr M row w w2 :=
  ⟨Nat.le_trans h.size h'.size, fun k hm hk hn => (h'.block k hm (Nat.lt_of_lt_of_le hk h.size) (by
    rcases hg with rfl | hg
    · exact hn
    · simp; omega)).trans (h.block k hm hk hn)⟩
theorem Own.fr {M : Nat} {row : Option Nat} {w w' : World} {v : Value} {p : List Int} (h : Own w M v p) (hf : Fr M row w w') (hn : v.ownBlock = none ∨ v.ownBlock ≠ row) : Own w' M v p := by
  have hlt := World.ownsRow.lt h
  refine ⟨h.1, ?_⟩
  rcases h.2 with hnil | ⟨g, cap, cur, rfl, hg, hgg, rest⟩
  · exact .inl hnil
  · refine .inr ⟨g, cap, cur, rfl, hg, ?_, rest⟩
    have := hlt g rfl
    rw [hf.block g this.1 this.2 (by
      rcases hn with hn | hn
      · simp [Value.ownBlock] at hn
      · simpa [Value.ownBlock] using hn)]
    exact hgg
theorem Own.before {M g cap n : Nat} {w : World} {p : List Int} {x : Int} (h : Own w M (.slice (some ⟨g, 0, none⟩) n cap) (p ++ [x])) : Own w M (.slice (some ⟨g, 0, none⟩) p.length cap) p := by
  refine ⟨by simp, ?_⟩
  rcases h.2 with ⟨hn, _⟩ | ⟨g', cap', cur, e, hg, hgg, h1, h2, h3, h4⟩
  · simp at hn
  · simp only [Value.slice.injEq, Option.some.injEq, Addr.mk.injEq, and_true] at e
    obtain ⟨rfl, rfl, rfl⟩ := e
    refine .inr ⟨g, cap, cur, rfl, hg, hgg, ?_, h2, h3, ?_⟩
    · simp at h1; omega
    · have h5 := congrArg (List.take p.length) h4
      rw [List.take_take, Nat.mul_one, Nat.min_eq_left (by simp)] at h5
      rw [Nat.mul_one, h5]
      simp
/-- append of one element that says which row it leaves. -/
theorem run_append_kept {P : Program} (w : World) (base : Nat) (t ty e : TypeId) (i : TypeInfo) (z : Value) (bytes : Nat) (ht : P.underlying t = some (.slice e)) (hi : P.info? e = some i) (hz : i.zero = some z)
    (hsize : i.size = 1) (hby : i.bytes = bytes) (hzs : z.cells.size = 1) (v : Value) (n : Nat) (xs : List Value) (hown : w.ownsRow base e 1 v n xs)
    (a : Addr) (c : Nat) (u : Value) (hnews : ∀ j y, [u][j]? = some y → w.cell? (a.add j) = some y) (h1 : u.oneCell' = true) (h63 : n + 1 ≤ maxLen) (hbytes : (n + 1) * bytes ≤ 140737488355328) (hbase : base ≤ w.heap.size) :
    ∃ g cap w', (Builtin.append_ #[t, t] ty #[v, .slice (some a) 1 c]).run P w = .ok (.slice (some ⟨g, 0, none⟩) (n + 1) cap) w' ∧ w'.ownsRow base e 1 (.slice (some ⟨g, 0, none⟩) (n + 1) cap) (n + 1) (xs ++ [u]) ∧ w.grownBy w' v.ownBlock ∧
      (v = .slice (some ⟨g, 0, none⟩) n cap ∨ (g = w.heap.size ∧ w.grownBy w' none)) ∧ g < w'.heap.size := by
  obtain ⟨v', w', hr, h2, h3, _, h5⟩ := run_append_own_at (P := P) w base t ty e i z 1 bytes ht hi hz hsize hby hzs (by omega) v n xs hown a 1 c [u] rfl hnews (by simpa using h1) h63 hbytes hbase
  obtain ⟨g, cap, rfl, _, hlt⟩ := h2.form (by omega)
  refine ⟨g, cap, w', hr, h2, h3, ?_, hlt⟩
  rcases h5 with h5 | h5
  · rcases hown.2 with ⟨rfl, _⟩ | ⟨g', cap', cur, rfl, hbg, hg, hnc, hcm, hcs, htake⟩
    · simp [Value.ownBlock] at h5
    · have hgg : g = g' := by simpa [Value.ownBlock] using h5
      subst hgg
      by_cases hroom : n + 1 ≤ cap'
      · have hr2 := run_append_room (P := P) w t ty e i ht hi g n cap' cur hg a 1 c [u] (by simp [hsize]) hnews (by simpa using h1) hroom (by simp [hsize, hcs]; omega)
        rw [hr] at hr2
        simp only [Result.ok.injEq, Value.slice.injEq, true_and] at hr2
        left
        rw [hr2.1]
      · have holds : ∀ j y, xs[j]? = some y → w.cell? ((⟨g, 0, none⟩ : Addr).add j) = some y := hown.cells (g := g) rfl
        have hr2 := run_append_grow (P := P) w t ty e i z ht hi hz ⟨g, 0, none⟩ n cap' xs (by rw [hsize]; exact hown.1) holds a 1 c [u] (by simp [hsize]) hnews (by omega) (by unfold maxLen at h63; omega) (growslice_fits (by omega) (by rw [hby]; exact hbytes))
        rw [hr] at hr2
        simp only [Result.ok.injEq, Value.slice.injEq, Option.some.injEq, Addr.mk.injEq] at hr2
        refine .inr ⟨hr2.1.1.1, ?_⟩
        rw [hr2.2]
        exact ⟨rfl, rfl, rfl, by simp, fun k hk _ => heap_alloc_old w.drew _ hk⟩
  · have hg : g = w.heap.size := by simpa [Value.ownBlock] using h5
    refine .inr ⟨hg, ?_⟩
    rcases hown.2 with ⟨rfl, _⟩ | ⟨g', cap', cur, rfl, hbg, hgc, hnc, hcm, hcs, htake⟩
    · exact h3
    · by_cases hroom : n + 1 ≤ cap'
      · have hr2 := run_append_room (P := P) w t ty e i ht hi g' n cap' cur hgc a 1 c [u] (by simp [hsize]) hnews (by simpa using h1) hroom (by simp [hsize, hcs]; omega)
        rw [hr] at hr2
        simp only [Result.ok.injEq, Value.slice.injEq, Option.some.injEq, Addr.mk.injEq] at hr2
        have := (Array.getElem?_eq_some_iff.1 hgc).1
        omega
      · have holds : ∀ j y, xs[j]? = some y → w.cell? ((⟨g', 0, none⟩ : Addr).add j) = some y := hown.cells (g := g') rfl
        have hr2 := run_append_grow (P := P) w t ty e i z ht hi hz ⟨g', 0, none⟩ n cap' xs (by rw [hsize]; exact hown.1) holds a 1 c [u] (by simp [hsize]) hnews (by omega) (by unfold maxLen at h63; omega) (growslice_fits (by omega) (by rw [hby]; exact hbytes))
        rw [hr] at hr2
        simp only [Result.ok.injEq] at hr2
        rw [hr2.2]
        exact ⟨rfl, rfl, rfl, by simp, fun k hk _ => heap_alloc_old w.drew _ hk⟩
theorem wpList_append_kept {P : Program} (w : World) {ops : Array Oper} {rest : List Oper} {o : Oper} {a : Act} {Q : Exit → Act → World → Prop} (hgd : o.guard = none) (s x : Operand) (t : TypeId)
    (ho : o.op = .call { callee := .builtin .append, args := #[s, x], argTypes := #[t, t] })
    (base : Nat) (e : TypeId) (i : TypeInfo) (z : Value) (bytes : Nat) (ht : P.underlying t = some (.slice e)) (hi : P.info? e = some i) (hz : i.zero = some z)
    (hsize : i.size = 1) (hby : i.bytes = bytes) (hzs : z.cells.size = 1) (v : Value) (n : Nat) (xs : List Value) (hs : a.eval s = v) (hown : w.ownsRow base e 1 v n xs)
    (ad : Addr) (c : Nat) (u : Value) (hx : a.eval x = .slice (some ad) 1 c) (hnews : ∀ j y, [u][j]? = some y → w.cell? (ad.add j) = some y) (h1 : u.oneCell' = true) (h63 : n + 1 ≤ maxLen) (hbytes : (n + 1) * bytes ≤ 140737488355328) (hbase : base ≤ w.heap.size)
    (h : ∀ g cap w', w'.ownsRow base e 1 (.slice (some ⟨g, 0, none⟩) (n + 1) cap) (n + 1) (xs ++ [u]) → w.grownBy w' v.ownBlock → (v = .slice (some ⟨g, 0, none⟩) n cap ∨ (g = w.heap.size ∧ w.grownBy w' none)) → g < w'.heap.size → wpList P ops Q rest (a.put o.dst (.slice (some ⟨g, 0, none⟩) (n + 1) cap)) w') :
    wpList P ops Q (o :: rest) a w := by
  refine wpList_plain hgd fun K hK => ?_
  obtain ⟨g, cap, w', hr, h2, h3, h4, h5⟩ := run_append_kept (P := P) w base t o.type e i z bytes ht hi hz hsize hby hzs v n xs hown ad c u hnews h1 h63 hbytes hbase
  unfold Oper.wp execOp
  simp only [ho, resolve, invoke, builtin, Sem.run_bind, Sem.run_pure, Result.andThen_ok, List.map_toArray, List.map_cons, List.map_nil, hs, hx, hr]
  exact hK _ _ (h g cap w' h2 h3 h4 h5)
theorem Sits.at' {w : World} {g o n c : Nat} {xs : List Int} (h : Sits w (.slice (some ⟨g, o, none⟩) n c) xs) : n = xs.length ∧ ∀ i (hi : i < xs.length), w.cell? ⟨g, o + i, none⟩ = some (.int .i64 xs[i]) := by
  obtain ⟨b, off, c', e, _, _, _, hc⟩ := h
  simp only [Value.slice.injEq, Option.some.injEq, Addr.mk.injEq, and_true] at e
  obtain ⟨⟨rfl, rfl⟩, rfl, rfl⟩ := e
  exact ⟨rfl, hc⟩
end Go.Proofs.Ytijjdidljoicfab

/- Contracts: the closures of AdjacentList. Conditions: what they read lies where it is told. -/
namespace Go.Proofs.Ytijjdidljoicfab
open Go.RowKit
set_option linter.unusedVariables false

set_option maxHeartbeats 1000000 in
theorem nearA_any (A : List (List Int)) (y x : Nat) (g T c : Nat) (p N0 N1 : Addr) (w : World) (hc0 : w.cell? N0 = some (.func (.func 94) #[] #[.pointer (some p)])) (hp : w.cell? p = some (.int .i64 1))
    (hc1 : w.cell? N1 = some (.slice (some ⟨g, 0, none⟩) T c)) (hT : T ≤ 1000) (hy : y < T) (hx : x < T) (u u' : Value) (l l' : List Int) (hu : w.cell? ⟨g, y, none⟩ = some u) (hu' : w.cell? ⟨g, x, none⟩ = some u') (hr : Reads w u l) (hr' : Reads w u' l') (hf : fewL l) (hf' : fewL l') :
    Calls Try.prog 55 #[.int .i64 y, .int .i64 x, .pointer (some N0), .pointer (some N1)] w fun e w' => e = .returned (.bool (ldP 1 l l')) ∧ Below w.heap.size w w' := by
  have HR := hid hr
  have HR' := hid hr'
  have HP := hid hp
  obtain ⟨q, hq⟩ : ∃ q, q = ldP 1 l l' := ⟨_, rfl⟩
  have HQ := hid hq
  have b0 := World.block_lt_of_cell? w _ hc0
  have b1 := World.block_lt_of_cell? w _ hc1
  have bg := World.block_lt_of_cell? w _ hu
  have e0 : (0 : Int) ≤ (y : Int) := by omega
  have e1 : (y : Int) < (T : Int) := by omega
  have e2 : (0 : Int) ≤ (x : Int) := by omega
  have e3 : (x : Int) < (T : Int) := by omega
  have hwy : IntKind.i64.wrap (y : Int) = (y : Int) := IntWalk.i64_in _ (by omega)
  have hwx : IntKind.i64.wrap (x : Int) = (x : Int) := IntWalk.i64_in _ (by omega)
  clear hr hr' hp hq
  rw [← HQ.out]
  go_enter Try.func55, Try.ntmps55
  go_wp2_with fail
  go_region_held3 (fun w' => w'.cell? N0 = some (.func (.func 94) #[] #[.pointer (some p)]) ∧ w'.cell? N1 = some (.slice (some ⟨g, 0, none⟩) T c) ∧ w'.cell? ⟨g, y, none⟩ = some u ∧ w'.cell? ⟨g, x, none⟩ = some u')
    (first | exact ⟨hc0, hc1, hu, hu'⟩ | exact ⟨(HB1.out.cell (by exact b0)).trans hc0, (HB1.out.cell (by exact b1)).trans hc1, (HB1.out.cell (by exact bg)).trans hu, (HB1.out.cell (by exact bg)).trans hu'⟩ | go_keep | fail)
    (first
      | (go_at_call 56; refine (leadTo_any p 1 _ _ l l' _ ?_ ?_ ?_ hf hf').mono ?_; (exact HP.out); (exact HR.out.below (Below.refl _ _).drew); (exact HR'.out.below (Below.refl _ _).drew); rintro e w1 ⟨rfl, hb1⟩; rw [← HQ.out]; have HB1 := hid (show Below w.heap.size w w1 from (Below.refl _ _).drew.trans hb1); clear hb1)
      | fail)
  all_goals
    go_wp2_with fail
    go_returns
    exact ⟨rfl, HB1.out⟩
theorem grown_step {w wr w1 w2 : World} {b : Nat} {r : Option Nat} (h : w.grownBy wr (some b)) (hb : Below wr.heap.size wr w1) (hg : w1.grownBy w2 r) (hr : ∀ q, r = some q → w.heap.size ≤ q) (v : Value) : w.grownBy (w2.setCell ⟨b, 0, none⟩ v) (some b) := by
  have hs := grownBy_setCellAt w2 b 0 v
  have s1 := h.size
  have s2 := hb.size
  refine ⟨hs.os.trans (hg.os.trans (hb.os.trans h.os)), hs.tape.trans (hg.tape.trans (hb.tape.trans h.tape)), hs.output.trans (hg.output.trans (hb.output.trans h.output)), Nat.le_trans s1 (Nat.le_trans s2 (Nat.le_trans hg.size hs.size)), fun k hk hn => ?_⟩
  have hsz := hg.size
  rw [hs.block k (by omega) hn, hg.block k (by omega) (fun e => by have := hr k e.symm; omega), hb.block k (by omega), h.block k hk hn]
set_option maxHeartbeats 2000000 in
theorem visA_any (gA cA T bF : Nat) (NA : Addr) (RV : Nat → Value) (w : World) (p : List Int) (gp cap : Nat) (hp : Sits w (.slice (some ⟨gp, 0, none⟩) p.length cap) p) (hpr : ∀ i (hi : i < p.length), 0 ≤ p[i] ∧ p[i] < T) (hT : T ≤ 1000)
    (hpl : p.length ≤ 1000) (hbox : w.rowIs bF 22 1 (fun _ => .slice none 0 0)) (hNA : w.cell? NA = some (.slice (some ⟨gA, 0, none⟩) T cA)) (hn1 : NA.block ≠ bF) (hn2 : gA ≠ bF) (hn3 : gp ≠ bF)
    (hRV : ∀ i, i < T → w.cell? ⟨gA, i, none⟩ = some (RV i) ∧ ∃ ao n c, RV i = .slice ao n c) :
    Calls Try.prog 59 #[.slice (some ⟨gp, 0, none⟩) p.length cap, .pointer (some ⟨bF, 0, none⟩), .pointer (some NA)] w fun e w' =>
      e = .returned (.bool false) ∧ (∃ u, w'.rowIs bF 22 1 (fun _ => u) ∧ w'.ownsRow w.heap.size 28 1 u p.length (p.map (fun x : Int => RV x.toNat))) ∧ w.grownBy w' (some bF) := by
  obtain ⟨j0, hj, hy0, hy1, hy2⟩ := info_parts Try.infoL
  have HP := hid hp
  have HPR := hid hpr
  have HBOX := hid hbox
  have HNA := hid hNA
  have HRV := hid hRV
  have bF0 := hbox.lt
  clear hp hpr hbox hNA hRV
  go_enter Try.func59, Try.ntmps59
  go_wp2_with fail
  go_loopw [9] (fun i wr => ∃ k : Nat, k ≤ p.length ∧ i = .int .i64 k ∧ (∃ ao c, wr.rowIs bF 22 1 (fun _ => .slice ao k c) ∧ wr.ownsRow w.heap.size 28 1 (.slice ao k c) k ((p.take k).map (fun x : Int => RV x.toNat))) ∧ w.grownBy wr (some bF)) (fun i _ => p.length - (intOf i).toNat)
  case atStart => exact ⟨0, Nat.zero_le _, rfl, ⟨none, 0, HBOX.out, World.ownsRow_nil _ _ _ _⟩, ⟨rfl, rfl, rfl, Nat.le_refl _, fun _ _ _ => rfl⟩⟩
  case round =>
    obtain ⟨k, hk, rfl, ⟨ao, c, hrow, hown⟩, hgr⟩ := hrel
    have HROW := hid hrow
    have HOWN := hid hown
    have HGR := hid hgr
    by_cases hlt : k < p.length
    · have hcx : wr.cell? ⟨gp, k, none⟩ = some (.int .i64 p[k]) := by
        have := (Sits.at' HP.out).2 k hlt
        rw [Nat.zero_add] at this
        exact hgr.cell this (by simp only [ne_eq, Option.some.injEq]; exact hn3)
      have hx := HPR.out k hlt
      obtain ⟨x, hxx⟩ : ∃ x : Nat, p[k] = (x : Int) := ⟨p[k].toNat, by omega⟩
      have HXX := hid hxx
      rw [hxx] at hcx hx
      have hxT : x < T := by omega
      obtain ⟨hrv, ar, nr, cr, hre⟩ := HRV.out x hxT
      have HRE := hid hre
      have hcz : wr.cell? ⟨gA, x, none⟩ = some (.slice ar nr cr) := by rw [← hre]; exact hgr.cell hrv (by simp only [ne_eq, Option.some.injEq]; exact hn2)
      have hcA : wr.cell? NA = some (.slice (some ⟨gA, 0, none⟩) T cA) := hgr.cell HNA.out (by simp only [ne_eq, Option.some.injEq]; exact hn1)
      have hcF := hrow.cell (i := 0) (by omega)
      have hfF := hrow.frozen 0
      have e2 : (0 : Int) ≤ (x : Int) := by omega
      have e3 : (x : Int) < (T : Int) := by omega
      have hwx : IntKind.i64.wrap (x : Int) = (x : Int) := IntWalk.i64_in _ (by omega)
      have hsz := hgr.size
      have bF1 := hrow.lt
      have HAL := hid (show Below wr.heap.size wr (wr.drew.alloc (.cells #[.slice ar nr cr] 28)) from (Below.refl _ _).drew.alloc (Nat.le_refl _) _)
      have hcF2 : (wr.drew.alloc (.cells #[.slice ar nr cr] 28)).cell? ⟨bF, 0, none⟩ = some (.slice ao k c) := cell_below hcF HAL.out
      have HOA := hid (ownsRow_below hown HAL.out)
      have hA : k + 1 ≤ maxLen := by unfold maxLen; omega
      have hB : (k + 1) * 24 ≤ 140737488355328 := by omega
      have hbs : w.heap.size ≤ (wr.drew.alloc (.cells #[.slice ar nr cr] 28)).heap.size := Nat.le_trans hsz HAL.out.size
      have HRW := hid (show ∀ w2, (wr.drew.alloc (.cells #[.slice ar nr cr] 28)).grownBy w2 (Value.ownBlock (.slice ao k c)) → w2.rowIs bF 22 1 (fun _ => .slice ao k c) from fun w2 hg => (rowIs_below hrow HAL.out bF1).of_block (hg.block bF (Nat.lt_of_lt_of_le bF1 HAL.out.size) (fun e => by
        have := (World.ownsRow.lt HOWN.out bF e.symm).1
        omega)))
      have HONE := hid (show ∀ u ∈ [Value.slice ar nr cr], u.oneCell' = true from fun u hu => by simp at hu; subst hu; rfl)
      clear hrow hown hgr hxx hrv hre hx
      go_wp2_with fail
      go_region_law
        (first
          | (refine step_append_any _ rfl _ _ _ rfl w.heap.size 28 j0 (.slice none 0 0) 1 24 Try.underlying22 hj hy0 hy1 hy2 rfl Nat.zero_lt_one (.slice ao k c) k ((p.take k).map (fun x : Int => RV x.toNat)) rfl HOA.out ⟨wr.heap.size, 0, none⟩ 1 1 [.slice ar nr cr] rfl rfl (fun j u hj => new_cellV j hj) HONE.out hA hB hbs ?_; intro v2 w2 hown2 hgrow2 hnil2; obtain ⟨g2, cap2, rfl, _, hlt2⟩ := hown2.form (by omega); have hr2 := HRW.out w2 hgrow2; have hc2 := hr2.cell (i := 0) (by omega); have hf2 := hr2.frozen 0; have HR2 := hid (hr2.set 0 (.slice (some ⟨g2, 0, none⟩) (k + 1) cap2)); have HO2 := hid hown2; have HG2 := hid hgrow2; clear hown2 hgrow2 hnil2 hr2)
          | fail)
      all_goals
        have HTK := hid (show (p.take (k + 1)).map (fun x : Int => RV x.toNat) = (p.take k).map (fun x : Int => RV x.toNat) ++ [.slice ar nr cr] by
          rw [List.take_succ_eq_append_getElem hlt, List.map_append, HXX.out, ← HRE.out]
          simp)
        have HB2 := hid (grown_step HGR.out HAL.out HG2.out (fun q hq => (World.ownsRow.lt HOWN.out q hq).1) (.slice (some ⟨g2, 0, none⟩) (k + 1) cap2))
        have HO3 := hid (World.ownsRow.kept HO2.out (grownBy_setCellAt w2 bF 0 (.slice (some ⟨g2, 0, none⟩) (k + 1) cap2)) (.inr (fun e => by
          have := (World.ownsRow.lt HO2.out bF e).1
          omega)))
        go_wp2_with fail
        go_roundw
        case rel => exact ⟨k + 1, by omega, by go_num, ⟨_, _, HR2.out.congr (fun i hi => by rw [if_pos (by omega)]), by rw [HTK.out]; exact HO3.out⟩, HB2.out⟩
        case measure => simp [intOf]; omega
    · obtain rfl : k = p.length := by omega
      clear hrow hown hgr
      go_wp2_with fail
      go_returns
      exact ⟨rfl, ⟨_, HROW.out, by have h := HOWN.out; rw [List.take_length] at h; exact h⟩, HGR.out⟩
end Go.Proofs.Ytijjdidljoicfab

/- What walk does where a function tells what is near, as a plain function; what an append in it leaves. No conditions. -/
namespace Go.Proofs.Ytijjdidljoicfab
open Go.RowKit
set_option linter.unusedVariables false

/-- x is near the last element of p, if there is one -/
def folG (nr : Int → Int → Bool) (p : List Int) (x : Int) : Bool := decide (p.length = 0) || nr (p.getD (p.length - 1) 0) x
def stopG (nr : Int → Int → Bool) (p : List Int) (x : Int) : Bool := hasB p x || !(folG nr p x)
def wkL {σ : Type} (st : List Int → Int → Bool) (f : List Int → σ → Bool × σ) (p : List Int) : List Int → σ → Bool × σ
  | [], s => (true, s)
  | x :: xs, s => if st p x = true then wkL st f p xs s else if (f (p ++ [x]) s).1 = true then wkL st f p xs (f (p ++ [x]) s).2 else (false, (f (p ++ [x]) s).2)
def wk {σ : Type} (st : List Int → Int → Bool) (ws : List Int) (vis : List Int → σ → Bool × σ) : Nat → List Int → σ → Bool × σ
  | 0, p, s => vis p s
  | m + 1, p, s => wkL st (wk st ws vis m) p ws s
theorem wkL_skip {σ : Type} {st : List Int → Int → Bool} {f : List Int → σ → Bool × σ} {p ws : List Int} {k : Nat} {s : σ} (hk : k < ws.length) (h : st p ws[k] = true) : wkL st f p (ws.drop k) s = wkL st f p (ws.drop (k + 1)) s := by
  rw [List.drop_eq_getElem_cons hk, wkL, if_pos h]
theorem wkL_on {σ : Type} {st : List Int → Int → Bool} {f : List Int → σ → Bool × σ} {p ws : List Int} {k : Nat} {s s1 : σ} (hk : k < ws.length) (h : st p ws[k] = false) (hf : f (p ++ [ws[k]]) s = (true, s1)) : wkL st f p (ws.drop k) s = wkL st f p (ws.drop (k + 1)) s1 := by
  rw [List.drop_eq_getElem_cons hk, wkL, if_neg (by rw [h]; simp), hf]; rfl
theorem wkL_off {σ : Type} {st : List Int → Int → Bool} {f : List Int → σ → Bool × σ} {p ws : List Int} {k : Nat} {s s1 : σ} (hk : k < ws.length) (h : st p ws[k] = false) (hf : f (p ++ [ws[k]]) s = (false, s1)) : wkL st f p (ws.drop k) s = (false, s1) := by
  rw [List.drop_eq_getElem_cons hk, wkL, if_neg (by rw [h]; simp), hf]; rfl
theorem wkL_end {σ : Type} {st : List Int → Int → Bool} {f : List Int → σ → Bool × σ} {p ws : List Int} {s : σ} : wkL st f p (ws.drop ws.length) s = (true, s) := by
  rw [List.drop_length]; rfl
theorem wk_live {σ : Type} {st : List Int → Int → Bool} {ws : List Int} {vis : List Int → σ → Bool × σ} {live : σ → Prop} (HL : ∀ p s s1, live s → vis p s = (true, s1) → live s1) : ∀ (m : Nat) (p : List Int) (s s1 : σ), live s → wk st ws vis m p s = (true, s1) → live s1 := by
  intro m
  induction m with
  | zero => intro p s s1 h e; exact HL p s s1 h e
  | succ m ih =>
    intro p s s1 h e
    rw [wk] at e
    have key : ∀ (vs : List Int) (s : σ), live s → wkL st (wk st ws vis m) p vs s = (true, s1) → live s1 := by
      intro vs
      induction vs with
      | nil => intro s h e; simp only [wkL, Prod.mk.injEq, true_and] at e; rw [← e]; exact h
      | cons x t iht =>
        intro s h e
        rw [wkL] at e
        split at e
        · exact iht s h e
        · obtain ⟨r, hr⟩ : ∃ r, r = wk st ws vis m (p ++ [x]) s := ⟨_, rfl⟩
          rw [← hr] at e
          obtain ⟨b, s2⟩ := r
          cases b with
          | true => exact iht s2 (ih _ _ _ h hr.symm) (by simpa using e)
          | false => simp at e
    exact key ws s h e
theorem Fr.of_below {M : Nat} {row : Option Nat} {w w' : World} (h : Below w.heap.size w w') : Fr M row w w' := ⟨h.size, fun k _ hk _ => h.block k hk⟩
/-- the row that append makes of x alone -/
abbrev oneObj (x : Int) : Obj := .cells #[.int .i64 x] 3
theorem wk_all {σ : Type} {J : World → σ → Prop} {M c : Nat} {ao : Option Addr} {p : List Int} {x : Int} {s : σ} {W : World}
    (HJ : ∀ w w' row, J w s → w.grownBy w' row → (∀ k, row = some k → M ≤ k) → J w' s) (hj : J W s) (hown : Own W M (.slice ao p.length c) p) (hM : M ≤ W.heap.size) :
    ∀ g1 cap1 w1, w1.ownsRow M 3 1 (.slice (some ⟨g1, 0, none⟩) (p.length + 1) cap1) (p.length + 1) (p.map (Value.int .i64) ++ [.int .i64 x]) →
      (W.alloc (oneObj x)).grownBy w1 (Value.ownBlock (.slice ao p.length c)) → Own w1 M (.slice (some ⟨g1, 0, none⟩) (p.length + 1) cap1) (p ++ [x]) ∧ J w1 s ∧ M ≤ w1.heap.size := fun g1 cap1 w1 h1 h2 =>
  ⟨Own.snoc h1, HJ _ _ _ (HJ _ _ none hj (World.grownBy_alloc W _ none) (fun k hk => by cases hk)) h2 (fun k hk => (World.ownsRow.lt hown k hk).1), by have := h2.size; simp at this; omega⟩
theorem wk_end {M c : Nat} {ao : Option Addr} {p : List Int} {x : Int} {w W : World} (hfr : Fr M (Value.ownBlock (.slice ao p.length c)) w W) (hown : Own W M (.slice ao p.length c) p) :
    ∀ g1 cap1 w1 w2, (W.alloc (oneObj x)).grownBy w1 (Value.ownBlock (.slice ao p.length c)) →
      ((.slice ao p.length c : Value) = .slice (some ⟨g1, 0, none⟩) p.length cap1 ∨ (g1 = (W.alloc (oneObj x)).heap.size ∧ (W.alloc (oneObj x)).grownBy w1 none)) →
      Own w2 M (.slice (some ⟨g1, 0, none⟩) (p.length + 1) cap1) (p ++ [x]) → Fr M (some g1) w1 w2 → Own w2 M (.slice ao p.length c) p ∧ Fr M (Value.ownBlock (.slice ao p.length c)) w w2 := by
  intro g1 cap1 w1 w2 hg hloc ho2 hf2
  have hal : Fr M (Value.ownBlock (.slice ao p.length c)) W (W.alloc (oneObj x)) := Fr.of_grown (World.grownBy_alloc W _ _)
  have hf1 : Fr M (Value.ownBlock (.slice ao p.length c)) w w1 := (hfr.trans hal).trans (Fr.of_grown hg)
  have hsz := hfr.size
  rcases hloc with e | ⟨e, hg0⟩
  · rw [e] at hf1 ⊢
    exact ⟨ho2.before, hf1.fresh hf2 (.inl rfl)⟩
  · refine ⟨?_, hf1.fresh hf2 (.inr (by rw [e]; simp; omega))⟩
    have h1 : Own w1 M (.slice ao p.length c) p := (hown.fr (row := none) (Fr.of_grown (World.grownBy_alloc W _ none)) (by cases ao <;> simp [Value.ownBlock])).fr (Fr.of_grown hg0) (by cases ao <;> simp [Value.ownBlock])
    refine h1.fr hf2 ?_
    cases hob : Value.ownBlock (.slice ao p.length c) with
    | none => exact .inl rfl
    | some q =>
      right
      have := (World.ownsRow.lt hown q hob).2
      rw [e]
      simp
      omega
end Go.Proofs.Ytijjdidljoicfab

/- Contracts: l1Own at an owned slice, raOf, spec.CombinationAt. Conditions: the slices read as lists. -/
namespace Go.Proofs.Ytijjdidljoicfab
open Go.RowKit
set_option linter.unusedVariables false

theorem ret_sb6 {u : Value} {b b' : Bool} (h : b = b') : Ending.returned (.tuple #[u, .bool b]) = .returned (.tuple #[u, .bool b']) := by rw [h]
theorem inB_nat3 {n : Int} (h : inB n 0 12 = true) : ∃ k : Nat, n = k ∧ k ≤ 12 := by
  have := inB_iff.1 h
  exact ⟨n.toNat, by omega, by omega⟩
theorem Own.lit0 (w : World) : Own (w.alloc (.cells #[] 3)) w.heap.size (.slice (some ⟨w.heap.size, 0, none⟩) 0 0) [] :=
  World.ownsRow_made w #[] 0 (Nat.le_refl _) (by unfold maxLen; omega) rfl
theorem append_src_below {w w3 : World} {o : Obj} {n c : Nat} (hg : (w.alloc o).grownBy w3 (Value.slice (some ⟨w.heap.size, 0, none⟩) n c).ownBlock) : Below w.heap.size w w3 :=
  ((Below.refl w.heap.size w).alloc (Nat.le_refl _) o).grown hg (size_alloc2 w o) own_low
def ofB (L : List (List Int)) (i : Int) : Bool := inB i 0 ((L.length : Int) - 1)
def ofRes (L : List (List Int)) (i : Int) : List Int := if ofB L i = true then L.getD i.toNat [] else []
theorem ofRes_yes {L : List (List Int)} {i : Int} (h : ofB L i = true) : ofRes L i = L.getD i.toNat [] := by unfold ofRes; rw [if_pos h]
theorem ofRes_no {L : List (List Int)} {i : Int} (h : ofB L i = false) : ofRes L i = [] := by unfold ofRes; rw [if_neg (by rw [h]; simp)]
/-- is there a combination of n with k elements and the rank r, and which -/
def catB (n k r : Int) : Bool := inB n 0 12 && inB k 0 12 && ofB (allL n.toNat k.toNat 0) r
def catRes (n k r : Int) : List Int := if catB n k r = true then (allL n.toNat k.toNat 0).getD r.toNat [] else []
theorem catRes_yes {n k r : Int} (h : catB n k r = true) : catRes n k r = (allL n.toNat k.toNat 0).getD r.toNat [] := by unfold catRes; rw [if_pos h]
theorem catRes_no {n k r : Int} (h : catB n k r = false) : catRes n k r = [] := by unfold catRes; rw [if_neg (by rw [h]; simp)]
theorem bound_CombinationAt (n k r : Int) : (catRes n k r).length ≤ 1048576 := by
  by_cases h : catB n k r = true
  · rw [catRes_yes h]
    simp only [catB, Bool.and_eq_true, ofB, inB_iff] at h
    have hlt : r.toNat < (allL n.toNat k.toNat 0).length := by omega
    have := allL_elem n.toNat k.toNat 0 ((allL n.toNat k.toNat 0)[r.toNat]) (List.getElem_mem _)
    rw [List.getD_eq_getElem?_getD, List.getElem?_eq_getElem hlt, Option.getD_some, this]
    omega
  · rw [catRes_no (by simpa using h)]; simp
end Go.Proofs.Ytijjdidljoicfab

/- Plain facts on the successor of a combination. No conditions beyond the stated ones. -/
namespace Go.Proofs.Ytijjdidljoicfab
set_option linter.unusedVariables false

/-- m numbers from a on -/
def upFrom (a : Int) : Nat → List Int
  | 0 => []
  | m + 1 => a :: upFrom (a + 1) m
theorem upFrom_length : ∀ (m : Nat) (a : Int), (upFrom a m).length = m
  | 0, a => rfl
  | m + 1, a => by rw [upFrom, List.length_cons, upFrom_length m]
theorem upFrom_getD : ∀ (m : Nat) (a : Int) (i : Nat), i < m → (upFrom a m).getD i 0 = a + i
  | m + 1, a, 0, _ => by simp [upFrom]
  | m + 1, a, i + 1, h => by
    rw [upFrom, List.getD_cons_succ, upFrom_getD m (a + 1) i (by omega)]
    omega
/-- the next combination of n after this one, its first element aside -/
def succC (n : Nat) : List Int → Option (List Int)
  | [] => none
  | x :: t => match succC n t with
    | some t' => some (x :: t')
    | none => if x + 1 + t.length < n then some (upFrom (x + 1) (t.length + 1)) else none
theorem RF_upFrom (n : Nat) : ∀ (m f : Nat), f + m ≤ n → RF n f (upFrom (f : Int) m)
  | 0, f, _ => trivial
  | m + 1, f, h => by
    rw [upFrom]
    refine ⟨by omega, by omega, ?_⟩
    rw [Int.toNat_natCast, show ((f : Int) + 1) = ((f + 1 : Nat) : Int) by omega]
    exact RF_upFrom n m (f + 1) (by omega)
theorem rankC_upFrom (n : Nat) : ∀ (m f : Nat), rankC n f (upFrom (f : Int) m) = 0
  | 0, f => rfl
  | m + 1, f => by
    rw [upFrom, rankC, Int.toNat_natCast, Nat.sub_self, sumB, show ((f : Int) + 1) = ((f + 1 : Nat) : Int) by omega, rankC_upFrom n m (f + 1)]
theorem sumB_total (n r f : Nat) : ∀ e, e ≤ n - f → sumB n r f e + binom (n - f - e) (r + 1) = binom (n - f) (r + 1)
  | 0, _ => by simp [sumB]
  | e + 1, h => by
    have ih := sumB_total n r f e (by omega)
    rw [show n - f - e = (n - 1 - (f + e)) + 1 by omega, binom] at ih
    rw [sumB, show n - f - (e + 1) = n - 1 - (f + e) by omega]
    omega
theorem RF_len {n : Nat} : ∀ (xs : List Int) (f : Nat), RF n f xs → 0 < xs.length → f + xs.length ≤ n
  | x :: t, f, h, _ => by
    obtain ⟨h1, h2, h3⟩ := h
    by_cases ht : 0 < t.length
    · have := RF_len t _ h3 ht
      rw [List.length_cons]; omega
    · rw [List.length_cons]; omega
theorem succC_rank (n : Nat) (hn : n ≤ 12) : ∀ (xs : List Int) (f : Nat), xs.length ≤ 12 → RF n f xs →
    (∀ ys, succC n xs = some ys → RF n f ys ∧ ys.length = xs.length ∧ rankC n f ys = rankC n f xs + 1) ∧ (succC n xs = none → rankC n f xs + 1 = binom (n - f) xs.length)
  | [], f, _, _ => ⟨fun ys h => by simp [succC] at h, fun _ => by cases n - f <;> simp [rankC, binom]⟩
  | x :: t, f, hl, h => by
    obtain ⟨h1, h2, h3⟩ := h
    have hl' : t.length ≤ 12 := by simp at hl; omega
    obtain ⟨x, rfl⟩ := Int.eq_ofNat_of_zero_le (show 0 ≤ x by omega)
    rw [Int.toNat_natCast] at h3
    obtain ⟨i1, i2⟩ := succC_rank n hn t (x + 1) hl' h3
    have hs : sumB n t.length f (x - f + 1) = sumB n t.length f (x - f) + binom (n - 1 - x) t.length := by
      rw [sumB, show f + (x - f) = x by omega]
    have hr : rankC n f ((x : Int) :: t) = sumB n t.length f (x - f) + rankC n (x + 1) t := by rw [rankC, Int.toNat_natCast]
    cases hc : succC n t with
    | some t' =>
      obtain ⟨j1, j2, j3⟩ := i1 t' hc
      refine ⟨fun ys h => ?_, fun h => by rw [succC, hc] at h; simp at h⟩
      rw [succC, hc] at h
      simp only [Option.some.injEq] at h
      subst h
      refine ⟨⟨h1, h2, by rw [Int.toNat_natCast]; exact j1⟩, by simp [j2], ?_⟩
      rw [hr, rankC, Int.toNat_natCast, j2, j3]
      omega
    | none =>
      have j := i2 hc
      rw [show n - (x + 1) = n - 1 - x by omega] at j
      by_cases hlt : (x : Int) + 1 + t.length < n
      · refine ⟨fun ys h => ?_, fun h => by rw [succC, hc] at h; simp [hlt] at h⟩
        rw [succC, hc] at h
        simp only [hlt, if_true, Option.some.injEq] at h
        subst h
        have e : ((x : Int) + 1) = ((x + 1 : Nat) : Int) := by omega
        rw [e]
        refine ⟨?_, by rw [upFrom_length]; simp, ?_⟩
        · rw [upFrom]
          refine ⟨by omega, by omega, ?_⟩
          rw [Int.toNat_natCast, show (((x + 1 : Nat) : Int) + 1) = ((x + 2 : Nat) : Int) by omega]
          exact RF_upFrom n _ _ (by omega)
        · rw [upFrom, rankC, Int.toNat_natCast, upFrom_length, show (((x + 1 : Nat) : Int) + 1) = ((x + 1 + 1 : Nat) : Int) by omega, rankC_upFrom, show x + 1 - f = x - f + 1 by omega, hs, hr]
          omega
      · refine ⟨fun ys h => by rw [succC, hc] at h; simp [hlt] at h, fun _ => ?_⟩
        have ht := sumB_total n t.length f (x - f + 1) (by omega)
        rw [hs, binom_zero (n - f - (x - f + 1)) (by omega) (t.length + 1) (by simp at hl; omega) (by omega)] at ht
        rw [hr, List.length_cons]
        omega
theorem placeIn_get (l : List Int) : ∀ (L : List (List Int)) (k : Nat), placeIn l L = k → L.getD k [] = l
  | [], k, h => by simp [placeIn] at h
  | b :: B, k, h => by
    rw [placeIn] at h
    by_cases e : b = l
    · rw [if_pos e] at h
      obtain rfl : k = 0 := by omega
      simpa using e
    · rw [if_neg e] at h
      by_cases hp : 0 ≤ placeIn l B
      · obtain ⟨j, rfl⟩ : ∃ j, k = j + 1 := ⟨k - 1, by split at h <;> omega⟩
        have := placeIn_get l B j (by split at h <;> omega)
        simpa using this
      · split at h <;> omega
/-- what NextCombination answers -/
def nxB (n : Int) (xs : List Int) : Bool := combB n xs && (succC n.toNat xs).isSome
def nxRes (n : Int) (xs : List Int) : List Int := if nxB n xs = true then (succC n.toNat xs).getD [] else []
theorem nxRes_yes {n : Int} {xs : List Int} (h : nxB n xs = true) : nxRes n xs = (succC n.toNat xs).getD [] := by unfold nxRes; rw [if_pos h]
theorem nxRes_no {n : Int} {xs : List Int} (h : nxB n xs = false) : nxRes n xs = [] := by unfold nxRes; rw [if_neg (by rw [h]; simp)]
theorem nx_of (N : Nat) (hN : N ≤ 12) (xs : List Int) (hl : xs.length ≤ 12) (h : RF N 0 xs) (hc : combB (N : Int) xs = true) :
    ofB (allL N xs.length 0) (placeIn xs (allL N xs.length 0) + 1) = nxB (N : Int) xs ∧ ofRes (allL N xs.length 0) (placeIn xs (allL N xs.length 0) + 1) = nxRes (N : Int) xs := by
  have hp := place_rank N hN xs 0 hl h
  have hlen := allL_len N hN xs.length 0 hl
  rw [Nat.sub_zero] at hlen
  obtain ⟨a1, a2⟩ := succC_rank N hN xs 0 hl h
  cases hs : succC N xs with
  | none =>
    have b := a2 hs
    rw [Nat.sub_zero] at b
    have e1 : nxB (N : Int) xs = false := by rw [nxB, Int.toNat_natCast, hs]; simp
    have e2 : ofB (allL N xs.length 0) (placeIn xs (allL N xs.length 0) + 1) = false := by
      rw [ofB, hp, hlen]
      cases hq : inB ((rankC N 0 xs : Int) + 1) 0 ((binom N xs.length : Nat) - 1 : Int) with
      | false => rfl
      | true => have := inB_iff.1 hq; omega
    exact ⟨by rw [e1, e2], by rw [nxRes_no e1, ofRes_no e2]⟩
  | some ys =>
    obtain ⟨b1, b2, b3⟩ := a1 ys hs
    have hq := place_rank N hN ys 0 (by omega) b1
    have hlt := placeIn_lt ys (allL N ys.length 0)
    rw [b2] at hq hlt
    rw [hq, b3] at hlt
    rw [b3] at hq
    have hg := placeIn_get ys (allL N xs.length 0) (rankC N 0 xs + 1) hq
    have e1 : nxB (N : Int) xs = true := by rw [nxB, Int.toNat_natCast, hs, hc]; rfl
    have e2 : ofB (allL N xs.length 0) (placeIn xs (allL N xs.length 0) + 1) = true := by
      rw [ofB, hp, inB_iff]
      omega
    refine ⟨by rw [e1, e2], ?_⟩
    rw [nxRes_yes e1, ofRes_yes e2, hp, Int.toNat_natCast, hs, show ((rankC N 0 xs : Int) + 1).toNat = rankC N 0 xs + 1 by omega, hg]
    rfl
end Go.Proofs.Ytijjdidljoicfab

/- Plain facts: distances of digits, ranks that come once, and lists of digits. No conditions beyond the stated ones. -/
namespace Go.Proofs.Ytijjdidljoicfab
set_option linter.unusedVariables false

def absI (x : Int) : Int := if 0 ≤ x then x else -x
theorem absI_nonneg (x : Int) : 0 ≤ absI x := by unfold absI; split <;> omega
theorem absI_zero {x : Int} : absI x = 0 ↔ x = 0 := by unfold absI; split <;> omega
/-- by how much two lists differ at the first k indices, all in all -/
def distTo (a b : List Int) : Nat → Int
  | 0 => 0
  | k + 1 => distTo a b k + absI (a.getD k 0 - b.getD k 0)
def stepB (a b : List Int) : Bool := decide (distTo a b a.length = 1)
theorem distTo_nonneg (a b : List Int) (k : Nat) : 0 ≤ distTo a b k := by
  induction k with
  | zero => exact Int.le_refl _
  | succ k ih => have := absI_nonneg (a.getD k 0 - b.getD k 0); rw [distTo]; omega
theorem distTo_mono {a b : List Int} {k n : Nat} (h : k ≤ n) : distTo a b k ≤ distTo a b n := by
  induction n with
  | zero => rw [show k = 0 by omega]; exact Int.le_refl _
  | succ n ih =>
    by_cases e : k = n + 1
    · rw [e]; exact Int.le_refl _
    · have h1 := ih (by omega)
      have := absI_nonneg (a.getD n 0 - b.getD n 0)
      rw [distTo]; omega
theorem distTo_le {a b : List Int} {n : Nat} (h : ∀ i, i < n → absI (a.getD i 0 - b.getD i 0) ≤ 12) (k : Nat) (hk : k ≤ n) : distTo a b k ≤ 12 * k := by
  induction k with
  | zero => simp [distTo]
  | succ k ih =>
    have h1 := ih (by omega)
    have h2 := h k (by omega)
    rw [distTo]; omega
theorem stepB_no {a b : List Int} {k : Nat} (hk : k ≤ a.length) (h : 2 ≤ distTo a b k) : stepB a b = false := by
  have := distTo_mono (a := a) (b := b) hk
  exact decide_eq_false (by omega)

/-- numbers of the lists of L -/
def rkAt (xs : List Int) (L : List (List Int)) (i : Nat) : Int := numTo xs (L.getD i []) (L.getD i []).length
def digL (xs : List Int) (L : List (List Int)) (i : Nat) : Bool := areDig xs (L.getD i [])
def nbL (L : List (List Int)) (i : Nat) : Bool := i == 0 || stepB (L.getD (i - 1) []) (L.getD i [])
/-- r is the number of one of the first k lists -/
def metB (f : Nat → Int) (k : Nat) (r : Int) : Bool := !(allTo k (fun j => !(f j == r)))
def onceB (f : Nat → Int) (n : Nat) : Bool := allTo n (fun i => !(metB f i (f i)))
def coverB (f : Nat → Int) (n : Nat) : Bool := allTo n (fun r => metB f n (r : Int))
theorem metB_iff {f : Nat → Int} {k : Nat} {r : Int} : metB f k r = true ↔ ∃ j, j < k ∧ f j = r := by
  unfold metB
  cases h : allTo k (fun j => !(f j == r)) with
  | true =>
    rw [allTo_iff] at h
    exact ⟨fun e => by simp at e, fun ⟨j, hj, e⟩ => by have := h j hj; simp [e] at this⟩
  | false =>
    refine ⟨fun _ => ?_, fun _ => rfl⟩
    apply Classical.byContradiction
    intro hn
    have : allTo k (fun j => !(f j == r)) = true := (allTo_iff _ _).2 (fun j hj => by
      have : f j ≠ r := fun e => hn ⟨j, hj, e⟩
      simpa using this)
    rw [h] at this; cases this
theorem metB_succ (f : Nat → Int) (k : Nat) (r : Int) : metB f (k + 1) r = (metB f k r || f k == r) := by
  unfold metB; rw [allTo_succ]; cases allTo k (fun j => !(f j == r)) <;> cases (f k == r) <;> rfl
theorem permOf : ∀ {ys S : List Int}, ys.Nodup → (∀ y ∈ ys, y ∈ S) → ys.length = S.length → ys.Perm S
  | [], S, _, _, h => by
    have : S = [] := List.eq_nil_of_length_eq_zero h.symm
    subst this; exact List.Perm.refl _
  | y :: t, S, hn, hs, h => by
    rw [List.nodup_cons] at hn
    have h1 := List.perm_cons_erase (hs y (by simp))
    have hl : t.length = (S.erase y).length := by have := h1.length_eq; simp at this h; omega
    have h2 := permOf (S := S.erase y) hn.2 (fun z hz => by
      have hne : z ≠ y := fun e => hn.1 (e ▸ hz)
      exact (List.mem_erase_of_ne hne).2 (hs z (by simp [hz]))) hl
    exact (h2.cons y).trans h1.symm
theorem once_nodup {f : Nat → Int} {n : Nat} : onceB f n = true ↔ ((List.range n).map f).Nodup := by
  unfold onceB
  rw [allTo_iff, List.nodup_iff_pairwise_ne, List.pairwise_iff_getElem]
  simp only [List.length_map, List.length_range, List.getElem_map, List.getElem_range]
  constructor
  · intro h i j hi hj hij e
    have h1 := h j hj
    have h2 : metB f j (f j) = true := metB_iff.2 ⟨i, hij, e⟩
    rw [h2] at h1; cases h1
  · intro h i hi
    cases hm : metB f i (f i) with
    | false => rfl
    | true =>
      obtain ⟨j, hj, e⟩ := metB_iff.1 hm
      exact absurd e (h j i (by omega) hi hj)
theorem once_cover {f : Nat → Int} {n : Nat} (h : ∀ i, i < n → 0 ≤ f i ∧ f i < n) : coverB f n = onceB f n := by
  have hN : ((List.range n).map (fun i : Nat => (i : Int))).Nodup := by
    rw [List.nodup_iff_pairwise_ne, List.pairwise_map]
    exact List.pairwise_lt_range.imp (fun h => by omega)
  have key : coverB f n = true ↔ onceB f n = true := by
    rw [once_nodup]
    unfold coverB
    rw [allTo_iff]
    constructor
    · intro hc
      refine (permOf hN (fun y hy => ?_) (by simp)).nodup_iff.1 hN
      obtain ⟨i, hi, rfl⟩ := List.mem_map.1 hy
      obtain ⟨j, hj, e⟩ := metB_iff.1 (hc i (List.mem_range.1 hi))
      exact List.mem_map.2 ⟨j, List.mem_range.2 hj, e⟩
    · intro hd r hr
      have hp := permOf (S := (List.range n).map (fun i : Nat => (i : Int))) hd (fun y hy => by
        obtain ⟨i, hi, rfl⟩ := List.mem_map.1 hy
        have := h i (List.mem_range.1 hi)
        exact List.mem_map.2 ⟨(f i).toNat, List.mem_range.2 (by omega), by omega⟩) (by simp)
      have := hp.mem_iff.2 (List.mem_map.2 ⟨r, List.mem_range.2 hr, rfl⟩)
      obtain ⟨j, hj, e⟩ := List.mem_map.1 this
      exact metB_iff.2 ⟨j, List.mem_range.1 hj, e⟩
  cases hc : coverB f n <;> cases ho : onceB f n <;> simp_all

/-- the value of IsMixedList, and whether it is asked of bases -/
def mlOk (xs : List Int) (L : List (List Int)) : Bool := basesB xs && decide (L.length ≤ 1100)
def mlV (xs : List Int) (L : List (List Int)) : Bool :=
  mlOk xs L && (decide ((L.length : Int) = prodTo xs xs.length) && (allTo L.length (digL xs L) && (onceB (rkAt xs L) L.length && allTo L.length (nbL L))))
theorem getDL {L : List (List Int)} {i : Nat} (h : i < L.length) : L.getD i [] = L[i] := by simp [List.getD_eq_getElem?_getD, h]
theorem rk_range {xs : List Int} {L : List (List Int)} {i : Nat} (h : allBases xs = true) (hd : digL xs L i = true) : 0 ≤ rkAt xs L i ∧ rkAt xs L i < prodTo xs xs.length := by
  have hl : (L.getD i []).length = xs.length := by
    have := hd
    simp only [digL, areDig, Bool.and_eq_true, decide_eq_true_eq] at this
    exact this.1
  have := numTo_range h hd xs.length (Nat.le_refl _)
  unfold rkAt
  rw [hl]
  exact this
theorem dig_range {xs ys : List Int} (h : allBases xs = true) (hd : areDig xs ys = true) : ys.length = xs.length ∧ ∀ i, i < ys.length → 0 ≤ ys.getD i 0 ∧ ys.getD i 0 ≤ 11 := by
  simp only [areDig, Bool.and_eq_true, decide_eq_true_eq] at hd
  refine ⟨hd.1, fun i hi => ?_⟩
  have h1 := inB_iff.1 ((allTo_iff _ _).1 hd.2 i hi)
  have h2 := base_range h (i := i) (by omega)
  omega
end Go.Proofs.Ytijjdidljoicfab

/- Plain facts: lists that are all combinations, each once, told by ranks that come once. Conditions: combinations of at most 12 items. -/
namespace Go.Proofs.Ytijjdidljoicfab
set_option linter.unusedVariables false

theorem mem_place {l : List Int} {L : List (List Int)} : 0 ≤ placeIn l L ↔ l ∈ L := by
  constructor
  · intro h
    have h1 := placeIn_lt l L
    have h2 := placeIn_get l L (placeIn l L).toNat (by omega)
    rw [getDL2 (by omega)] at h2
    exact List.mem_iff_getElem.2 ⟨_, _, h2⟩
  · intro h
    induction L with
    | nil => simp at h
    | cons x r ih =>
      rw [placeIn]
      split
      · omega
      · rename_i hx
        have := ih ((List.mem_cons.1 h).resolve_left (fun e => hx e.symm))
        split <;> omega
theorem outTo_nodup (F : Nat → List (List Int)) (hF : ∀ f, (F f).Nodup) (f : Nat) : ∀ m, (outTo F f m).Nodup
  | 0 => by simp [outTo]
  | m + 1 => by
    rw [outTo, List.nodup_append]
    refine ⟨outTo_nodup F hF f m, ?_, fun a ha b hb e => ?_⟩
    · rw [List.nodup_iff_pairwise_ne, List.pairwise_map]
      exact (List.nodup_iff_pairwise_ne.1 (hF _)).imp (fun h e => h (List.cons.inj e).2)
    · obtain ⟨y, t, h1, h2⟩ := outTo_head F f m a ha
      obtain ⟨t', _, h3⟩ := List.mem_map.1 hb
      subst e
      rw [h2] at h3
      have := (List.cons.inj h3).1
      omega
theorem allL_nodup (n : Nat) : ∀ k f, (allL n k f).Nodup
  | 0, _ => by simp [allL]
  | k + 1, f => outTo_nodup _ (allL_nodup n k) f _
theorem permOfL : ∀ {ys S : List (List Int)}, ys.Nodup → (∀ y ∈ ys, y ∈ S) → ys.length = S.length → ys.Perm S
  | [], S, _, _, h => by
    have : S = [] := List.eq_nil_of_length_eq_zero h.symm
    subst this; exact List.Perm.refl _
  | y :: t, S, hn, hs, h => by
    rw [List.nodup_cons] at hn
    have h1 := List.perm_cons_erase (hs y (by simp))
    have hl : t.length = (S.erase y).length := by have := h1.length_eq; simp at this h; omega
    have h2 := permOfL (S := S.erase y) hn.2 (fun z hz => by
      have hne : z ≠ y := fun e => hn.1 (e ▸ hz)
      exact (List.mem_erase_of_ne hne).2 (hs z (by simp [hz]))) hl
    exact (h2.cons y).trans h1.symm
/-- the rank by the last elements, of the list at i; whether the list at i has k elements and is none of those before -/
def crk (k : Nat) (L : List (List Int)) (i : Nat) : Int := (cSum (L.getD i []) k : Nat)
def oneK (k : Nat) (L : List (List Int)) (i : Nat) : Bool := decide ((L.getD i []).length = k) && !(metB (crk k L) i (crk k L i))
theorem cSum_inj {n : Nat} {xs ys : List Int} (hx : combB n xs = true) (hy : combB n ys = true) (hl : xs.length = ys.length) (h : cSum xs xs.length = cSum ys ys.length) : xs = ys := by
  have h1 := place_col _ xs (Rises_comb hx).1
  have h2 := place_col _ ys (Rises_comb hy).1
  rw [h, hl] at h1
  have e1 := placeIn_get _ _ _ h1
  have e2 := placeIn_get _ _ _ h2
  exact e1.symm.trans e2
theorem crk_lt {n k : Nat} {L : List (List Int)} {i : Nat} (hc : combB n (L.getD i []) = true) (hl : (L.getD i []).length = k) : 0 ≤ crk k L i ∧ crk k L i < (binom n k : Int) := by
  have h1 := place_col _ _ (Rises_comb hc).1
  have h2 := placeIn_lt (L.getD i []) (colL (n : Int).toNat (L.getD i []).length)
  rw [h1, colL_len, hl] at h2
  unfold crk
  rw [Int.toNat_natCast] at h2
  omega
theorem mem_all {n k : Nat} {l : List Int} (hc : combB n l = true) (hl : l.length = k) : l ∈ allL n k 0 := by
  obtain ⟨h1, h2, h3, h4⟩ := RF_comb hc
  rw [Int.toNat_natCast] at h1
  have h5 := place_rank n (by omega) l 0 h2 h1
  rw [hl] at h5
  exact mem_place.1 (by rw [h5]; omega)
theorem all_once {n k : Nat} {L : List (List Int)} (hn : n ≤ 12) (hk : k ≤ n) (hc : ∀ l ∈ L, combB n l = true) :
    (decide (L.length = binom n k) && allTo L.length (oneK k L)) = chaB n k L := by
  have hlen := allL_len n hn k 0 (by omega)
  rw [Nat.sub_zero] at hlen
  by_cases hb : L.length = binom n k
  · rw [chaB, decide_eq_true hb, Bool.true_and, Bool.and_true, Bool.eq_iff_iff, allTo_iff, allTo_iff]
    constructor
    · intro h
      have hL : ∀ l ∈ L, l.length = k := by
        intro l hl
        obtain ⟨i, hi, rfl⟩ := List.mem_iff_getElem.1 hl
        have := h i hi
        rw [oneK, Bool.and_eq_true, getDL2 hi, decide_eq_true_eq] at this
        exact this.1
      have hnd : L.Nodup := by
        rw [List.nodup_iff_pairwise_ne, List.pairwise_iff_getElem]
        intro i j hi hj hij e
        have := h j hj
        rw [oneK, Bool.and_eq_true] at this
        have h2 : metB (crk k L) j (crk k L j) = true := metB_iff.2 ⟨i, hij, by unfold crk; rw [getDL2 hi, getDL2 hj, e]⟩
        rw [h2] at this
        exact absurd this.2 (by simp)
      have hp := permOfL hnd (fun y hy => mem_all (hc y hy) (hL y hy)) (by rw [hb, hlen])
      intro i hi
      rw [hasAt, decide_eq_true_eq, mem_place, getDL2 hi]
      exact hp.mem_iff.2 (List.getElem_mem _)
    · intro h
      have hp := permOfL (allL_nodup n k 0) (S := L) (fun y hy => by
        obtain ⟨i, hi, rfl⟩ := List.mem_iff_getElem.1 hy
        have := h i hi
        rw [hasAt, decide_eq_true_eq, mem_place, getDL2 hi] at this
        exact this) (by rw [hb, hlen])
      have hnd := hp.nodup_iff.1 (allL_nodup n k 0)
      have hL : ∀ l ∈ L, l.length = k := fun l hl => allL_elem n k 0 l (hp.mem_iff.2 hl)
      intro i hi
      rw [oneK, Bool.and_eq_true, getDL2 hi, decide_eq_true_eq]
      refine ⟨hL _ (List.getElem_mem _), ?_⟩
      cases hm : metB (crk k L) i (crk k L i) with
      | false => rfl
      | true =>
        obtain ⟨j, hj, e⟩ := metB_iff.1 hm
        unfold crk at e
        rw [getDL2 hi, getDL2 (by omega)] at e
        have hli := hL _ (List.getElem_mem hi)
        have hlj := hL _ (List.getElem_mem (show j < L.length by omega))
        have he := cSum_inj (hc _ (List.getElem_mem (show j < L.length by omega))) (hc _ (List.getElem_mem hi)) (by rw [hli, hlj]) (by rw [hli, hlj]; omega)
        have hpw := List.pairwise_iff_getElem.1 (List.nodup_iff_pairwise_ne.1 hnd) j i (by omega) hi hj
        exact absurd he hpw
  · rw [chaB, decide_eq_false hb, Bool.false_and, Bool.and_false]
end Go.Proofs.Ytijjdidljoicfab

/- Contracts: chHalves and spec.AdjacentHalves. Conditions: k <= n <= 12. -/
namespace Go.Proofs.Ytijjdidljoicfab
open Go.RowKit
set_option linter.unusedVariables false

theorem outTo_mem {F : Nat → List (List Int)} {f : Nat} {l : List Int} : ∀ m, l ∈ outTo F f m → ∃ j t, j < m ∧ t ∈ F (f + j + 1) ∧ l = ((f + j : Nat) : Int) :: t
  | 0, h => by simp [outTo] at h
  | m + 1, h => by
    rw [outTo, List.mem_append] at h
    rcases h with h | h
    · obtain ⟨j, t, a, b, c⟩ := outTo_mem m h
      exact ⟨j, t, by omega, b, c⟩
    · obtain ⟨t, ht, rfl⟩ := List.mem_map.1 h
      exact ⟨m, t, by omega, ht, rfl⟩
theorem allL_small (n : Nat) : ∀ k f l, l ∈ allL n k f → ∀ x ∈ l, 0 ≤ x ∧ x < (n : Int)
  | 0, f, l, h, x, hx => by simp [allL] at h; subst h; simp at hx
  | k + 1, f, l, h, x, hx => by
    rw [allL] at h
    obtain ⟨j, t, hj, ht, rfl⟩ := outTo_mem _ h
    rcases List.mem_cons.1 hx with rfl | hx
    · omega
    · exact allL_small n k _ t ht x hx
def sumTo (l : List Int) : Nat → Int
  | 0 => 0
  | k + 1 => sumTo l k + l.getD k 0
theorem sumTo_range {l : List Int} (h : ∀ x ∈ l, 0 ≤ x ∧ x < 12) : ∀ k, k ≤ l.length → 0 ≤ sumTo l k ∧ sumTo l k ≤ 12 * k
  | 0, _ => by simp [sumTo]
  | k + 1, hk => by
    have h1 := sumTo_range h k (by omega)
    have hk' : k < l.length := by omega
    have h2 := h l[k] (List.getElem_mem _)
    rw [sumTo, getD_at hk']
    omega
def evenS (l : List Int) : Bool := sumTo l l.length % 2 == 0
/-- how many of the first k lists have an even sum, and an odd one -/
def hlE (M : List (List Int)) : Nat → Int
  | 0 => 0
  | k + 1 => if evenS (M.getD k []) = true then hlE M k + 1 else hlE M k
def hlO (M : List (List Int)) : Nat → Int
  | 0 => 0
  | k + 1 => if evenS (M.getD k []) = true then hlO M k else hlO M k + 1
theorem hl_range (M : List (List Int)) : ∀ k, 0 ≤ hlE M k ∧ 0 ≤ hlO M k ∧ hlE M k + hlO M k = k
  | 0 => by simp [hlE, hlO]
  | k + 1 => by
    have := hl_range M k
    rw [hlE, hlO]
    split <;> omega
theorem ret_nn2 {a b c d : Int} (h : a = c) (h' : b = d) : Ending.returned (.tuple #[.int .i64 a, .int .i64 b]) = .returned (.tuple #[.int .i64 c, .int .i64 d]) := by rw [h, h']
set_option maxHeartbeats 2000000 in
theorem chHalves_any (n k : Nat) (hn : n ≤ 12) (hk : k ≤ n) (w : World) :
    Calls Try.prog 45 #[.int .i64 (n : Int), .int .i64 (k : Int)] w fun e w' => e = .returned (.tuple #[.int .i64 (hlE (allL n k 0) (allL n k 0).length), .int .i64 (hlO (allL n k 0) (allL n k 0).length)]) ∧ Below w.heap.size w w' := by
  have HALL := hid (raAll_any n hn k 0 w (by omega) (by omega))
  have HSM := hid (fun l hl => allL_small n k 0 l hl)
  have HEL := hid (fun l hl => allL_elem n k 0 l hl)
  have hbd := allL_bound n hn k 0 (by omega)
  obtain ⟨M, hM⟩ : ∃ M, M = allL n k 0 := ⟨_, rfl⟩
  rw [← hM] at HALL HSM HEL hbd ⊢
  clear hM
  go_enter Try.func45, Try.ntmps45
  go_wp2_with fail
  refine HALL.out.mono ?_
  rintro e w1 ⟨u, rfl, hu, hb1⟩
  have HB1 := hid hb1
  clear hb1
  rcases hu.form with ⟨rfl, rfl⟩ | ⟨g, cap, rfl, _, hg, hc1, hm, hc⟩
  · go_wp2_with fail
    refine wp_loop_rounds 1 ?_
    rw [rounds_succ]
    go_wp2_with fail
    go_ret2
    exact ⟨rfl, HB1.out⟩
  · have HC := hid hc
    clear hc hu
    go_wp2_with fail
    go_loopw [6, 7, 9, 10, 12, 17, 21, 22, 23] (fun ev od _ _ _ i _ _ _ wr => ∃ t : Nat, t ≤ M.length ∧ i = .int .i64 t ∧ ev = .int .i64 (hlE M t) ∧ od = .int .i64 (hlO M t) ∧ w1 = wr) (fun _ _ _ _ _ i _ _ _ _ => M.length - (intOf i).toNat)
    case atStart => exact ⟨0, Nat.zero_le _, rfl, rfl, rfl, rfl⟩
    case round =>
      obtain ⟨t, ht, rfl, rfl, rfl, rfl⟩ := hrel
      have hrg := hl_range M t
      by_cases hlt : t < M.length
      · obtain ⟨z, hz, hown⟩ := HC.out t hlt
        have hmem : M[t] ∈ M := List.getElem_mem _
        obtain ⟨l, hl⟩ : ∃ l, l = M[t] := ⟨_, rfl⟩
        rw [← hl] at hown hmem
        have hsm := HSM.out l hmem
        have hln := HEL.out l hmem
        have HR := hid (sumTo_range (l := l) (fun x hx => by have := hsm x hx; omega))
        have HE1 := hid (show hlE M (t + 1) = if evenS l = true then hlE M t + 1 else hlE M t by rw [hlE, List.getD_eq_getElem?_getD, List.getElem?_eq_getElem hlt, Option.getD_some, ← hl])
        have HO1 := hid (show hlO M (t + 1) = if evenS l = true then hlO M t else hlO M t + 1 by rw [hlO, List.getD_eq_getElem?_getD, List.getElem?_eq_getElem hlt, Option.getD_some, ← hl])
        obtain ⟨E, hE⟩ : ∃ E, E = hlE M t := ⟨_, rfl⟩
        obtain ⟨O, hO⟩ : ∃ O, O = hlO M t := ⟨_, rfl⟩
        rw [← hE] at HE1 hrg ⊢
        rw [← hO] at HO1 hrg ⊢
        have hE0 : 0 ≤ E := hrg.1
        have hO0 : 0 ≤ O := hrg.2.1
        have hE1 : E ≤ 30000 := by omega
        have hO1 : O ≤ 30000 := by omega
        obtain ⟨ao, c, rfl, hcc, hmm, hcell⟩ := hown.reads.view
        have hll : l.length ≤ 12 := by omega
        clear hown hsm hl hE hO hrg hln hmem
        have HFIN := hid (show ∀ s : Int, s = sumTo l l.length → ((s % 2 == 0) = evenS l) from fun s hs => by rw [evenS, ← hs])
        have HEND := hid (show ∀ s : Int, s = sumTo l l.length → 0 ≤ s ∧ s ≤ 200 from fun s hs => by have := HR.out l.length (Nat.le_refl _); rw [hs]; omega)
        rcases hcell with hnil | ⟨gb, ob, rfl, hgb, hcell⟩
        · subst hnil
          go_wp2_with fail
          refine wp_loop_rounds 1 ?_
          rw [rounds_succ]
          have HE2 := hid (show hlE M (t + 1) = E + 1 by rw [HE1.out, if_pos (show evenS [] = true from rfl)])
          have HO2 := hid (show hlO M (t + 1) = O by rw [HO1.out, if_pos (show evenS [] = true from rfl)])
          go_wp2_with fail
          go_roundw
          case rel => exact ⟨t + 1, by omega, by go_num, by rw [HE2.out], by rw [HO2.out], trivial⟩
          case measure => simp [intOf] <;> omega
        · have HCL := hid hcell
          clear hcell
          go_wp2_with fail
          go_loopw [10, 12, 23] (fun sv _ i wq => ∃ j : Nat, j ≤ l.length ∧ i = .int .i64 j ∧ sv = .int .i64 (sumTo l j) ∧ w1 = wq) (fun _ _ i _ => l.length - (intOf i).toNat)
          case atStart => exact ⟨0, Nat.zero_le _, rfl, rfl, rfl⟩
          case round =>
            obtain ⟨j, hj, rfl, rfl, rfl⟩ := hrel
            have hrj := HR.out j hj
            by_cases hjl : j < l.length
            · have hcy := HCL.out j hjl
              have hrj2 := HR.out (j + 1) (by omega)
              have HSU := hid (show sumTo l (j + 1) = sumTo l j + l[j] by rw [sumTo, getD_at hjl])
              rw [HSU.out] at hrj2
              obtain ⟨s, hs⟩ : ∃ s, s = sumTo l j := ⟨_, rfl⟩
              rw [← hs] at HSU hrj hrj2 ⊢
              obtain ⟨x, hx⟩ : ∃ x, x = l[j] := ⟨_, rfl⟩
              rw [← hx] at HSU hcy hrj2
              have hws : IntKind.i64.wrap (s + x) = s + x := IntWalk.i64_in _ (by omega)
              clear hs hx
              go_wp2_with fail
              go_roundw
              case rel => exact ⟨j + 1, by omega, by go_num, by rw [HSU.out], trivial⟩
              case measure => simp [intOf] <;> omega
            · obtain rfl : j = l.length := by omega
              obtain ⟨s, hs⟩ : ∃ s, s = sumTo l l.length := ⟨_, rfl⟩
              rw [← hs] at hrj ⊢
              have hs9 := HEND.out s hs
              cases hev : evenS l with
              | true =>
                have hmod : (s % 2 == 0) = true := by rw [HFIN.out s hs, hev]
                have HE2 := hid (show hlE M (t + 1) = E + 1 by rw [HE1.out, if_pos hev])
                have HO2 := hid (show hlO M (t + 1) = O by rw [HO1.out, if_pos hev])
                clear hev hs
                go_wp2_with fail
                go_roundw
                case rel => exact ⟨t + 1, by omega, by go_num, by rw [HE2.out], by rw [HO2.out], trivial⟩
                case measure => simp [intOf] <;> omega
              | false =>
                have hmod : (s % 2 == 0) = false := by rw [HFIN.out s hs, hev]
                have HE2 := hid (show hlE M (t + 1) = E by rw [HE1.out, if_neg (by rw [hev]; simp)])
                have HO2 := hid (show hlO M (t + 1) = O + 1 by rw [HO1.out, if_neg (by rw [hev]; simp)])
                clear hev hs
                go_wp2_with fail
                go_roundw
                case rel => exact ⟨t + 1, by omega, by go_num, by rw [HE2.out], by rw [HO2.out], trivial⟩
                case measure => simp [intOf] <;> omega
      · obtain rfl : t = M.length := by omega
        go_wp2_with fail
        go_ret2
        exact ⟨rfl, HB1.out⟩
/-- AdjacentHalves -/
def ahE (n k : Int) : Int := if szB n k = true then hlE (allL n.toNat k.toNat 0) (allL n.toNat k.toNat 0).length else 0
def ahO (n k : Int) : Int := if szB n k = true then hlO (allL n.toNat k.toNat 0) (allL n.toNat k.toNat 0).length else 0
theorem spec_AdjacentHalves_any (n k : Int) (w : World) (_wn : (Lit.int .i64 n).wf = true) (_wk : (Lit.int .i64 k).wf = true) :
    Calls Try.prog 18 #[.int .i64 n, .int .i64 k] w fun e w' => e = .returned (.tuple #[.int .i64 (ahE n k), .int .i64 (ahO n k), .bool (szB n k)]) ∧ Below w.heap.size w w' := by
  cases hs : szB n k with
  | true =>
    have HS := hid hs
    obtain ⟨N, K, rfl, rfl, hN, hK⟩ := szB_nat hs
    have HE := hid (show ahE (N : Int) (K : Int) = hlE (allL N K 0) (allL N K 0).length by rw [ahE, if_pos hs]; rfl)
    have HO := hid (show ahO (N : Int) (K : Int) = hlO (allL N K 0) (allL N K 0).length by rw [ahO, if_pos hs]; rfl)
    clear hs
    go_enter Try.func18, Try.ntmps18
    go_wp2_with (first
      | (go_at_call 28; refine (chSize_any _ _ _).mono ?_; rintro e w1 ⟨rfl, rfl⟩; rw [HS.out])
      | (go_at_call 45; refine (chHalves_any N K hN hK _).mono ?_; rintro e w1 ⟨rfl, hb1⟩; have HB1 := hid hb1; clear hb1)
      | fail)
    go_ret3
    exact ⟨ret_nnb3 HE.out.symm HO.out.symm rfl, HB1.out⟩
  | false =>
    have HS := hid hs
    have HE := hid (show ahE n k = 0 by rw [ahE, if_neg (by rw [hs]; simp)])
    have HO := hid (show ahO n k = 0 by rw [ahO, if_neg (by rw [hs]; simp)])
    clear hs
    go_enter Try.func18, Try.ntmps18
    go_wp2_with (first | (go_at_call 28; refine (chSize_any _ _ _).mono ?_; rintro e w1 ⟨rfl, rfl⟩; rw [HS.out]) | fail)
    go_ret3
    exact ⟨ret_nnb3 HE.out.symm HO.out.symm rfl, Below.refl _ _⟩
end Go.Proofs.Ytijjdidljoicfab

/- Contract: chRevolving. Conditions: k <= n <= 12. -/
namespace Go.Proofs.Ytijjdidljoicfab
open Go.RowKit
set_option linter.unusedVariables false

/-- the revolving list -/
def revL : Nat → Nat → List (List Int)
  | 0, _ => [[]]
  | _ + 1, 0 => [[]]
  | n + 1, k + 1 => if k = n then [upTo (n + 1)] else revL n (k + 1) ++ (revL n k).reverse.map (fun l => l ++ [(n : Int)])
theorem revL_bound : ∀ n k, (revL n k).length ≤ 2 ^ n
  | 0, _ => by simp [revL]
  | n + 1, 0 => by have := Nat.two_pow_pos (n + 1); rw [revL]; simp; omega
  | n + 1, k + 1 => by
    rw [revL, Nat.pow_succ]
    split
    · have := Nat.two_pow_pos n; simp; omega
    · have h1 := revL_bound n (k + 1)
      have h2 := revL_bound n k
      simp; omega
theorem revL_pos : ∀ n k, 0 < (revL n k).length
  | 0, _ => by simp [revL]
  | n + 1, 0 => by simp [revL]
  | n + 1, k + 1 => by
    rw [revL]
    split
    · simp
    · have := revL_pos n (k + 1); simp; omega
theorem revL_elem : ∀ n k, k ≤ n → ∀ l ∈ revL n k, l.length = k
  | 0, k, hk, l, hl => by simp [revL] at hl; subst hl; simp; omega
  | n + 1, 0, _, l, hl => by simp [revL] at hl; subst hl; rfl
  | n + 1, k + 1, hk, l, hl => by
    rw [revL] at hl
    split at hl
    · rename_i e
      simp at hl
      subst hl
      rw [upTo_length]; omega
    · rcases List.mem_append.1 hl with hl | hl
      · exact revL_elem n (k + 1) (by omega) l hl
      · obtain ⟨m, hm, rfl⟩ := List.mem_map.1 hl
        have := revL_elem n k (by omega) m (List.mem_reverse.1 hm)
        simp; omega
theorem pow12_le {n : Nat} (h : n ≤ 12) : 2 ^ n ≤ 4096 := Nat.pow_le_pow_right (n := 2) (by decide) h
theorem rev_take {R : List (List Int)} {q : Nat} (h : q < R.length) : R.reverse.take (R.length - (q + 1) + 1) = R.reverse.take (R.length - (q + 1)) ++ [R[q]] := by
  have h1 : R.length - (q + 1) < R.reverse.length := by simp; omega
  rw [List.take_succ_eq_append_getElem h1, List.getElem_reverse]
  congr 2
  congr 1
  omega
theorem wpList_append_none3 {P : Program} (w : World) {ops : Array Oper} {rest : List Oper} {o : Oper} {a : Act} {Q : Exit → Act → World → Prop} (hgd : o.guard = none) (s x : Operand) (t : TypeId)
    (ho : o.op = .call { callee := .builtin .append, args := #[s, x], argTypes := #[t, t] }) (base : Nat) (e : TypeId) (i : TypeInfo) (size : Nat) (ht : P.underlying t = some (.slice e)) (hi : P.info? e = some i)
    (v : Value) (n : Nat) (xs : List Value) (hs : a.eval s = v) (hown : w.ownsRow base e size v n xs) (hx : a.eval x = .slice none 0 0) (h : wpList P ops Q rest (a.put o.dst v) w) : wpList P ops Q (o :: rest) a w := by
  refine wpList_plain hgd fun K hK => ?_
  exact wp_append_none s x t ho base e i size ht hi v n xs hs hown hx (hK _ _ h)
theorem Lists_lit {w : World} {B : Nat} {u : Value} {l : List Int} (h : Own w B u l) (hB : B ≤ w.heap.size) : Lists (w.alloc (.cells #[u] 28)) B (.slice (some ⟨w.heap.size, 0, none⟩) 1 1) [l] := by
  refine ⟨[u], rfl, ownsRow_mono (World.ownsRow_lit w #[u] 1 (Nat.le_refl _) (by unfold maxLen; omega) rfl) hB, fun i h1 h2 => ?_⟩
  have : i = 0 := by simpa using h2
  subst this
  exact h.below ((Below.refl _ _).alloc (Nat.le_refl _) _)
end Go.Proofs.Ytijjdidljoicfab

/- Contract: chSearch. Conditions: at most 100 lists of small numbers. -/
namespace Go.Proofs.Ytijjdidljoicfab
open Go.RowKit
set_option linter.unusedVariables false

/-- the least list by adjacent exchanges that goes on P through all of A, or [] -/
def stopS (P : List (List Int)) (l : List Int) : Bool := decide (0 ≤ placeIn l P) || !(nearP 1 (P.getD (P.length - 1) []) l)
def srL (f : List (List Int) → List (List Int)) (P : List (List Int)) : List (List Int) → List (List Int)
  | [] => []
  | l :: t => if stopS P l = true then srL f P t else if (f (P ++ [l])).length = 0 then srL f P t else f (P ++ [l])
def srch (A : List (List Int)) : Nat → List (List Int) → List (List Int)
  | 0, P => P
  | m + 1, P => srL (srch A m) P A
theorem srL_skip {f : List (List Int) → List (List Int)} {P A : List (List Int)} {k : Nat} (hk : k < A.length) (h : stopS P A[k] = true) : srL f P (A.drop k) = srL f P (A.drop (k + 1)) := by
  rw [List.drop_eq_getElem_cons hk, srL, if_pos h]
theorem srL_none {f : List (List Int) → List (List Int)} {P A : List (List Int)} {k : Nat} (hk : k < A.length) (h : stopS P A[k] = false) (hf : (f (P ++ [A[k]])).length = 0) : srL f P (A.drop k) = srL f P (A.drop (k + 1)) := by
  rw [List.drop_eq_getElem_cons hk, srL, if_neg (by rw [h]; simp), if_pos hf]
theorem srL_hit {f : List (List Int) → List (List Int)} {P A : List (List Int)} {k : Nat} (hk : k < A.length) (h : stopS P A[k] = false) (hf : (f (P ++ [A[k]])).length ≠ 0) : srL f P (A.drop k) = f (P ++ [A[k]]) := by
  rw [List.drop_eq_getElem_cons hk, srL, if_neg (by rw [h]; simp), if_neg hf]
theorem near_two (a b : List Int) : nearL 1 [a, b] = nearP 1 a b := by
  have h1 : nearAt 1 [a, b] 0 = true := rfl
  have h2 : nearAt 1 [a, b] 1 = nearP 1 a b := rfl
  show allTo 2 (nearAt 1 [a, b]) = _
  rw [allTo_succ, allTo_succ, allTo_zero, h1, h2]
  rfl
theorem Lists.slice {w : World} {B : Nat} {v : Value} {L : List (List Int)} (h : Lists w B v L) : ∃ ao c, v = .slice ao L.length c := by
  rcases h.form with ⟨rfl, rfl⟩ | ⟨g, cap, rfl, _⟩
  · exact ⟨none, 0, rfl⟩
  · exact ⟨_, _, rfl⟩
theorem Lists_lit2 {w : World} {B : Nat} {u v : Value} {a b : List Int} (h : Own w B u a) (h' : Own w B v b) (hB : B ≤ w.heap.size) : Lists (w.alloc (.cells #[u, v] 28)) B (.slice (some ⟨w.heap.size, 0, none⟩) 2 2) [a, b] := by
  refine ⟨[u, v], rfl, ownsRow_mono (World.ownsRow_lit w #[u, v] 2 (Nat.le_refl _) (by unfold maxLen; omega) rfl) hB, fun i h1 h2 => ?_⟩
  have hbel : Below w.heap.size w (w.alloc (.cells #[u, v] 28)) := (Below.refl _ _).alloc (Nat.le_refl _) _
  have h12 : i = 0 ∨ i = 1 := by simp at h2; omega
  rcases h12 with rfl | rfl
  · exact h.below hbel
  · exact h'.below hbel
theorem Lists_vals {w : World} {B g c : Nat} {L : List (List Int)} (h : Lists w B (.slice (some ⟨g, 0, none⟩) L.length c) L) :
    ∃ vs : List Value, vs.length = L.length ∧ (∀ j u, vs[j]? = some u → w.cell? ((⟨g, 0, none⟩ : Addr).add j) = some u) ∧ (∀ u ∈ vs, u.oneCell' = true) ∧ ∀ i (h1 : i < L.length) (h2 : i < vs.length), Own w B vs[i] L[i] := by
  obtain ⟨vs, hl, h2, h3⟩ := h
  refine ⟨vs, hl, fun j u hj => ?_, fun u hu => ?_, h3⟩
  · have hjl : j < vs.length := (List.getElem?_eq_some_iff.1 hj).1
    have := World.ownsRow.cellAt h2 j (by omega)
    rw [← hj, ← this, Addr.add]
    by_cases h0 : j = 0
    · rw [if_pos h0, h0]
    · rw [if_neg h0]; simp
  · obtain ⟨i, hi, rfl⟩ := List.getElem_of_mem hu
    exact (h3 i (by omega) hi).one _ (by simp)
theorem Lists_two {w w' : World} {B b0 : Nat} {v u : Value} {L : List (List Int)} {l : List Int} {vs : List Value} (hl : vs.length = L.length) (hB : B ≤ b0) (hrow : w'.ownsRow b0 28 1 v (L.length + 1) (vs ++ [u]))
    (h3 : ∀ i (h1 : i < L.length) (h2 : i < vs.length), Own w B vs[i] L[i]) (hu : Own w B u l) (hk : ∀ x xs, Own w B x xs → Own w' B x xs) : Lists w' B v (L ++ [l]) := by
  refine ⟨vs ++ [u], by simp [hl], by rw [List.length_append]; exact ownsRow_mono hrow hB, fun i a b => ?_⟩
  by_cases hi : i < L.length
  · rw [List.getElem_append_left (by omega), List.getElem_append_left hi]
    exact hk _ _ (h3 i hi (by omega))
  · have e1 : i = vs.length := by simp at b; simp at a; omega
    have e2 : i = L.length := by omega
    rw [List.getElem_append_right (by omega), List.getElem_append_right (by omega)]
    simp only [e1, Nat.sub_self, hl]
    simpa using hk _ _ hu
theorem cell_add {w w' : World} {g i : Nat} (h : Below w.heap.size w w') (hg : g < w.heap.size) : w'.cell? ((⟨g, 0, none⟩ : Addr).add i) = w.cell? ((⟨g, 0, none⟩ : Addr).add i) := h.cell (by
  rw [Addr.add]
  split
  · exact hg
  · exact hg)
theorem few_ends {P : List (List Int)} {l : List Int} (h : ∀ x ∈ P, fewL x) (h' : fewL l) : ∀ x ∈ P ++ [l], fewL x := by
  intro x hx
  rcases List.mem_append.1 hx with hx | hx
  · exact h x hx
  · simp at hx; subst hx; exact h'
set_option maxHeartbeats 4000000 in
theorem chSearch_any (A : List (List Int)) (ga ca B : Nat) (hA : A.length ≤ 100) (hfA : ∀ l ∈ A, fewL l) : ∀ (m : Nat) (P : List (List Int)) (pv : Value) (w : World), P.length + m = A.length → 0 < P.length → Lists w B pv P →
    Lists w B (.slice (some ⟨ga, 0, none⟩) A.length ca) A → B ≤ w.heap.size → (∀ l ∈ P, fewL l) →
    Calls Try.prog 50 #[pv, .slice (some ⟨ga, 0, none⟩) A.length ca] w fun e w' => ∃ u, e = .returned u ∧ Lists w' B u (srch A m P) ∧ Below w.heap.size w w' := by
  intro m
  induction m with
  | zero =>
    intro P pv w hpm hp0 hpv hav hB hfP
    have HP := hid hpv
    obtain ⟨ao, c, rfl⟩ := hpv.slice
    have hbb : ((P.length : Int) == (A.length : Int)) = true := by rw [show P.length = A.length by omega]; exact beq_self_eq_true _
    clear hpm hpv hav
    go_enter Try.func50, Try.ntmps50
    go_wp2_with fail
    go_ret
    exact ⟨_, rfl, HP.out, Below.refl _ _⟩
  | succ m ih =>
    intro P pv w hpm hp0 hpv hav hB hfP
    obtain ⟨j0, hj, hy0, hy1, hy2⟩ := info_parts Try.infoL
    have HP0 := hid hpv
    have HA0 := hid hav
    have HFP := hid hfP
    have HFA := hid hfA
    have HPM := hid hpm
    rcases hpv.form with ⟨_, hn⟩ | ⟨gp, cp, rfl, _, hgp, hcp1, hcpm, hpcell⟩
    · rw [hn] at hp0; simp at hp0
    have HPC := hid hpcell
    have hga : ga < w.heap.size := (hav.low ga rfl).2
    have HAC := hid (show ∀ i (hi : i < A.length), ∃ u, w.cell? ⟨ga, i, none⟩ = some u ∧ Own w B u A[i] by
      rcases hav.form with ⟨h1, _⟩ | ⟨g', c', e, _, _, _, _, hcl⟩
      · simp at h1
      · simp only [Value.slice.injEq, Option.some.injEq, Addr.mk.injEq, and_true] at e
        obtain ⟨rfl, _⟩ := e
        exact hcl)
    have hbb : ((P.length : Int) == (A.length : Int)) = false := beq_false_of_ne (by omega)
    have hpl : P.length ≤ 100 := by omega
    obtain ⟨j, hjl⟩ : ∃ j : Nat, P.length = j + 1 := ⟨P.length - 1, by omega⟩
    have hjP : j < P.length := by omega
    obtain ⟨zl, hzl, hzo⟩ := hpcell j hjP
    obtain ⟨la, hla⟩ : ∃ la, la = P[j] := ⟨_, rfl⟩
    rw [← hla] at hzo
    have hfl : fewL la := by rw [hla]; exact hfP _ (List.getElem_mem _)
    have HLAST := hid (show P.getD (P.length - 1) [] = la by rw [hjl, show j + 1 - 1 = j from rfl, getDL2 hjP, hla])
    obtain ⟨az0, cz0, hzs0⟩ := hzo.slice2
    subst hzs0
    have HZL := hid hzo
    obtain ⟨vs, hvl, hvn, hvo, hve⟩ := Lists_vals hpv
    have HVL := hid hvl
    have HVN := hid hvn
    have HVO := hid hvo
    have HVE := hid hve
    clear hvl hvn hvo hve
    have hj0 : (0 : Int) ≤ (j : Int) := by omega
    have hj1 : (j : Int) < (P.length : Int) := by omega
    have hww : IntKind.i64.wrap ((P.length : Int) - 1) = (j : Int) := by rw [show (P.length : Int) - 1 = (j : Int) by omega]; exact IntWalk.i64_in _ (by omega)
    have hwj : IntKind.i64.wrap (j : Int) = (j : Int) := IntWalk.i64_in _ (by omega)
    clear hpm hpv hav hfP hpcell hzo hjl hla
    go_enter Try.func50, Try.ntmps50
    go_wp2_with fail
    go_loopw [6, 7, 8, 17] (fun _ _ _ i wr => ∃ k : Nat, k ≤ A.length ∧ i = .int .i64 k ∧ srL (srch A m) P A = srL (srch A m) P (A.drop k) ∧ Below w.heap.size w wr) (fun _ _ _ i _ => A.length - (intOf i).toNat)
    case atStart => exact ⟨0, Nat.zero_le _, rfl, rfl, Below.refl _ _⟩
    case round =>
      obtain ⟨k, hk, rfl, heq, hbel⟩ := hrel
      have HEQ := hid heq
      have HB := hid hbel
      have HPW := hid (HP0.out.below hbel)
      have HAW := hid (HA0.out.below hbel)
      have hszw := hbel.size
      by_cases hlt : k < A.length
      · obtain ⟨z, hz, hown⟩ := HAC.out k hlt
        have hcx : wr.cell? ⟨ga, k, none⟩ = some z := (hbel.cell (by exact hga)).trans hz
        have hcl : wr.cell? ⟨gp, j, none⟩ = some (.slice az0 la.length cz0) := (hbel.cell (by exact hgp)).trans hzl
        have HZLW := hid (HZL.out.below hbel)
        obtain ⟨l, hl⟩ : ∃ l, l = A[k] := ⟨_, rfl⟩
        rw [← hl] at hown
        have HX := hid hl
        have hfl2 : fewL l := by rw [hl]; exact HFA.out _ (List.getElem_mem _)
        have HZW := hid (hown.below hbel)
        obtain ⟨az, cz, hzs⟩ := hown.slice2
        subst hzs
        obtain ⟨p, hp⟩ : ∃ p, p = placeIn l P := ⟨_, rfl⟩
        have HPL := hid hp
        clear hz hown hbel heq hl hp
        by_cases hp0' : 0 ≤ p
        · have HST := hid (show stopS P A[k] = true by rw [← HX.out, stopS, ← HPL.out, decide_eq_true hp0']; rfl)
          go_wp2_with (first | (go_at_call 41; refine (raPlace_any _ _ P l _ _ HPW.out HZW.out.reads).mono ?_; rintro e w1 ⟨rfl, hb1⟩; rw [← HPL.out]; have HB1 := hid hb1; clear hb1) | fail)
          go_roundw
          case rel => exact ⟨k + 1, by omega, by go_num, HEQ.out.trans (srL_skip hlt HST.out), Below_chain HB.out HB1.out⟩
          case measure => simp [intOf] <;> omega
        · obtain ⟨nr, hnr⟩ : ∃ nr, nr = nearP 1 la l := ⟨_, rfl⟩
          have HNR := hid hnr
          have HNT := hid (show nearL 1 [la, l] = nr by rw [near_two, hnr])
          have HSTP := hid (show stopS P A[k] = !nr by rw [← HX.out, stopS, ← HPL.out, decide_eq_false hp0', HLAST.out, hnr]; rfl)
          have HFEW := hid (show ∀ x ∈ [la, l], fewL x from fun x hx => by
            simp only [List.mem_cons, List.not_mem_nil, or_false] at hx
            rcases hx with rfl | rfl
            · exact hfl
            · exact hfl2)
          clear hnr
          cases nr with
          | false =>
            have HST := hid (show stopS P A[k] = true from HSTP.out)
            go_wp2_with (first
              | (go_at_call 41; refine (raPlace_any _ _ P l _ _ HPW.out HZW.out.reads).mono ?_; rintro e w1 ⟨rfl, hb1⟩; rw [← HPL.out]; have HB1 := hid hb1; have hs1 := hb1.size; have hcl1 : w1.cell? ⟨gp, j, none⟩ = some (.slice az0 la.length cz0) := (hb1.cell (by show gp < wr.heap.size; omega)).trans hcl; have HL2 := hid (Lists_lit2 (HZLW.out.below hb1) (HZW.out.below hb1) (show B ≤ w1.heap.size by omega)); clear hb1)
              | (go_at_call 63; refine (chNear_any _ [la, l] 1 _ _ HL2.out HFEW.out (by simp)).mono ?_; rintro e w2 ⟨rfl, hb2⟩; rw [HNT.out]; have HB2 := hid ((HB1.out.alloc hs1 (.cells #[.slice az0 la.length cz0, .slice az l.length cz] 28)).trans (hb2.mono (by simp; omega))); clear hb2)
              | fail)
            go_roundw
            case rel => exact ⟨k + 1, by omega, by go_num, HEQ.out.trans (srL_skip hlt HST.out), Below_chain HB.out HB2.out⟩
            case measure => simp [intOf] <;> omega
          | true =>
            have HST := hid (show stopS P A[k] = false from HSTP.out)
            obtain ⟨R, hR⟩ : ∃ R, R = srch A m (P ++ [l]) := ⟨_, rfl⟩
            have HRR := hid hR
            have HRX := hid (show srch A m (P ++ [A[k]]) = R by rw [← HX.out]; exact hR.symm)
            clear hR
            by_cases hzr : R.length = 0
            · have HNX := hid (show srL (srch A m) P (A.drop k) = srL (srch A m) P (A.drop (k + 1)) from srL_none hlt HST.out (by rw [HRX.out]; exact hzr))
              go_wp2_with (first
                | (go_at_call 41; refine (raPlace_any _ _ P l _ _ HPW.out HZW.out.reads).mono ?_; rintro e w1 ⟨rfl, hb1⟩; rw [← HPL.out]; have HB1 := hid hb1; have hs1 := hb1.size; have hcl1 : w1.cell? ⟨gp, j, none⟩ = some (.slice az0 la.length cz0) := (hb1.cell (by show gp < wr.heap.size; omega)).trans hcl; have HL2 := hid (Lists_lit2 (HZLW.out.below hb1) (HZW.out.below hb1) (show B ≤ w1.heap.size by omega)); clear hb1)
                | (go_at_call 63; refine (chNear_any _ [la, l] 1 _ _ HL2.out HFEW.out (by simp)).mono ?_; rintro e w2 ⟨rfl, hb2⟩; rw [HNT.out]; have hb2' := (HB1.out.alloc hs1 (.cells #[.slice az0 la.length cz0, .slice az l.length cz] 28)).trans (hb2.mono (by simp; omega)); have HB2 := hid hb2'; have hs2 := hb2'.size; have HR0 := hid (show (w2.alloc (.cells #[] 28)).ownsRow w.heap.size 28 1 (.slice (some ⟨w2.heap.size, 0, none⟩) 0 0) 0 [] from World.ownsRow_lit w2 #[] 0 (by omega) (by unfold maxLen; omega) rfl); have HB2A := hid ((Below_chain HB.out hb2').alloc (by omega) (.cells #[] 28)); have HZ2 := hid (HZW.out.below (hb2'.alloc hs2 (.cells #[] 28))); clear hb2 hb2')
                | (at_builtin; refine wpList_append_own _ rfl (.tmp 37) (.tmp 38) 22 rfl w.heap.size 28 j0 (.slice none 0 0) 1 24 Try.underlying22 hj hy0 hy1 hy2 rfl (by decide) _ _ _ rfl HR0.out ⟨gp, 0, none⟩ P.length cp vs rfl (by rw [HVL.out, Nat.mul_one]) (fun j u hj => (cell_add HB2A.out hgp).trans (HVN.out j u hj)) HVO.out (by unfold maxLen; omega) (by omega) (by simp; omega) ?_; intro v3 w3 hown3 hgrow3 hn3; have HR3 := hid (show w3.ownsRow w.heap.size 28 1 v3 P.length vs by simpa using hown3); have HK3 := hid (fun x xs (hx : Own (w2.alloc (.cells #[] 28)) B x xs) => Own.kept_type hx (T := 28) (by decide) HR0.out hgrow3); have hb3 := HB2A.out.grown hgrow3 (by simp; omega) (fun q hq => (World.ownsRow.lt HR0.out q hq).1); have HB3 := hid hb3; have hs3 := hb3.size; clear hown3 hgrow3 hn3 hb3)
                | (at_builtin; refine wpList_append_own _ rfl (.tmp 39) (.tmp 41) 22 rfl w.heap.size 28 j0 (.slice none 0 0) 1 24 Try.underlying22 hj hy0 hy1 hy2 rfl (by decide) _ _ _ rfl (World.ownsRow.alloc HR3.out _) ⟨w3.heap.size, 0, none⟩ 1 1 [.slice az l.length cz] rfl rfl (fun j u hj => new_cellV j hj) HZW.out.one (by unfold maxLen; omega) (by omega) (by simp; omega) ?_; intro v4 w4 hown4 hgrow4 hn4; have HR4 := hid hown4; have HK4 := hid (fun x xs (hx : Own (w3.alloc (.cells #[.slice az l.length cz] 28)) B x xs) => Own.kept_type hx (T := 28) (by decide) (World.ownsRow.alloc HR3.out _) hgrow4); have hb4 := (HB3.out.alloc hs3 (.cells #[.slice az l.length cz] 28)).grown hgrow4 (by simp; omega) (fun q hq => (World.ownsRow.lt HR3.out q hq).1); have HB4 := hid hb4; have HP4 := hid (Lists_two HVL.out hB HR4.out (fun i a b => ((HK3.out _ _ ((HVE.out i a b).below HB2A.out))).below ((Below.refl _ _).alloc (Nat.le_refl _) _)) ((HK3.out _ _ HZ2.out).below ((Below.refl _ _).alloc (Nat.le_refl _) _)) HK4.out); clear hown4 hgrow4 hn4 hb4)
                | (go_at_call 50; refine (ih (P ++ [l]) _ _ (by have := HPM.out; simp; omega) (by simp) HP4.out (HA0.out.below HB4.out) (Nat.le_trans hB HB4.out.size) (few_ends HFP.out hfl2)).mono ?_; rintro e w5 ⟨u5, rfl, hu5, hb5⟩; rw [← HRR.out] at hu5; have HU5 := hid hu5; obtain ⟨ao5, c5, rfl⟩ := hu5.slice; have HB5 := hid (HB4.out.trans (hb5.mono HB4.out.size)); clear hu5 hb5)
                | fail)
              go_roundw
              case rel => exact ⟨k + 1, by omega, by go_num, HEQ.out.trans HNX.out, HB5.out⟩
              case measure => simp [intOf] <;> omega
            · have HG := hid (show srch A (m + 1) P = R from HEQ.out.trans ((srL_hit hlt HST.out (by rw [HRX.out]; exact hzr)).trans HRX.out))
              go_wp2_with (first
                | (go_at_call 41; refine (raPlace_any _ _ P l _ _ HPW.out HZW.out.reads).mono ?_; rintro e w1 ⟨rfl, hb1⟩; rw [← HPL.out]; have HB1 := hid hb1; have hs1 := hb1.size; have hcl1 : w1.cell? ⟨gp, j, none⟩ = some (.slice az0 la.length cz0) := (hb1.cell (by show gp < wr.heap.size; omega)).trans hcl; have HL2 := hid (Lists_lit2 (HZLW.out.below hb1) (HZW.out.below hb1) (show B ≤ w1.heap.size by omega)); clear hb1)
                | (go_at_call 63; refine (chNear_any _ [la, l] 1 _ _ HL2.out HFEW.out (by simp)).mono ?_; rintro e w2 ⟨rfl, hb2⟩; rw [HNT.out]; have hb2' := (HB1.out.alloc hs1 (.cells #[.slice az0 la.length cz0, .slice az l.length cz] 28)).trans (hb2.mono (by simp; omega)); have HB2 := hid hb2'; have hs2 := hb2'.size; have HR0 := hid (show (w2.alloc (.cells #[] 28)).ownsRow w.heap.size 28 1 (.slice (some ⟨w2.heap.size, 0, none⟩) 0 0) 0 [] from World.ownsRow_lit w2 #[] 0 (by omega) (by unfold maxLen; omega) rfl); have HB2A := hid ((Below_chain HB.out hb2').alloc (by omega) (.cells #[] 28)); have HZ2 := hid (HZW.out.below (hb2'.alloc hs2 (.cells #[] 28))); clear hb2 hb2')
                | (at_builtin; refine wpList_append_own _ rfl (.tmp 37) (.tmp 38) 22 rfl w.heap.size 28 j0 (.slice none 0 0) 1 24 Try.underlying22 hj hy0 hy1 hy2 rfl (by decide) _ _ _ rfl HR0.out ⟨gp, 0, none⟩ P.length cp vs rfl (by rw [HVL.out, Nat.mul_one]) (fun j u hj => (cell_add HB2A.out hgp).trans (HVN.out j u hj)) HVO.out (by unfold maxLen; omega) (by omega) (by simp; omega) ?_; intro v3 w3 hown3 hgrow3 hn3; have HR3 := hid (show w3.ownsRow w.heap.size 28 1 v3 P.length vs by simpa using hown3); have HK3 := hid (fun x xs (hx : Own (w2.alloc (.cells #[] 28)) B x xs) => Own.kept_type hx (T := 28) (by decide) HR0.out hgrow3); have hb3 := HB2A.out.grown hgrow3 (by simp; omega) (fun q hq => (World.ownsRow.lt HR0.out q hq).1); have HB3 := hid hb3; have hs3 := hb3.size; clear hown3 hgrow3 hn3 hb3)
                | (at_builtin; refine wpList_append_own _ rfl (.tmp 39) (.tmp 41) 22 rfl w.heap.size 28 j0 (.slice none 0 0) 1 24 Try.underlying22 hj hy0 hy1 hy2 rfl (by decide) _ _ _ rfl (World.ownsRow.alloc HR3.out _) ⟨w3.heap.size, 0, none⟩ 1 1 [.slice az l.length cz] rfl rfl (fun j u hj => new_cellV j hj) HZW.out.one (by unfold maxLen; omega) (by omega) (by simp; omega) ?_; intro v4 w4 hown4 hgrow4 hn4; have HR4 := hid hown4; have HK4 := hid (fun x xs (hx : Own (w3.alloc (.cells #[.slice az l.length cz] 28)) B x xs) => Own.kept_type hx (T := 28) (by decide) (World.ownsRow.alloc HR3.out _) hgrow4); have hb4 := (HB3.out.alloc hs3 (.cells #[.slice az l.length cz] 28)).grown hgrow4 (by simp; omega) (fun q hq => (World.ownsRow.lt HR3.out q hq).1); have HB4 := hid hb4; have HP4 := hid (Lists_two HVL.out hB HR4.out (fun i a b => ((HK3.out _ _ ((HVE.out i a b).below HB2A.out))).below ((Below.refl _ _).alloc (Nat.le_refl _) _)) ((HK3.out _ _ HZ2.out).below ((Below.refl _ _).alloc (Nat.le_refl _) _)) HK4.out); clear hown4 hgrow4 hn4 hb4)
                | (go_at_call 50; refine (ih (P ++ [l]) _ _ (by have := HPM.out; simp; omega) (by simp) HP4.out (HA0.out.below HB4.out) (Nat.le_trans hB HB4.out.size) (few_ends HFP.out hfl2)).mono ?_; rintro e w5 ⟨u5, rfl, hu5, hb5⟩; rw [← HRR.out] at hu5; have HU5 := hid hu5; obtain ⟨ao5, c5, rfl⟩ := hu5.slice; have HB5 := hid (HB4.out.trans (hb5.mono HB4.out.size)); clear hu5 hb5)
                | fail)
              go_ret
              exact ⟨_, rfl, by rw [HG.out]; exact HU5.out, HB5.out⟩
      · obtain rfl : k = A.length := by omega
        have HG := hid (show srch A (m + 1) P = [] from HEQ.out.trans (by rw [List.drop_length]; rfl))
        clear hbel heq
        go_wp2_with fail
        go_ret
        rw [HG.out]
        exact ⟨_, rfl, Lists.nil _ _, HB.out⟩
end Go.Proofs.Ytijjdidljoicfab
