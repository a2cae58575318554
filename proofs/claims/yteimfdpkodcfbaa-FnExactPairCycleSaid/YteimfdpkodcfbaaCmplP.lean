/- Contracts: complete and leastWord with the closure pairsOf$1. Conditions: the closure's contract is handed over. -/
import Derived.Test.YteimfdpkodcfbaaForgP
import Derived.Laws.EntriesVeiled
namespace Go.Proofs.Yteimfdpkodcfbaa
open Go.RowKit Go.Maps
set_option linter.unusedVariables false
set_option maxRecDepth 4000

/-- nothing that was there has turned but two blocks -/
structure Grown2 (w w' : World) (g mb : Nat) : Prop where
  os : w'.os = w.os
  tape : w'.tape = w.tape
  output : w'.output = w.output
  size : w.heap.size ≤ w'.heap.size
  block : ∀ k, k < w.heap.size → k ≠ g → k ≠ mb → w'.heap[k]? = w.heap[k]?
theorem Grown2.refl (w : World) (g mb : Nat) : Grown2 w w g mb := ⟨rfl, rfl, rfl, Nat.le_refl _, fun _ _ _ _ => rfl⟩
theorem Grown2.trans {w w1 w2 : World} {g mb : Nat} (h : Grown2 w w1 g mb) (h' : Grown2 w1 w2 g mb) : Grown2 w w2 g mb :=
  ⟨h'.os.trans h.os, h'.tape.trans h.tape, h'.output.trans h.output, Nat.le_trans h.size h'.size, fun k hk h1 h2 => (h'.block k (Nat.lt_of_lt_of_le hk h.size) h1 h2).trans (h.block k hk h1 h2)⟩
theorem Grown2.of_map {w w' : World} {g mb : Nat} (h : w.grownBy w' (some mb)) : Grown2 w w' g mb :=
  ⟨h.os, h.tape, h.output, h.size, fun k hk h1 h2 => h.block k hk (by simpa using h2)⟩
theorem Grown2.of_below {w w' : World} {g mb : Nat} (h : Below w.heap.size w w') : Grown2 w w' g mb :=
  ⟨h.os, h.tape, h.output, h.size, fun k hk _ _ => h.block k hk⟩
theorem Grown2.of_set (w : World) (g mb k : Nat) (v : Value) : Grown2 w (w.setCell ⟨g, k, none⟩ v) g mb :=
  ⟨rfl, rfl, rfl, by simp, fun i _ h1 _ => Below.heap_setCell _ _ _ i h1⟩
theorem Grown2.cell {w w' : World} {g mb : Nat} (h : Grown2 w w' g mb) {b o : Nat} {x : Value} (hc : w.cell? ⟨b, o, none⟩ = some x) (h0 : b < w.heap.size) (h1 : b ≠ g) (h2 : b ≠ mb) : w'.cell? ⟨b, o, none⟩ = some x :=
  (World.cell?_of_block (w := w) (h.block b h0 h1 h2)).trans hc
theorem Grown2.below {wB w w' : World} {g mb : Nat} (h : Grown2 w w' g mb) (hb : Below wB.heap.size wB w) (h1 : wB.heap.size ≤ g) (h2 : wB.heap.size ≤ mb) : Below wB.heap.size wB w' :=
  ⟨h.os.trans hb.os, h.tape.trans hb.tape, h.output.trans hb.output, Nat.le_trans hb.size h.size, fun k hk => (h.block k (Nat.lt_of_lt_of_le hk hb.size) (by omega) (by omega)).trans (hb.block k hk)⟩
theorem grownBy_setX (w : World) (g k : Nat) (v : Value) : w.grownBy (w.setCell ⟨g, k, none⟩ v) (some g) :=
  ⟨rfl, rfl, rfl, by simp, fun i _ hne => Below.heap_setCell _ _ _ i (fun e => hne (by rw [e]))⟩
theorem exit_ofX {Q : Exit → Act → World → Prop} {a b : Act} {w : World} (h : b = a) (hq : Q .normal b w) : Q .normal a w := h ▸ hq
/-- the check of a prefix -/
noncomputable def chkC (rk : List Int → Int) (ok : List Int → Bool) (PL : List (List Int)) (l : List Int) : Bool := @decide (GdT rk ok PL l) (Classical.propDecidable _)
theorem chkC_yes {rk : List Int → Int} {ok : List Int → Bool} {PL : List (List Int)} {l : List Int} (h : GdT rk ok PL l) : chkC rk ok PL l = true := by unfold chkC; exact @decide_eq_true _ (Classical.propDecidable _) h
theorem chkC_no {rk : List Int → Int} {ok : List Int → Bool} {PL : List (List Int)} {l : List Int} (h : ¬ GdT rk ok PL l) : ¬ chkC rk ok PL l = true := by unfold chkC; intro e; exact h (@of_decide_eq_true _ (Classical.propDecidable _) e)
/-- what a word's prefix means for its windows -/
theorem pre_win {PL : List (List Int)} (h0 : ∀ l ∈ PL, ∀ p ∈ l, 0 ≤ p) {pre c : List Int} {i : Nat} (hi : i < PL.length) (hs : lsT PL i < (pre.length : Int)) : pkL (pre ++ c) (PL.getD i []) = pkL pre (PL.getD i []) := by
  refine pk_pre hs (h0 _ ?_)
  rw [List.getD_eq_getElem?_getD, List.getElem?_eq_getElem hi]
  exact List.getElem_mem hi
/-- what complete leaves -/
structure CmpR (e : Ending) (w w' : World) (g mb N : Nat) (rk : List Int → Int) (PL : List (List Int)) (pre : List Int) (r : Option (List Int)) : Prop where
  end' : e = .returned (.bool r.isSome)
  yes : ∀ L, r = some L → w'.rowIs g 3 N (fun i => .int .i64 (L.getD i 0))
  no : r = none → (∃ F : Nat → Int, w'.rowIs g 3 N (fun i => .int .i64 (F i)) ∧ ∀ i, i < pre.length → F i = pre.getD i 0) ∧ MapI w' mb N (fun i => lsT PL i < (pre.length : Int)) (rkT rk PL pre)
  grown : Grown2 w w' g mb
theorem meet_yes_P {e : Ending} {w w' : World} {mb m : Nat} {rk : List Int → Int} {ok : List Int → Bool} {PL : List (List Int)} {ws : List Int} (h : MetE e w w' mb rk ok PL ws m) (hg : GdT rk ok PL ws) : e = .returned (.bool true) ∧ MapI w' mb PL.length (fun i => lsT PL i < (ws.length : Int)) (rkT rk PL ws) ∧ w.grownBy w' (some mb) := by
  obtain ⟨r, rfl, hr⟩ := h
  cases r with
  | false => exact absurd hg (hr.no rfl)
  | true =>
    obtain ⟨S, _, h2, _, h4⟩ := hr.map
    exact ⟨rfl, h4.congr (h2 rfl) (fun _ _ _ => rfl), hr.grown⟩
theorem meet_no_P {e : Ending} {w w' : World} {mb m : Nat} {rk : List Int → Int} {ok : List Int → Bool} {PL : List (List Int)} {ws : List Int} (h : MetE e w w' mb rk ok PL ws m) (hg : ¬ GdT rk ok PL ws) : e = .returned (.bool false) ∧ (∃ S : Nat → Prop, (∀ i, i < PL.length → lsT PL i < (m : Int) → S i) ∧ Gd rk ok PL ws S ∧ MapI w' mb PL.length S (rkT rk PL ws)) ∧ w.grownBy w' (some mb) := by
  obtain ⟨r, rfl, hr⟩ := h
  cases r with
  | true => exact absurd (hr.yes rfl) hg
  | false =>
    obtain ⟨S, h1, _, h3, h4⟩ := hr.map
    exact ⟨rfl, ⟨S, h1, h3, h4⟩, hr.grown⟩
set_option maxHeartbeats 4000000 in
theorem complete_P (rk : List Int → Int) (ok : List Int → Bool) (v : Value) (PL : List (List Int)) (N bb g mb : Nat) (pa : Addr) (wB : World) (hN : PL.length = N) (hpl : SitsL wB v PL) (hn : N ≤ 200) (hbb : bb ≤ 200) (hrow : ∀ l ∈ PL, Placed N l) (hwf : ∀ l, (Lit.int .i64 (rk l)).wf = true) (hg : wB.heap.size ≤ g) (hmb : wB.heap.size ≤ mb) (hgm : g ≠ mb)
    (hclo : ∀ (W : World) (x : Value) (B : Nat) (ys : List Int), (∃ l ∈ PL, ∃ ws, (∀ z ∈ ws, 0 ≤ z ∧ z < (bb : Int)) ∧ ys = pkL ws l) → Own W B x ys → Below wB.heap.size wB W → Calls Try.prog 133 #[x, .pointer (some pa)] W fun e w' => e = .returned (.tuple #[.int .i64 (rk ys), .bool (ok ys)]) ∧ Below W.heap.size W w') :
    ∀ (rem : Nat) (pre : List Int) (F : Nat → Int) (w : World), rem + pre.length = N → (∀ z ∈ pre, 0 ≤ z ∧ z < (bb : Int)) → Below wB.heap.size wB w → w.rowIs g 3 N (fun i => .int .i64 (F i)) → (∀ i, i < pre.length → F i = pre.getD i 0) → MapI w mb N (fun i => lsT PL i < (pre.length : Int)) (rkT rk PL pre) → GdT rk ok PL pre →
    Calls Try.prog 140 #[.agg #[v, .func (.func 133) #[] #[.pointer (some pa)], .map (some mb)], .slice (some ⟨g, 0, none⟩) N N, .int .i64 (pre.length : Int), .int .i64 (bb : Int)] w fun e w' => CmpR e w w' g mb N rk PL pre (srcF (chkC rk ok PL) bb rem pre) := by
  have HPL := hid hpl
  have HROW := hid hrow
  have HWF := hid hwf
  have HCLO := hid hclo
  subst hN
  have HP0 := hid (show ∀ l ∈ PL, ∀ p ∈ l, 0 ≤ p from fun l hl p hp => by
    obtain ⟨q, e, _⟩ := (hrow l hl).within p hp
    omega)
  obtain ⟨b, off, c, rfl, hc1, hcm, hb, hc⟩ := hpl
  obtain ⟨N, hNN⟩ : ∃ N, N = PL.length := ⟨_, rfl⟩
  have HNN := hid hNN.symm
  rw [← hNN] at HPL HROW hn hc1 ⊢
  clear hc hrow hwf hclo hc1 hNN
  intro rem
  induction rem with
  | zero =>
    intro pre F w hrem hpre hbel hrowF hF hmap hgd
    have HROWF := hid hrowF
    have HF := hid hF
    obtain ⟨m, hm⟩ : ∃ m, m = pre.length := ⟨_, rfl⟩
    have HMM := hid hm
    have hmN : m = N := by omega
    have HMN2 := hid hmN
    have HSR := hid (show srcF (chkC rk ok PL) bb 0 pre = some pre from rfl)
    rw [HSR.out, ← hm, hmN]
    clear hrowF hF hmap hgd hbel hpre hm hrem hmN
    have hdN : ((N : Int) == (N : Int)) = true := by simp
    go_enter Try.func140, Try.ntmps140
    go_wp2_with fail
    go_ret
    refine ⟨rfl, fun L e => ?_, fun e => (by cases e), Grown2.of_below ((Below.refl w.heap.size w).alloc (Nat.le_refl _) _)⟩
    injection e with e
    subst e
    have h1 := HROWF.out.of_block (((Below.refl w.heap.size w).alloc (Nat.le_refl _) (.cells #[.slice (some ⟨b, off, none⟩) N c, .func (.func 133) #[] #[.pointer (some pa)], .map (some mb)] 102)).block g HROWF.out.lt)
    exact h1.congr (fun k hk => by rw [HF.out k (by have := HMM.out; have := HMN2.out; omega)])
  | succ rem ih =>
    intro pre F w hrem hpre hbel hrowF hF hmap hgd
    have IH := hid ih
    have HPRE := hid hpre
    have HGD := hid hgd
    have HBW := hid hbel
    obtain ⟨m, hm⟩ : ∃ m, m = pre.length := ⟨_, rfl⟩
    have HMM := hid hm
    have hmN : m < N := by omega
    have hRM := hid (show rem + (m + 1) = N by omega)
    obtain ⟨f, hf⟩ : ∃ f : Nat → Option (List Int), f = fun (x : Nat) => if chkC rk ok PL (pre ++ [(x : Int)]) = true then srcF (chkC rk ok PL) bb rem (pre ++ [(x : Int)]) else none := ⟨_, rfl⟩
    have HSR := hid (show srcF (chkC rk ok PL) bb (rem + 1) pre = fstS f 0 bb by rw [hf]; rfl)
    have HFY := hid (fun (x : Nat) (h : GdT rk ok PL (pre ++ [(x : Int)])) => (show f x = srcF (chkC rk ok PL) bb rem (pre ++ [(x : Int)]) by rw [hf]; show (if _ then _ else _) = _; rw [if_pos (chkC_yes h)]))
    have HFN := hid (fun (x : Nat) (h : ¬ GdT rk ok PL (pre ++ [(x : Int)])) => (show f x = none by rw [hf]; show (if _ then _ else _) = _; rw [if_neg (chkC_no h)]))
    obtain ⟨R, hR⟩ : ∃ R, R = fstS f 0 bb := ⟨_, rfl⟩
    rw [HSR.out, ← hm, ← hR]
    have HRR := hid hR
    rw [← hm] at hF hmap
    obtain ⟨w1, hw1⟩ : ∃ w1, w1 = w.alloc (.cells #[.slice (some ⟨b, off, none⟩) N c, .func (.func 133) #[] #[.pointer (some pa)], .map (some mb)] 102) := ⟨_, rfl⟩
    have hB1 : Below w.heap.size w w1 := by rw [hw1]; exact (Below.refl _ _).alloc (Nat.le_refl _) _
    have HB1 := hid hB1
    have HBW1 := hid (Below_chain hbel hB1)
    have HS1 := hid (show w1.heap.size = w.heap.size + 1 by rw [hw1]; simp)
    have HX0 := hid (show w1.cell? ⟨w.heap.size, 0, none⟩ = some (.slice (some ⟨b, off, none⟩) N c) by rw [hw1]; simp)
    have HX1 := hid (show w1.cell? ⟨w.heap.size, 1, none⟩ = some (.func (.func 133) #[] #[.pointer (some pa)]) by rw [hw1]; simp)
    have HX2 := hid (show w1.cell? ⟨w.heap.size, 2, none⟩ = some (.map (some mb)) by rw [hw1]; simp)
    have HGLT := hid hrowF.lt
    have HMLT := hid hmap.lt
    have HRW1 := hid (hrowF.of_block (hB1.block g hrowF.lt))
    have HMP1 := hid (hmap.below hB1)
    have HF := hid hF
    have HW1 := hid hw1
    have hdN : ((m : Int) == (N : Int)) = false := by simp; omega
    clear hrowF hF hmap hgd hbel hpre hm hrem hf hw1 hB1 ih hR
    go_enter Try.func140, Try.ntmps140
    go_wp2_with fail
    rw [← HW1.out]
    go_loopw [9, 15] (fun _ i wr => ∃ x : Nat, i = .int .i64 (x : Int) ∧ x ≤ bb ∧ R = fstS f x (bb - x) ∧ (∃ F : Nat → Int, wr.rowIs g 3 N (fun i => .int .i64 (F i)) ∧ ∀ i, i < m → F i = pre.getD i 0) ∧ MapI wr mb N (fun i => lsT PL i < (m : Int)) (rkT rk PL pre) ∧ Grown2 w1 wr g mb) (fun _ i _ => bb - (intOf i).toNat)
    case atStart => exact ⟨0, rfl, Nat.zero_le _, HRR.out, ⟨F, HRW1.out, HF.out⟩, HMP1.out, Grown2.refl _ _ _⟩
    case round =>
      obtain ⟨x, rfl, hx, hfs, ⟨F2, hrow2, hF2⟩, hmp, hgr⟩ := hrel
      have HFS := hid hfs
      have HMP := hid hmp
      have HGR := hid hgr
      have HR2 := hid hrow2
      have HF2 := hid hF2
      clear hfs hmp hgr hF2
      by_cases hlt : x < bb
      · obtain ⟨d, hd⟩ : ∃ d, bb - x = d + 1 := ⟨bb - x - 1, by omega⟩
        have HDD := hid hd
        have HDX := hid (show d = bb - (x + 1) by omega)
        have hcg := hrow2.cell hmN
        have hfg := hrow2.frozen m
        obtain ⟨z, hz⟩ : ∃ z, wr.cell? ⟨g, m, none⟩ = some z := ⟨_, hcg⟩
        obtain ⟨ws, hws⟩ : ∃ ws, ws = pre ++ [(x : Int)] := ⟨_, rfl⟩
        have HWS := hid hws
        have HWL := hid (show ws.length = m + 1 by rw [hws, List.length_append, ← HMM.out]; rfl)
        have HWG := hid (show ∀ i, i < m → ws.getD i 0 = pre.getD i 0 from fun i hi => by rw [hws, List.getD_eq_getElem?_getD, List.getElem?_append_left (by rw [← HMM.out]; exact hi), ← List.getD_eq_getElem?_getD])
        have HWM := hid (show ws.getD m 0 = (x : Int) by rw [hws, List.getD_eq_getElem?_getD, List.getElem?_append_right (by rw [← HMM.out]; exact Nat.le_refl _), ← HMM.out, Nat.sub_self]; rfl)
        have HWB := hid (show ∀ z ∈ ws, 0 ≤ z ∧ z < (bb : Int) from fun z hz => by
          rw [hws, List.mem_append] at hz
          rcases hz with hz | hz
          · exact HPRE.out z hz
          · simp at hz; omega)
        have HPW := hid (show ∀ i, i < PL.length → lsT PL i < (m : Int) → pkL ws (PL.getD i []) = pkL pre (PL.getD i []) from fun i hi hs => by rw [hws]; exact pre_win HP0.out hi (by rw [← HMM.out]; exact hs))
        have HTW := hid (show ∀ i, i < PL.length → lsT PL i < (m : Int) → rkT rk PL pre i = rkT rk PL ws i from fun i hi hs => by unfold rkT; rw [HPW.out i hi hs])
        have HGW := hid (show Gd rk ok PL ws (fun i => lsT PL i < (m : Int)) from ⟨fun i hi hs => by rw [HPW.out i hi hs]; exact HGD.out.yes i hi (by rw [← HMM.out]; exact hs), fun i j hi hj hsi hsj e => HGD.out.inj i j hi hj (by rw [← HMM.out]; exact hsi) (by rw [← HMM.out]; exact hsj) (by rw [HTW.out i hi hsi, HTW.out j hj hsj]; exact e)⟩)
        have HFYX := hid (fun (h : GdT rk ok PL ws) => (show f x = srcF (chkC rk ok PL) bb rem ws by rw [hws] at h ⊢; exact HFY.out x h))
        have HFNX := hid (fun (h : ¬ GdT rk ok PL ws) => (show f x = none by rw [hws] at h; exact HFN.out x h))
        obtain ⟨W2, hW2⟩ : ∃ W2, W2 = wr.setCell ⟨g, m, none⟩ (.int .i64 (x : Int)) := ⟨_, rfl⟩
        have HW2 := hid hW2
        have HG2 := hid (show Grown2 wr W2 g mb by rw [hW2]; exact Grown2.of_set _ _ _ _ _)
        obtain ⟨F3, hF3⟩ : ∃ F3 : Nat → Int, F3 = fun i => if i = m then (x : Int) else F2 i := ⟨_, rfl⟩
        have HF3 := hid (show ∀ i, i < m + 1 → F3 i = ws.getD i 0 from fun i hi => by
          rw [hF3]
          by_cases e : i = m
          · subst e; simp; exact HWM.out.symm
          · show (if i = m then _ else _) = _
            rw [if_neg e, HWG.out i (by omega)]
            exact HF2.out i (by omega))
        have HR3 := hid (show W2.rowIs g 3 N (fun i => .int .i64 (F3 i)) by
          rw [hW2]
          refine (hrow2.set m (.int .i64 (x : Int))).congr (fun i hi => ?_)
          rw [hF3]
          by_cases e : i = m
          · show (if i = m then _ else _) = Value.int _ (if i = m then _ else _)
            rw [if_pos e, if_pos e]
          · show (if i = m then _ else _) = Value.int _ (if i = m then _ else _)
            rw [if_neg e, if_neg e])
        have HMP2 := hid (show MapI W2 mb N (fun i => lsT PL i < (m : Int)) (rkT rk PL pre) by rw [hW2]; exact HMP.out.kept (grownBy_setX _ _ _ _) (by simp; omega))
        have HGLW := hid (Nat.lt_of_lt_of_le HGLT.out (Nat.le_trans HB1.out.size HGR.out.size))
        have HSM := hid (show Sits W2 (.slice (some ⟨g, 0, none⟩) (m + 1) N) ws from ⟨g, 0, N, by rw [HWL.out], by rw [HWL.out]; omega, by omega, HR3.out.lt, fun i hi => by
          have hi2 : i < m + 1 := by rw [← HWL.out]; exact hi
          rw [Nat.zero_add, HR3.out.cell (i := i) (by omega), HF3.out i hi2, getD_at hi]⟩)
        have HGB := hid (show w1.heap.size ≤ W2.heap.size ∧ Grown2 w1 W2 g mb from ⟨(HGR.out.trans HG2.out).size, HGR.out.trans HG2.out⟩)
        have HBD := hid (Below.drew ((HGB.out.2).below HBW1.out hg hmb))
        have HBX := hid (show ∀ W, Grown2 W2 W g mb → W.cell? ⟨w.heap.size, 0, none⟩ = some (.slice (some ⟨b, off, none⟩) N c) ∧ W.cell? ⟨w.heap.size, 1, none⟩ = some (.func (.func 133) #[] #[.pointer (some pa)]) ∧ W.cell? ⟨w.heap.size, 2, none⟩ = some (.map (some mb)) from fun W hG => by
          have hG2 := HGB.out.2.trans hG
          have h1 := HS1.out
          have h2 := HGLT.out
          have h3 := HMLT.out
          exact ⟨hG2.cell HX0.out (by omega) (by omega) (by omega), hG2.cell HX1.out (by omega) (by omega) (by omega), hG2.cell HX2.out (by omega) (by omega) (by omega)⟩)
        have HDG := hid (show Grown2 W2 W2.drew g mb from Grown2.of_below (Below.refl _ _).drew)
        have HMK := hid (meetK_P rk ok (.slice (some ⟨b, off, none⟩) N c) (.slice (some ⟨g, 0, none⟩) (m + 1) N) PL ws m mb pa W2.drew (HPL.out.below HBD.out) (HSM.out.below (Below.refl _ _).drew) (by rw [HNN.out]; exact hn) HWL.out (by rw [HNN.out]; exact HROW.out) (by rw [HWL.out]; omega) (fun l hl => HWF.out _) (by rw [HNN.out]; exact (HMP2.out.below (Below.refl _ _).drew).congr (fun _ _ => Iff.rfl) (fun i hi hs => HTW.out i (by rw [HNN.out]; exact hi) hs)) HGW.out
          (fun W y B ys hys _ ho hgr => HCLO.out W y B ys (by obtain ⟨l, hl, e⟩ := hys; exact ⟨l, hl, ws, HWB.out, e⟩) ho (((Grown2.of_map hgr).below HBD.out hg hmb))))
        clear hws hW2 hF3 hrow2 hcg hd
        have k1 : (0 : Int) ≤ (m : Int) + 1 := by omega
        have k2 : (m : Int) + 1 ≤ (N : Int) := by omega
        have k3 : IntKind.i64.wrap ((m : Int) + 1) = (m : Int) + 1 := IntWalk.i64_in _ (by omega)
        have k4 : ((m : Int) + 1).toNat = m + 1 := by omega
        by_cases hgd : GdT rk ok PL ws
        · have HGY := hid hgd
          have HFX := hid (HFYX.out hgd)
          have hcast : (m : Int) + 1 = ((ws.length : Nat) : Int) := by rw [HWL.out]; rfl
          have HIH := hid (show ∀ (w3 : World), MapI w3 mb PL.length (fun i => lsT PL i < (ws.length : Int)) (rkT rk PL ws) → W2.drew.grownBy w3 (some mb) → Calls Try.prog 140 #[.agg #[.slice (some ⟨b, off, none⟩) N c, .func (.func 133) #[] #[.pointer (some pa)], .map (some mb)], .slice (some ⟨g, 0, none⟩) N N, .int .i64 ((m : Int) + 1), .int .i64 (bb : Int)] w3 fun e w' => CmpR e w3 w' g mb N rk PL ws (srcF (chkC rk ok PL) bb rem ws) from fun w3 hm3 hg3 => by
            rw [hcast]
            exact IH.out ws F3 w3 (by rw [HWL.out]; exact hRM.out) HWB.out ((Grown2.of_map hg3).below HBD.out hg hmb)
              (HR3.out.of_block (hg3.block g (Nat.lt_of_lt_of_le HR3.out.lt HDG.out.size) (by simp; omega))) (fun i hi => HF3.out i (by rw [← HWL.out]; exact hi)) (by rw [HNN.out] at hm3; exact hm3) HGY.out)
          clear hcast
          clear hgd
          cases hsr : srcF (chkC rk ok PL) bb rem ws with
          | some L =>
            rw [hsr] at HIH HFX
            have HRL := hid (show R = some L by rw [HFS.out, HDD.out, fstS_some HFX.out])
            go_wp2_with fail
            rw [← HW2.out]
            go_region_held3 (fun w' => w'.cell? ⟨w.heap.size, 0, none⟩ = some (.slice (some ⟨b, off, none⟩) N c) ∧ w'.cell? ⟨w.heap.size, 1, none⟩ = some (.func (.func 133) #[] #[.pointer (some pa)]) ∧ w'.cell? ⟨w.heap.size, 2, none⟩ = some (.map (some mb)))
              (first | exact HBX.out _ HDG.out | exact HBX.out _ (HDG.out.trans (Grown2.of_map HG3.out)) | exact HBX.out _ (HDG.out.trans ((Grown2.of_map HG3.out).trans HG4.out)) | go_keep | fail)
              (first
                | (go_at_call 140; (refine (HIH.out w3 HM3.out HG3.out).mono ?_); (intro e w4 hcr); (have he : e = Ending.returned (Value.bool true) := hcr.end'); (have HCR := hid hcr); (have HG4 := hid hcr.grown); (clear hcr); (subst he))
                | (go_at_call 138; (refine HMK.out.mono ?_); (intro e w3 hme); (obtain ⟨rfl, hm3, hg3⟩ := meet_yes_P hme HGY.out); (have HM3 := hid hm3); (have HG3 := hid hg3); (clear hme hm3 hg3))
                | fail)
            go_wp2_with fail
            go_ret
            exact ⟨by rw [HRL.out]; rfl, fun L2 e => by rw [HRL.out] at e; injection e with e; subst e; exact HCR.out.yes _ rfl, fun e => (by rw [HRL.out] at e; cases e), (Grown2.of_below HB1.out).trans ((HGB.out.2.trans HDG.out).trans ((Grown2.of_map (g := g) HG3.out).trans HG4.out))⟩
          | none =>
            rw [hsr] at HIH HFX
            go_wp2_with fail
            rw [← HW2.out]
            go_region_held3 (fun w' => w'.cell? ⟨w.heap.size, 0, none⟩ = some (.slice (some ⟨b, off, none⟩) N c) ∧ w'.cell? ⟨w.heap.size, 1, none⟩ = some (.func (.func 133) #[] #[.pointer (some pa)]) ∧ w'.cell? ⟨w.heap.size, 2, none⟩ = some (.map (some mb)))
              (first | exact HBX.out _ HDG.out | exact HBX.out _ (HDG.out.trans (Grown2.of_map HG3.out)) | exact HBX.out _ (HDG.out.trans ((Grown2.of_map HG3.out).trans HG4.out)) | go_keep | fail)
              (first
                | (go_at_call 140; (refine (HIH.out w3 HM3.out HG3.out).mono ?_); (intro e w4 hcr); (have he : e = Ending.returned (Value.bool false) := hcr.end'); (have HCR := hid hcr); (have HG4 := hid hcr.grown); (clear hcr); (subst he))
                | (go_at_call 138; (refine HMK.out.mono ?_); (intro e w3 hme); (obtain ⟨rfl, hm3, hg3⟩ := meet_yes_P hme HGY.out); (have HM3 := hid hm3); (have HG3 := hid hg3); (clear hme hm3 hg3))
                | fail)
            obtain ⟨y0, y1, y2⟩ := HBX.out w4 (HDG.out.trans ((Grown2.of_map HG3.out).trans HG4.out))
            have HB4 := hid (HG4.out.below ((Grown2.of_map HG3.out).below HBD.out hg hmb) hg hmb)
            obtain ⟨⟨F4, hr4, hf4⟩, hm4⟩ := HCR.out.no rfl
            have HR4 := hid hr4
            have HF4 := hid hf4
            have HFG := hid (forget_P (.slice (some ⟨b, off, none⟩) N c) PL m mb pa (fun i => lsT PL i < (ws.length : Int)) (rkT rk PL ws) w4 (HPL.out.below HB4.out) (by rw [HNN.out]; exact hn) (by rw [HNN.out]; exact HROW.out) (by rw [HNN.out]; exact hm4) (fun i j hi hj hsi hsj e => HGY.out.inj i j hi hj hsi hsj e) (by omega))
            have hmlt4 := hm4.lt
            clear hr4 hf4 hm4
            go_wp2_with (first
              | (go_at_call 164; (refine HFG.out.mono ?_); (rintro e w5 ⟨rfl, hm5, hg5⟩); (have HM5 := hid hm5); (have HG5 := hid hg5); (clear hm5 hg5))
              | fail)
            have HGA := hid ((HGB.out.2.trans HDG.out).trans ((Grown2.of_map (g := g) HG3.out).trans (HG4.out.trans (Grown2.of_map HG5.out))))
            have HRW5 := hid (HR4.out.of_block (HG5.out.block g HR4.out.lt (by simp; omega)))
            go_roundw
            case rel => exact ⟨x + 1, by go_num, hlt, by rw [HFS.out, HDD.out, fstS_none HFX.out, HDX.out], ⟨F4, HRW5.out, fun i hi => by rw [HF4.out i (by rw [HWL.out]; omega)]; exact HWG.out i hi⟩, by
              have h5 := HM5.out
              rw [HNN.out] at h5
              exact h5.congr (fun i hi => ⟨fun h => h.2, fun h => ⟨by show lsT PL i < _; rw [HWL.out]; omega, h⟩⟩) (fun i hi hs => (HTW.out i (by rw [HNN.out]; exact hi) hs.2).symm), HGA.out⟩
            case measure => simp [intOf]; omega
        · have HGN := hid hgd
          have HFX := hid (HFNX.out hgd)
          clear hgd
          go_wp2_with fail
          rw [← HW2.out]
          refine wp_region_held_drew (S := fun w' => w'.cell? ⟨w.heap.size, 0, none⟩ = some (.slice (some ⟨b, off, none⟩) N c) ∧ w'.cell? ⟨w.heap.size, 1, none⟩ = some (.func (.func 133) #[] #[.pointer (some pa)]) ∧ w'.cell? ⟨w.heap.size, 2, none⟩ = some (.map (some mb))) (by kernel_rfl) (HBX.out _ HDG.out) (fun hHeld => ?_)
          refine wpAnyH_take (i := 0) (v := .agg #[.slice (some ⟨b, off, none⟩) N c, .func (.func 133) #[] #[.pointer (some pa)], .map (some mb)]) rfl (by kernel_rfl) (by kernel_rfl) (by kernel_rfl) (fun _ _ _ h => h) (Or.inl ⟨by kernel_rfl, fun w hSw => by (try dsimp only at hSw); go_simp⟩) (by assumption) ?_
          refine wpAnyH_take (i := 1) (v := .slice (some ⟨g, 0, none⟩) N N) rfl (by kernel_rfl) (by kernel_rfl) (by kernel_rfl) (fun _ _ _ h => h) (Or.inl ⟨by kernel_rfl, fun w hSw => by (try dsimp only at hSw); go_simp⟩) (by assumption) ?_
          refine wpAnyH_take (i := 2) (v := .int .i64 (m : Int)) rfl (by kernel_rfl) (by kernel_rfl) (by kernel_rfl) (fun _ _ _ h => h) (Or.inl ⟨by kernel_rfl, fun w hSw => by (try dsimp only at hSw); go_simp⟩) (by assumption) ?_
          refine wpAnyH_take (i := 3) (v := .int .i64 ((m : Int) + 1)) rfl (by kernel_rfl) (by kernel_rfl) (by kernel_rfl) (fun _ _ _ h => h) (Or.inl ⟨by kernel_rfl, fun w hSw => by (try dsimp only at hSw); go_simp⟩) (by assumption) ?_
          refine wpAnyH_take (i := 4) (v := .slice (some ⟨g, 0, none⟩) (m + 1) N) rfl (by kernel_rfl) (by kernel_rfl) (by kernel_rfl) (fun _ _ _ h => h) (Or.inl ⟨by kernel_rfl, fun w hSw => by (try dsimp only at hSw); go_simp⟩) (by assumption) ?_
          refine wpAnyH_take (i := 5) (v := .int .i64 (m : Int)) rfl (by kernel_rfl) (by kernel_rfl) (by kernel_rfl) (fun _ _ _ h => h) (Or.inl ⟨by kernel_rfl, fun w hSw => by (try dsimp only at hSw); go_simp⟩) (by assumption) ?_
          refine wpAnyH_ready (rs := [6]) (by kernel_rfl) (by simp) (AllReadyH.cons rfl (fun K hK => ?_) AllReadyH.nil)
          go_simp
          refine HMK.out.mono ?_
          intro e w3 hme
          obtain ⟨rfl, hm3, hg3⟩ := meet_no_P hme HGN.out
          have HM3 := hid hm3
          have HG3 := hid hg3
          clear hme hm3 hg3
          refine hK.out _ _ (HBX.out _ (HDG.out.trans (Grown2.of_map HG3.out))) (fun hHeld => ?_)
          clear hK K
          refine wpAnyH_take (i := 7) (v := .bool false) rfl (by kernel_rfl) (by kernel_rfl) (by kernel_rfl) (fun _ _ _ h => h) (Or.inl ⟨by kernel_rfl, fun w hSw => by (try dsimp only at hSw); go_simp⟩) (by assumption) ?_
          refine wpAnyH_take (i := 8) (v := undef) rfl (by kernel_rfl) (by kernel_rfl) (by kernel_rfl) (fun _ _ _ h => h) (Or.inr ⟨by kernel_rfl, rfl⟩) (by assumption) ?_
          refine wpAnyH_take (i := 9) (v := undef) rfl (by kernel_rfl) (by kernel_rfl) (by kernel_rfl) (fun _ _ _ h => h) (Or.inr ⟨by kernel_rfl, rfl⟩) (by assumption) ?_
          refine wpAnyH_take (i := 10) (v := undef) rfl (by kernel_rfl) (by kernel_rfl) (by kernel_rfl) (fun _ _ _ h => h) (Or.inr ⟨by kernel_rfl, rfl⟩) (by assumption) ?_
          refine wpAnyH_take (i := 11) (v := undef) rfl (by kernel_rfl) (by kernel_rfl) (by kernel_rfl) (fun _ _ _ h => h) (Or.inr ⟨by kernel_rfl, rfl⟩) (by assumption) ?_
          refine wpAnyH_take (i := 12) (v := undef) rfl (by kernel_rfl) (by kernel_rfl) (by kernel_rfl) (fun _ _ _ h => h) (Or.inr ⟨by kernel_rfl, rfl⟩) (by assumption) ?_
          refine wpAnyH_take (i := 13) (v := undef) rfl (by kernel_rfl) (by kernel_rfl) (by kernel_rfl) (fun _ _ _ h => h) (Or.inr ⟨by kernel_rfl, rfl⟩) (by assumption) ?_
          refine wpAnyH_take (i := 14) (v := .bool false) rfl (by kernel_rfl) (by kernel_rfl) (by kernel_rfl) (fun _ _ _ h => h) (Or.inl ⟨by kernel_rfl, fun w hSw => by (try dsimp only at hSw); go_simp⟩) (by assumption) ?_
          refine wpAnyH_done (by kernel_rfl) ?_ _
          refine exit_ofX (b := { tmps := #[.agg #[.slice (some ⟨b, off, none⟩) N c, .func (.func 133) #[] #[.pointer (some pa)], .map (some mb)], .slice (some ⟨g, 0, none⟩) N N, .int .i64 (m : Int), .int .i64 (bb : Int), .pointer (some ⟨w.heap.size, 0, none⟩), undef, undef, undef, u8, .int .i64 (x : Int), .int .i64 (m : Int), .slice (some ⟨g, 0, none⟩) N N, .int .i64 (N : Int), .bool false, .int .i64 (bb : Int), .int .i64 (x : Int), .bool true, .int .i64 (x : Int), .slice (some ⟨g, 0, none⟩) N N, .int .i64 (m : Int), .int .i64 (x : Int), .pointer (some ⟨g, m, none⟩), .agg #[.slice (some ⟨b, off, none⟩) N c, .func (.func 133) #[] #[.pointer (some pa)], .map (some mb)], .slice (some ⟨g, 0, none⟩) N N, .int .i64 (m : Int), .int .i64 ((m : Int) + 1), .slice (some ⟨g, 0, none⟩) (m + 1) N, .int .i64 (m : Int), .bool false, .bool false, undef, undef, undef, undef, undef, undef, .bool false, u37, u38, u39, u40], defers := [] }) (by kernel_rfl) ?_
          obtain ⟨S, hS1, hS2, hS3⟩ := HM3.out
          have HSA := hid hS1
          have HSB := hid hS2
          obtain ⟨y0, y1, y2⟩ := HBX.out w3 (HDG.out.trans (Grown2.of_map HG3.out))
          have HB3 := hid ((Grown2.of_map HG3.out).below HBD.out hg hmb)
          have HFG := hid (forget_P (.slice (some ⟨b, off, none⟩) N c) PL m mb pa S (rkT rk PL ws) w3 (HPL.out.below HB3.out) (by rw [HNN.out]; exact hn) (by rw [HNN.out]; exact HROW.out) hS3 (fun i j hi hj hsi hsj e => HSB.out.inj i j hi hj hsi hsj e) (by omega))
          have hmlt3 := hS3.lt
          clear hS1 hS2 hS3
          go_wp2_with (first
            | (go_at_call 164; (refine HFG.out.mono ?_); (rintro e w5 ⟨rfl, hm5, hg5⟩); (have HM5 := hid hm5); (have HG5 := hid hg5); (clear hm5 hg5))
            | fail)
          have HGA := hid ((HGB.out.2.trans HDG.out).trans ((Grown2.of_map (g := g) HG3.out).trans (Grown2.of_map HG5.out)))
          have HRW5 := hid (HR3.out.of_block ((HG5.out.block g (Nat.lt_of_lt_of_le HR3.out.lt (Nat.le_trans (HDG.out.size) HG3.out.size)) (by simp; omega)).trans (HG3.out.block g (Nat.lt_of_lt_of_le HR3.out.lt HDG.out.size) (by simp; omega))))
          go_roundw
          case rel => exact ⟨x + 1, by go_num, hlt, by rw [HFS.out, HDD.out, fstS_none HFX.out, HDX.out], ⟨F3, HRW5.out, fun i hi => by rw [HF3.out i (by omega)]; exact HWG.out i hi⟩, by
            have h5 := HM5.out
            rw [HNN.out] at h5
            exact h5.congr (fun i hi => ⟨fun h => h.2, fun h => ⟨HSA.out i (by rw [HNN.out]; exact hi) h, h⟩⟩) (fun i hi hs => (HTW.out i (by rw [HNN.out]; exact hi) hs.2).symm), HGA.out⟩
          case measure => simp [intOf]; omega
      · obtain rfl : x = bb := by omega
        have HN2 := hid (show R = none by rw [HFS.out, Nat.sub_self]; rfl)
        clear hrow2
        go_wp2_with fail
        go_ret
        exact ⟨by rw [HN2.out]; rfl, (fun L e => (by rw [HN2.out] at e; cases e)), fun _ => ⟨⟨F2, HR2.out, by rw [← HMM.out]; exact HF2.out⟩, by rw [← HMM.out]; exact HMP.out⟩, (Grown2.of_below HB1.out).trans HGR.out⟩
theorem new2_X (w : World) (a b : Value) (T : TypeId) (q : Nat) (hq : q = w.heap.size) : (w.alloc (.cells #[a, b] T)).cell? ⟨q, 0, none⟩ = some a ∧ (w.alloc (.cells #[a, b] T)).cell? ⟨q, 1, none⟩ = some b := by
  subst hq; simp
theorem new3_X (w : World) (a b c : Value) (T : TypeId) (q : Nat) (hq : q = w.heap.size) : (w.alloc (.cells #[a, b, c] T)).cell? ⟨q, 0, none⟩ = some a ∧ (w.alloc (.cells #[a, b, c] T)).cell? ⟨q, 1, none⟩ = some b ∧ (w.alloc (.cells #[a, b, c] T)).cell? ⟨q, 2, none⟩ = some c := by
  subst hq; simp
theorem srcF_len {chk : List Int → Bool} {b : Nat} : ∀ (rem : Nat) (pre L : List Int), srcF chk b rem pre = some L → L.length = rem + pre.length
  | 0, pre, L, h => by
    rw [srcF] at h
    injection h with h
    subst h; omega
  | rem + 1, pre, L, h => by
    rw [srcF] at h
    have key : ∀ (d x : Nat), fstS (fun x => if chk (pre ++ [(x : Int)]) = true then srcF chk b rem (pre ++ [(x : Int)]) else none) x d = some L → L.length = rem + 1 + pre.length := by
      intro d
      induction d with
      | zero => intro x h; cases h
      | succ d ih =>
        intro x h
        rw [fstS] at h
        split at h
        · rename_i a ha
          injection h with h
          subst h
          split at ha
          · have := srcF_len rem _ _ ha
            rw [List.length_append] at this
            simp at this
            omega
          · cases ha
        · exact ih _ h
    exact key _ _ h
theorem lsT_ge {PL : List (List Int)} {N i : Nat} (h : ∀ l ∈ PL, Placed N l) (hi : i < PL.length) : 0 ≤ lsT PL i := by
  have hm : PL.getD i [] ∈ PL := by rw [List.getD_eq_getElem?_getD, List.getElem?_eq_getElem hi]; exact List.getElem_mem hi
  obtain ⟨q, h1, h2⟩ := (h _ hm).last
  unfold lsT
  omega
theorem GdT_nil {rk : List Int → Int} {ok : List Int → Bool} {PL : List (List Int)} {N : Nat} (h : ∀ l ∈ PL, Placed N l) : GdT rk ok PL [] :=
  ⟨fun i hi hs => by have := lsT_ge h hi; simp at hs; omega, fun i j hi hj hsi hsj e => by have := lsT_ge h hi; simp at hsi; omega⟩
set_option maxHeartbeats 2000000 in
theorem least_P (rk : List Int → Int) (ok : List Int → Bool) (g N bb : Nat) (PL : List (List Int)) (pa : Addr) (w : World) (hN : PL.length = N) (hpl : SitsL w (.slice (some ⟨g, 0, none⟩) N N) PL) (hn : N ≤ 200) (hbb : bb ≤ 200) (hrow : ∀ l ∈ PL, Placed N l) (hwf : ∀ l, (Lit.int .i64 (rk l)).wf = true)
    (hclo : ∀ (W : World) (x : Value) (B : Nat) (ys : List Int), (∃ l ∈ PL, ∃ ws, (∀ z ∈ ws, 0 ≤ z ∧ z < (bb : Int)) ∧ ys = pkL ws l) → Own W B x ys → Below w.heap.size w W → Calls Try.prog 133 #[x, .pointer (some pa)] W fun e w' => e = .returned (.tuple #[.int .i64 (rk ys), .bool (ok ys)]) ∧ Below W.heap.size W w') :
    Calls Try.prog 93 #[.agg #[.slice (some ⟨g, 0, none⟩) N N, .func (.func 133) #[] #[.pointer (some pa)]], .int .i64 (bb : Int)] w fun e w' => ∃ u, e = .returned (.tuple #[u, .bool (srcF (chkC rk ok PL) bb N []).isSome]) ∧ Own w' w.heap.size u ((srcF (chkC rk ok PL) bb N []).getD []) ∧ Below w.heap.size w w' := by
  have HPL := hid hpl
  have HROW := hid hrow
  obtain ⟨w1, hw1⟩ : ∃ w1, w1 = w.alloc (.cells #[.slice (some ⟨g, 0, none⟩) N N, .func (.func 133) #[] #[.pointer (some pa)]] 82) := ⟨_, rfl⟩
  have hB1 : Below w.heap.size w w1 := by rw [hw1]; exact (Below.refl _ _).alloc (Nat.le_refl _) _
  have hs1 : w1.heap.size = w.heap.size + 1 := by rw [hw1]; simp
  have HX0 := hid (show w1.cell? ⟨w.heap.size, 0, none⟩ = some (.slice (some ⟨g, 0, none⟩) N N) by rw [hw1]; exact (new2_X _ _ _ _ _ rfl).1)
  have HX1 := hid (show w1.cell? ⟨w.heap.size, 1, none⟩ = some (.func (.func 133) #[] #[.pointer (some pa)]) by rw [hw1]; exact (new2_X _ _ _ _ _ rfl).2)
  have HW1 := hid hw1
  have HB1 := hid hB1
  have HS1 := hid hs1
  have hmk := run_make_ints N (by omega) w1
  have hmm := @run_makeMap Try.prog
  rw [HW1.out] at hmk
  have hx0 := HX0.out
  have hx1 := HX1.out
  rw [HW1.out] at hx0 hx1
  obtain ⟨w2, hw2⟩ : ∃ w2, w2 = w1.alloc (.cells (madeCells #[.int .i64 0] N) 3) := ⟨_, rfl⟩
  have hB2 : Below w.heap.size w w2 := by rw [hw2]; exact hB1.alloc hB1.size _
  have hs2 : w2.heap.size = w.heap.size + 1 + 1 := by rw [hw2]; simp; omega
  have hr2 : w2.rowIs (w.heap.size + 1) 3 N (fun i => .int .i64 ((fun _ : Nat => (0 : Int)) i)) := by rw [hw2, ← hs1]; exact World.rowIs_made w1 (.int .i64 0) N 3
  obtain ⟨w4, hw4⟩ : ∃ w4, w4 = (w2.alloc (.map #[] 0)).alloc (.cells #[.slice (some ⟨g, 0, none⟩) N N, .func (.func 133) #[] #[.pointer (some pa)], .map (some (w.heap.size + 1 + 1))] 102) := ⟨_, rfl⟩
  have hB24 : Below w2.heap.size w2 w4 := by rw [hw4]; exact ((Below.refl _ _).alloc (Nat.le_refl _) _).alloc (by simp) _
  have HW4 := hid (show w4 = (((w.alloc (.cells #[.slice (some ⟨g, 0, none⟩) N N, .func (.func 133) #[] #[.pointer (some pa)]] 82)).alloc (.cells (madeCells #[.int .i64 0] N) 3)).alloc (.map #[] 0)).alloc (.cells #[.slice (some ⟨g, 0, none⟩) N N, .func (.func 133) #[] #[.pointer (some pa)], .map (some (w.heap.size + 1 + 1))] 102) by rw [hw4, hw2, hw1])
  have hBW4 : Below w.heap.size w w4 := Below_chain hB2 hB24
  have HB4 := hid hBW4
  have hm4 : MapI w4 (w.heap.size + 1 + 1) PL.length (fun i => lsT PL i < (0 : Int)) (rkT rk PL []) := by
    rw [hw4, ← hs2]
    exact (MapI.made (fun i hi hs => by have := lsT_ge hrow hi; omega)).below ((Below.refl _ _).alloc (Nat.le_refl _) _)
  have hr4 := hr2.of_block (hB24.block _ (by omega))
  obtain ⟨z0, z1, z2⟩ := new3_X (w2.alloc (.map #[] 0)) (.slice (some ⟨g, 0, none⟩) N N) (.func (.func 133) #[] #[.pointer (some pa)]) (.map (some (w.heap.size + 1 + 1))) 102 (w.heap.size + 1 + 1 + 1) (by simp; omega)
  rw [← hw4] at z0 z1 z2
  have HCM := hid (complete_P rk ok (.slice (some ⟨g, 0, none⟩) N N) PL N bb (w.heap.size + 1) (w.heap.size + 1 + 1) pa w hN HPL.out hn hbb HROW.out hwf (by omega) (by omega) (by omega) hclo N [] (fun _ => 0) w4 rfl (fun z hz => by cases hz) hBW4 hr4 (fun i hi => by simp at hi) (by rw [← hN]; exact hm4) (GdT_nil HROW.out))
  have HLEN := hid (fun L (h : srcF (chkC rk ok PL) bb N [] = some L) => srcF_len N [] L h)
  obtain ⟨R, hR⟩ : ∃ R, R = srcF (chkC rk ok PL) bb N [] := ⟨_, rfl⟩
  rw [← hR] at HCM HLEN ⊢
  rw [show ((([] : List Int).length : Nat) : Int) = 0 from rfl] at HCM
  clear hw1 hpl hrow hB1 hs1 hw2 hB2 hs2 hr2 hw4 hB24 hBW4 hm4 hr4 hR hwf hclo
  cases R with
  | none =>
    go_enter Try.func93, Try.ntmps93
    go_wp2_with (first
      | (go_at_call 140; (rw [← HW4.out]); (refine HCM.out.mono ?_); (intro e w5 hcr); (have he : e = Ending.returned (Value.bool false) := hcr.end'); (have HCR := hid hcr); (clear hcr); (subst he))
      | fail)
    go_ret2
    exact ⟨_, rfl, Own.nil _ _, HCR.out.grown.below HB4.out (by omega) (by omega)⟩
  | some L =>
    go_enter Try.func93, Try.ntmps93
    go_wp2_with (first
      | (go_at_call 140; (rw [← HW4.out]); (refine HCM.out.mono ?_); (intro e w5 hcr); (have he : e = Ending.returned (Value.bool true) := hcr.end'); (have HCR := hid hcr); (clear hcr); (subst he))
      | fail)
    go_ret2
    have hl := HLEN.out L rfl
    exact ⟨_, rfl, (Own.of_rowIs (xs := L) (HCR.out.yes L rfl) (by simpa using hl) (by unfold maxLen; omega)).mono (by omega), HCR.out.grown.below HB4.out (by omega) (by omega)⟩
end Go.Proofs.Yteimfdpkodcfbaa
