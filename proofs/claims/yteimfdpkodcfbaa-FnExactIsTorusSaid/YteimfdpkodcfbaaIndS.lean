/- Contract: indicesIn with the closure squaresOf$1. Conditions: the places lie within the word's length; the closure's contract is handed over. -/
import Derived.Test.YteimfdpkodcfbaaMeetS
import Derived.Laws.EntriesVeiled
import Derived.BigQuiet
namespace Go.Proofs.Yteimfdpkodcfbaa
open Go.RowKit Go.Maps
set_option linter.unusedVariables false
set_option maxRecDepth 4000

theorem new2_9 (w : World) (a b : Value) (T : TypeId) (q : Nat) (hq : q = w.heap.size) : (w.alloc (.cells #[a, b] T)).cell? ⟨q, 0, none⟩ = some a ∧ (w.alloc (.cells #[a, b] T)).cell? ⟨q, 1, none⟩ = some b := by
  subst hq; simp
theorem new3_9 (w : World) (a b c : Value) (T : TypeId) (q : Nat) (hq : q = w.heap.size) : (w.alloc (.cells #[a, b, c] T)).cell? ⟨q, 0, none⟩ = some a ∧ (w.alloc (.cells #[a, b, c] T)).cell? ⟨q, 1, none⟩ = some b ∧ (w.alloc (.cells #[a, b, c] T)).cell? ⟨q, 2, none⟩ = some c := by
  subst hq; simp
set_option maxHeartbeats 2000000 in
theorem ind_S (rk : List Int → Int) (ok : List Int → Bool) (g N : Nat) (u : Value) (PL : List (List Int)) (ws : List Int) (pa : Addr) (w : World) (hN : PL.length = N) (hpl : SitsL w (.slice (some ⟨g, 0, none⟩) N N) PL) (hu : Sits w u ws) (hn : N ≤ 200) (h1 : 1 ≤ N)
    (hrow : ∀ l ∈ PL, Placed N l) (hwf : ∀ l ∈ PL, (Lit.int .i64 (rk (pkL ws l))).wf = true) (hws : ws.length ≤ 200)
    (hclo : ∀ (W : World) (x : Value) (B : Nat) (ys : List Int), (∃ l ∈ PL, ys = pkL ws l) → Own W B x ys → Below w.heap.size w W → Calls Try.prog 148 #[x, .pointer (some pa)] W fun e w' => e = .returned (.tuple #[.int .i64 (rk ys), .bool (ok ys)]) ∧ Below W.heap.size W w') :
    Calls Try.prog 91 #[.agg #[.slice (some ⟨g, 0, none⟩) N N, .func (.func 148) #[] #[.pointer (some pa)]], u] w fun e w' => e = .returned (.tuple #[.map (some (w.heap.size + 1)), .bool (decide (ws.length = N) && lyB rk ok PL ws)]) ∧ ((decide (ws.length = N) && lyB rk ok PL ws) = true → w'.ownsMap Try.prog 3 (plainElem (H := Unit) Try.prog 3) (w.heap.size + 1) N (metJ (rkT rk PL ws) N)) ∧ Below w.heap.size w w' := by
  have HU := hid hu
  have HPL := hid hpl
  have HROW := hid hrow
  have HWF := hid hwf
  have HCLO := hid hclo
  have HN := hid hN
  obtain ⟨b2, off2, c2, rfl, hd1, hdm, hb2, hd⟩ := hu
  clear hd hrow hwf hclo hpl
  obtain ⟨w3, hw3⟩ : ∃ w3, w3 = ((w.alloc (.cells #[.slice (some ⟨g, 0, none⟩) N N, .func (.func 148) #[] #[.pointer (some pa)]] 82)).alloc (.map #[] 0)).alloc (.cells #[.slice (some ⟨g, 0, none⟩) N N, .func (.func 148) #[] #[.pointer (some pa)], .map (some (w.heap.size + 1))] 102) := ⟨_, rfl⟩
  have HW3 := hid hw3
  have HB3 := hid (show Below w.heap.size w w3 by rw [hw3]; exact (((Below.refl _ _).alloc (Nat.le_refl _) _).alloc (by simp) _).alloc (by simp; omega) _)
  have HS3 := hid (show w3.heap.size = w.heap.size + 3 by rw [hw3]; simp)
  have x0 : w3.cell? ⟨w.heap.size + 1 + 1, 0, none⟩ = some (.slice (some ⟨g, 0, none⟩) N N) := by rw [hw3]; exact (new3_9 _ _ _ _ _ _ (by simp)).1
  have x1 : w3.cell? ⟨w.heap.size + 1 + 1, 1, none⟩ = some (.func (.func 148) #[] #[.pointer (some pa)]) := by rw [hw3]; exact (new3_9 _ _ _ _ _ _ (by simp)).2.1
  have x2 : w3.cell? ⟨w.heap.size + 1 + 1, 2, none⟩ = some (.map (some (w.heap.size + 1))) := by rw [hw3]; exact (new3_9 _ _ _ _ _ _ (by simp)).2.2
  have x3 : w3.cell? ⟨w.heap.size, 0, none⟩ = some (.slice (some ⟨g, 0, none⟩) N N) := by rw [hw3]; exact ((((Below.refl _ _).alloc (Nat.le_refl _) (.map #[] 0)).alloc (by simp) _).cell (by simp)).trans (new2_9 _ _ _ _ _ rfl).1
  have HX0 := hid x0
  have HX1 := hid x1
  have HX2 := hid x2
  have HX3 := hid x3
  have HM3 := hid (show w3.ownsMap Try.prog 3 (plainElem (H := Unit) Try.prog 3) (w.heap.size + 1) 0 (metJ (rkT rk PL ws) 0) by
    rw [hw3]
    have := World.ownsMap_made (w.alloc (.cells #[.slice (some ⟨g, 0, none⟩) N N, .func (.func 148) #[] #[.pointer (some pa)]] 82)) Try.prog 3 (plainElem (H := Unit) Try.prog 3)
    rw [show (w.alloc (.cells #[.slice (some ⟨g, 0, none⟩) N N, .func (.func 148) #[] #[.pointer (some pa)]] 82)).heap.size = w.heap.size + 1 by simp] at this
    exact this.alloc _)
  have hmm := @run_makeMap Try.prog
  clear hw3
  by_cases hlen : ws.length = N
  · have hdl : ((ws.length : Int) == (N : Int)) = true := by simp; omega
    have HD := hid (show decide (ws.length = N) = true from decide_eq_true hlen)
    have HDR := hid ((Below.refl w3.heap.size w3).drew)
    have HBD := hid (Below_chain HB3.out HDR.out)
    have HPL3 := hid (HPL.out.below HBD.out)
    have HU3 := hid (HU.out.below HBD.out)
    have hmeet := meet0_S rk ok (.slice (some ⟨g, 0, none⟩) N N) (.slice (some ⟨b2, off2, none⟩) ws.length c2) PL ws (w.heap.size + 1) pa w3.drew HPL3.out HU3.out (by omega) (by rw [hlen]; exact HROW.out) (by omega) HWF.out (ownsMap_below9 HM3.out HDR.out) (fun W x B ys hl hB ho hg => HCLO.out W x B ys hl ho (HBD.out.grown hg HBD.out.size (fun k hk => by injection hk with hk; omega)))
    have HME := hid hmeet
    have hgo : ∀ W, w3.drew.grownBy W (some (w.heap.size + 1)) → W.cell? ⟨w.heap.size + 1 + 1, 0, none⟩ = some (.slice (some ⟨g, 0, none⟩) N N) ∧ W.cell? ⟨w.heap.size + 1 + 1, 1, none⟩ = some (.func (.func 148) #[] #[.pointer (some pa)]) ∧ W.cell? ⟨w.heap.size + 1 + 1, 2, none⟩ = some (.map (some (w.heap.size + 1))) ∧ W.cell? ⟨w.heap.size, 0, none⟩ = some (.slice (some ⟨g, 0, none⟩) N N) := fun W hg =>
      ⟨hg.cell (by simpa using HX0.out) (by simp), hg.cell (by simpa using HX1.out) (by simp), hg.cell (by simpa using HX2.out) (by simp), hg.cell (by simpa using HX3.out) (by simp)⟩
    have HGO := hid hgo
    clear hlen hmeet hgo
    go_enter Try.func91, Try.ntmps91
    go_wp2_with fail
    rw [← HW3.out]
    clear hmm
    go_region_held3 (fun w' => w'.cell? ⟨w.heap.size + 1 + 1, 0, none⟩ = some (.slice (some ⟨g, 0, none⟩) N N) ∧ w'.cell? ⟨w.heap.size + 1 + 1, 1, none⟩ = some (.func (.func 148) #[] #[.pointer (some pa)]) ∧ w'.cell? ⟨w.heap.size + 1 + 1, 2, none⟩ = some (.map (some (w.heap.size + 1))) ∧ w'.cell? ⟨w.heap.size, 0, none⟩ = some (.slice (some ⟨g, 0, none⟩) N N))
      (first | exact ⟨HX0.out, HX1.out, HX2.out, HX3.out⟩ | exact HGO.out _ HG4.out | go_keep | fail)
      (first
        | (go_at_call 138; (refine HME.out.mono ?_); (rintro e w4 ⟨rfl, hm4, hg4⟩); (have HM4 := hid hm4); (have HG4 := hid hg4); (clear hm4 hg4))
        | fail)
    go_wp2_with fail
    go_ret2
    refine ⟨ret_sb (by rw [HD.out, Bool.true_and]), fun h => ?_, ?_⟩
    · rw [HD.out, Bool.true_and] at h
      have := HM4.out h
      rw [← HN.out]
      exact this
    · exact HBD.out.grown HG4.out HBD.out.size (fun k hk => by injection hk with hk; omega)
  · have hdl : ((ws.length : Int) == (N : Int)) = false := by simp; omega
    have HD := hid (show decide (ws.length = N) = false from decide_eq_false hlen)
    clear hlen
    go_enter Try.func91, Try.ntmps91
    go_wp2_with fail
    rw [← HW3.out]
    clear hmm
    go_quiet (fail)
    go_wp2_with fail
    go_ret2
    exact ⟨ret_sb (by rw [HD.out, Bool.false_and]), (fun h => by rw [HD.out, Bool.false_and] at h; cases h), Below_chain HB3.out (below_drewN (Below.refl _ _) _)⟩
end Go.Proofs.Yteimfdpkodcfbaa
