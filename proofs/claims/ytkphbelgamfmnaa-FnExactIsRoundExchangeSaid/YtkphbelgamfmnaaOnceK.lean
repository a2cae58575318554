/- Contract: areAllOnce. Conditions: k <= n <= 12; the slice is not nil, nor are its rows, and it reads as a list of at most 1100 combinations of n. -/
import Derived.Test.YtkphbelgamfmnaaOnceC
import Derived.Test.YtkphbelgamfmnaaCol2
import Derived.Test.YtkphbelgamfmnaaSSL
namespace Go.Proofs.Ytkphbelgamfmnaa
open Go.RowKit
set_option linter.unusedVariables false

theorem Try.infoB7 : (Try.prog.info? 4).map (fun i => (i.zero, i.size, i.bytes)) = some (some (.bool false), 1, 1) := by kernel_rfl
theorem run_make_bools7 (n : Nat) (hn : n ≤ 1048576) (w : World) : Sem.run Try.prog (Instr.makeSlice 39 (.int .i64 n) (.int .i64 n)) w = .ok (.slice (some ⟨w.heap.size, 0, none⟩) n n) (w.alloc (.cells (madeCells #[.bool false] n) 4)) :=
  run_make_row' 39 4 (.bool false) 1 Try.underlying39 Try.infoB7 rfl .i64 .i64 n (by omega) (by omega) w
theorem comb12 {n : Nat} {xs : List Int} (hn : n ≤ 12) (h : combB n xs = true) : combB 12 xs = true := by
  simp only [combB, Bool.and_eq_true, decide_eq_true_eq] at h ⊢
  obtain ⟨⟨h1, h2⟩, h3⟩ := h
  refine ⟨⟨rfl, by omega⟩, ?_⟩
  unfold risingB at h3 ⊢
  rw [allTo_iff] at h3 ⊢
  intro i hi
  have := h3 i hi
  unfold riseAt at this ⊢
  rw [Bool.and_eq_true] at this ⊢
  refine ⟨?_, this.2⟩
  have := inB_iff.1 this.1
  exact inB_iff.2 ⟨this.1, by omega⟩
theorem comb_wf {n : Int} {xs : List Int} (h : combB n xs = true) : ∀ x ∈ xs, (Lit.int .i64 x).wf = true := by
  intro x hx
  obtain ⟨i, hi, rfl⟩ := List.mem_iff_getElem.1 hx
  have h1 := (Rises_comb h).1.1 i hi
  have h2 := (Rises_comb h).2.2
  rw [getD_at hi] at h1
  have e1 : IntKind.i64.min = -9223372036854775808 := rfl
  have e2 : IntKind.i64.max = 9223372036854775807 := rfl
  simp only [Lit.wf, Bool.and_eq_true, decide_eq_true_eq, e1, e2]
  omega
theorem colRes_crk {n k : Nat} {L : List (List Int)} {i : Nat} {l : List Int} (hn : n ≤ 12) (hl : L.getD i [] = l) (hc : combB n l = true) (hk : l.length = k) : colRes l = crk k L i := by
  rw [colRes_yes (comb12 hn hc), crk, hl, hk]
end Go.Proofs.Ytkphbelgamfmnaa
