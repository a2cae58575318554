/- Contract: slices.Reverse at a slice of slices of ints. Conditions: the slice is the call's own row of at most 2^20 elements. -/
import Derived.Test.YtijjdidljoicfaaLists
import Derived.Deep.RegionLaw
namespace Go.Proofs.Ytijjdidljoicfaa
open Go.RowKit
set_option linter.unusedVariables false

/-- where the element at j comes from, when i have been swapped -/
def rvIx (n i j : Nat) : Nat := if j < i ∨ n - 1 - j < i then n - 1 - j else j
theorem ownsRow_drew {w : World} {base : Nat} {e : TypeId} {size : Nat} {v : Value} {n : Nat} {xs : List Value} (h : w.ownsRow base e size v n xs) : w.drew.ownsRow base e size v n xs := h
set_option maxHeartbeats 2000000 in
theorem Reverse_rows (g n cap base : Nat) (vs : List Value) (w : World) (h : w.ownsRow base 22 1 (.slice (some ⟨g, 0, none⟩) n cap) n vs) (hn : n ≤ 1048576) (hsl : ∀ j, j < n → ∃ ao k c, vs.getD j undef = .slice ao k c) :
    Calls Try.prog 101 #[.slice (some ⟨g, 0, none⟩) n cap] w fun e w' => e = .returned (.tuple #[]) ∧ w'.ownsRow base 22 1 (.slice (some ⟨g, 0, none⟩) n cap) n vs.reverse ∧ w.grownBy w' (some g) := by
  have hvl : vs.length = n := by have := h.1; omega
  have H := hid h
  have HSL := hid hsl
  have hww : IntKind.i64.wrap ((n : Int) - 1) = (n : Int) - 1 := IntWalk.i64_in _ (by omega)
  clear h hsl
  go_enter Try.func101, Try.ntmps101
  go_wp2_with fail
  go_loopw [2, 3] (fun iv jv wr => ∃ (i : Nat) (zs : List Value), iv = .int .i64 (i : Int) ∧ jv = .int .i64 ((n : Int) - 1 - i) ∧ (i ≤ n) ∧ (2 * i ≤ n + 1) ∧ wr.ownsRow base 22 1 (.slice (some ⟨g, 0, none⟩) n cap) n zs ∧ zs.length = n ∧ (∀ j, j < n → zs.getD j undef = vs.getD (rvIx n i j) undef) ∧ w.grownBy wr (some g)) (fun iv _ _ => n - (intOf iv).toNat)
  case atStart => exact ⟨0, vs, rfl, by simp, Nat.zero_le _, by omega, H.out, hvl, fun j hj => by rw [rvIx, if_neg (by omega)], World.grownBy.refl _ _⟩
  case round =>
    obtain ⟨i, zs, rfl, rfl, hi, hi2, hrow, hzl, hz, hgr⟩ := hrel
    have HROW := hid hrow
    have HZ := hid hz
    have HGR := hid hgr
    clear hz hgr
    by_cases hlt : 2 * i + 1 < n
    · obtain ⟨j, hj⟩ : ∃ j : Nat, (n : Int) - 1 - i = (j : Int) := ⟨n - 1 - i, by omega⟩
      have hjn : j + i + 1 = n := by omega
      have hij : i < j := by omega
      have HJ := hid (show (n : Int) - 1 - ((i + 1 : Nat) : Int) = (j : Int) - 1 by omega)
      have hi0 : i < zs.length := by omega
      have hj0 : j < zs.length := by omega
      have hci := World.ownsRow.cellAt hrow i (by omega)
      have hcj := World.ownsRow.cellAt hrow j (by omega)
      rw [List.getElem?_eq_getElem hi0] at hci
      rw [List.getElem?_eq_getElem hj0] at hcj
      have hfi := World.ownsRow.frozenAt hrow i
      have hfj := World.ownsRow.frozenAt hrow j
      obtain ⟨x, hx⟩ : ∃ x, x = zs[i] := ⟨_, rfl⟩
      obtain ⟨y, hy⟩ : ∃ y, y = zs[j] := ⟨_, rfl⟩
      rw [← hx] at hci
      rw [← hy] at hcj
      obtain ⟨h1, h2⟩ := World.ownsRow.stored (ownsRow_drew hrow) i y
      obtain ⟨h3, h4⟩ := World.ownsRow.stored h1 j x
      have H3 := hid h3
      have H4 := hid (grownBy_trans (HGR.out) (grownBy_trans (grownBy_trans (show wr.grownBy wr.drew (some g) from ⟨rfl, rfl, rfl, Nat.le_refl _, fun _ _ _ => rfl⟩) h2) h4))
      have HN := hid (show ∀ q, q < n → ((zs.set i y).set j x).getD q undef = vs.getD (rvIx n (i + 1) q) undef from fun q hq => by
        have hzi := HZ.out i (by omega)
        have hzj := HZ.out j (by omega)
        have hzq := HZ.out q hq
        rw [List.getD_eq_getElem?_getD, List.getElem?_eq_getElem hi0] at hzi
        rw [List.getD_eq_getElem?_getD, List.getElem?_eq_getElem hj0] at hzj
        simp only [Option.getD_some] at hzi hzj
        rw [rvIx, if_neg (by omega)] at hzi hzj
        by_cases e1 : q = j
        · subst e1
          rw [List.getD_eq_getElem?_getD, List.getElem?_set_self (by simpa using hj0), Option.getD_some, hx, hzi, rvIx, if_pos (by omega), show n - 1 - q = i by omega]
        · by_cases e2 : q = i
          · subst e2
            rw [List.getD_eq_getElem?_getD, List.getElem?_set_ne (by omega), List.getElem?_set_self hi0, Option.getD_some, hy, hzj, rvIx, if_pos (by omega), show n - 1 - q = j by omega]
          · rw [List.getD_eq_getElem?_getD, List.getElem?_set_ne (by omega), List.getElem?_set_ne (by omega), ← List.getD_eq_getElem?_getD, hzq, rvIx, rvIx]
            by_cases e3 : q < i ∨ n - 1 - q < i
            · rw [if_pos e3, if_pos (by omega)]
            · rw [if_neg e3, if_neg (by omega)])
      have q1 : (0 : Int) ≤ (i : Int) := by omega
      have q2 : (i : Int) < (n : Int) := by omega
      have q3 : (j : Int) < (n : Int) := by omega
      have q4 : (0 : Int) ≤ (j : Int) := by omega
      have q5 : (i : Int) < (j : Int) := by omega
      have hne : ¬ i = j := by omega
      have a1 : (⟨g, i, none⟩ : Addr) ≠ ⟨g, j, none⟩ := by simp
      have a2 : (⟨g, j, none⟩ : Addr) ≠ ⟨g, i, none⟩ := by simp
      obtain ⟨xa, xk, xc, hxs⟩ : ∃ ao k c, x = .slice ao k c := by
        have h5 := HZ.out i (by omega)
        rw [List.getD_eq_getElem?_getD, List.getElem?_eq_getElem hi0, Option.getD_some, ← hx] at h5
        rw [h5]
        exact HSL.out _ (by rw [rvIx]; split <;> omega)
      obtain ⟨ya, yk, yc, hys⟩ : ∃ ao k c, y = .slice ao k c := by
        have h5 := HZ.out j (by omega)
        rw [List.getD_eq_getElem?_getD, List.getElem?_eq_getElem hj0, Option.getD_some, ← hy] at h5
        rw [h5]
        exact HSL.out _ (by rw [rvIx]; split <;> omega)
      rw [hj]
      clear hj hrow h1 h2 h3 h4 hx hy
      subst hxs hys
      go_wp2_with fail
      go_region_law (fail)
      all_goals
        go_wp2_with fail
        go_roundw
        case rel => exact ⟨i + 1, _, by go_num, by rw [HJ.out], by omega, by omega, H3.out, by simp [hzl], HN.out, H4.out⟩
        case measure => simp [intOf] <;> omega
    · have hnl : ¬ (i : Int) < (n : Int) - 1 - i := by omega
      have HO := hid (show wr.ownsRow base 22 1 (.slice (some ⟨g, 0, none⟩) n cap) n vs.reverse by
        have e : zs = vs.reverse := by
          apply List.ext_getElem
          · simp; omega
          · intro q h5 h6
            have h7 := HZ.out q (by omega)
            rw [List.getD_eq_getElem?_getD, List.getElem?_eq_getElem h5, Option.getD_some] at h7
            rw [h7, List.getElem_reverse]
            have e2 : rvIx n i q = vs.length - 1 - q := by
              rw [rvIx]; split <;> omega
            rw [e2, List.getD_eq_getElem?_getD, List.getElem?_eq_getElem (by omega), Option.getD_some]
        rw [← e]; exact HROW.out)
      clear hrow
      go_wp2_with fail
      go_end0
      exact ⟨rfl, HO.out, HGR.out⟩
end Go.Proofs.Ytijjdidljoicfaa
