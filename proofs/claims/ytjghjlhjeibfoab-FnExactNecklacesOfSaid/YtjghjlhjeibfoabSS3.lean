/- Contract: eqIntSS of two lists that are the same. Conditions: the slices read as lists of lists. -/
import Derived.Test.YtjghjlhjeibfoabSS
import Derived.Deep.RegionHeld3
namespace Go.Proofs.Ytjghjlhjeibfoab
open Go.RowKit
set_option linter.unusedVariables false

theorem eqIntSS_any (v u : Value) (L : List (List Int)) (B1 B2 : Nat) (w : World) (h : Lists w B1 v L) (h' : Lists w B2 u L) :
    Calls Try.prog 22 #[v, u] w fun e w' => e = .returned (.bool true) ∧ Below w.heap.size w w' := by
  rcases h.form with ⟨rfl, rfl⟩ | ⟨g, cap, rfl, _, hg, hc1, hm, hc⟩
  · rcases h'.form with ⟨rfl, _⟩ | ⟨g', cap', rfl, _, hg', hc1', hm', hc'⟩
    all_goals
      go_enter Try.func22, Try.ntmps22
      go_wp2_with fail
      refine wp_loop_rounds 1 ?_
      rw [rounds_succ]
      go_wp2
      go_ret
      exact ⟨rfl, Below.refl _ _⟩
  · rcases h'.form with ⟨rfl, rfl⟩ | ⟨g', cap', rfl, _, hg', hc1', hm', hc'⟩
    · go_enter Try.func22, Try.ntmps22
      go_wp2_with fail
      refine wp_loop_rounds 1 ?_
      rw [rounds_succ]
      go_wp2
      go_ret
      exact ⟨rfl, Below.refl _ _⟩
    · have HC := hid hc
      have HC' := hid hc'
      clear hc hc' h h'
      go_enter Try.func22, Try.ntmps22
      go_wp2_with fail
      go_loopw [5] (fun i wr => ∃ t : Nat, t ≤ L.length ∧ i = .int .i64 t ∧ Below w.heap.size w wr) (fun i _ => L.length - (intOf i).toNat)
      case atStart => exact ⟨0, Nat.zero_le _, rfl, Below.refl _ _⟩
      case round =>
        obtain ⟨t, ht, rfl, hbel⟩ := hrel
        have HB := hid hbel
        by_cases hlt : t < L.length
        · obtain ⟨z, hz, hown⟩ := HC.out t hlt
          obtain ⟨z', hz', hown'⟩ := HC'.out t hlt
          have hcx : wr.cell? ⟨g, t, none⟩ = some z := (hbel.cell (by exact hg)).trans hz
          have hcx' : wr.cell? ⟨g', t, none⟩ = some z' := (hbel.cell (by exact hg')).trans hz'
          have HZ := hid (hown.reads.below hbel)
          have HZ' := hid (hown'.reads.below hbel)
          have HS := hid hbel.size
          have hgr : g < wr.heap.size := by have := hbel.size; omega
          have hgr' : g' < wr.heap.size := by have := hbel.size; omega
          obtain ⟨l, hl⟩ : ∃ l, l = L[t] := ⟨_, rfl⟩
          rw [← hl] at HZ HZ'
          have hd : decide (l = l) = true := by simp
          clear hz hz' hown hown' hbel hl
          go_wp2_with fail
          go_region_held3 (fun w' => w'.cell? ⟨g, t, none⟩ = some z ∧ w'.cell? ⟨g', t, none⟩ = some z')
            (first | exact ⟨hcx, hcx'⟩ | exact ⟨(HB1.out.cell (by exact hgr)).trans hcx, (HB1.out.cell (by exact hgr')).trans hcx'⟩ | go_keep | fail)
            (first
              | (go_at_call 15; refine (eqIntS_any _ _ l l _ ?_ ?_).mono ?_; (exact HZ.out.below (Below.refl _ _).drew); (exact HZ'.out.below (Below.refl _ _).drew); rintro e w1 ⟨rfl, hb1⟩; have HB1 := hid (Below_chain (Below.refl wr.heap.size wr).drew hb1); clear hb1; (try rw [hd]); (try simp only [decide_true]))
              | fail)
          all_goals
            go_wp2_with fail
            go_roundw
            case rel => exact ⟨t + 1, by omega, by go_num, Below_chain HB.out HB1.out⟩
            case measure => simp [intOf]; omega
        · obtain rfl : t = L.length := by omega
          go_wp2_with fail
          go_ret
          exact ⟨rfl, HB.out⟩
end Go.Proofs.Ytjghjlhjeibfoab
