/- Contracts: areDifferent, gcCode and both IsCode functions. Conditions: the slice reads as a list of at most 2^20 numbers; the table of math/bits holds what the program's text lays. -/
import Derived.Test.YtijjdidljoicfaaDoorChg
import Derived.Test.YtijjdidljoicfaaDoorPerm1
namespace Go.Proofs.YtijjdidljoicfaaDoor
open Go.RowKit
set_option linter.unusedVariables false

def diffB (xs : List Int) : Bool := allTo xs.length (freshAt xs)
theorem zero47 : Tryd.zeroCells47 = Array.replicate 1024 (Value.bool false) := by kernel_rfl
theorem met_row (w : World) : (w.alloc (.cells Tryd.zeroCells47 47)).rowIs w.heap.size 47 1024 (fun _ => .bool false) := by
  rw [zero47]
  have := World.rowIs_alloc w (Array.replicate 1024 (Value.bool false)) 47 (fun _ => .bool false) (fun i hi => by
    have h : i < 1024 := by simpa using hi
    simp [h])
  simpa using this
theorem areDifferent_any (v : Value) (xs : List Int) (w : World) (h : Sits w v xs) (hs : small xs) (hl : xs.length ≤ 1048576) :
    Calls Tryd.prog 20 #[v] w fun e w' => e = .returned (.bool (diffB xs)) ∧ Below w.heap.size w w' := by
  obtain ⟨b, off, c, rfl, hc1, hm, hb, hc⟩ := h
  have HS := hid hs
  have HC := hid hc
  have HR0 := hid (met_row w)
  have HB0 := hid ((Below.refl w.heap.size w).alloc (Nat.le_refl _) (.cells Tryd.zeroCells47 47))
  clear hs hc
  go_enter Tryd.func20, Tryd.ntmps20
  go_wp2
  go_loopw [5, 8] (fun _ i wr => ∃ k : Nat, k ≤ xs.length ∧ i = .int .i64 k ∧ allTo k (freshAt xs) = true ∧ wr.rowIs w.heap.size 47 1024 (fun y => .bool (hasB (xs.take k) (y : Int))) ∧ Below w.heap.size w wr) (fun _ i _ => xs.length - (intOf i).toNat)
  case atStart => exact ⟨0, Nat.zero_le _, rfl, rfl, HR0.out.congr (fun i hi => by simp [hasB]), HB0.out⟩
  case round =>
    obtain ⟨k, hk, rfl, hall, hrow, hbel⟩ := hrel
    have HA := hid hall
    clear hall
    by_cases hlt : k < xs.length
    · obtain ⟨x, hx, hx2⟩ := HS.out k hlt
      rw [getD_at hlt] at hx
      have hcx : wr.cell? ⟨b, off + k, none⟩ = some (.int .i64 (x : Int)) := by rw [← hx]; exact (hbel.cell (by exact hb)).trans (HC.out k hlt)
      have HXX := hid hx
      have hcc := hrow.cell (i := x) hx2
      have hfz := hrow.frozen x
      have hx3 : (x : Int) < 1024 := by omega
      have hx4 : (0 : Int) ≤ (x : Int) := by omega
      clear hx
      by_cases hf : hasB (xs.take k) (x : Int) = true
      · have HF : Hid (freshAt xs k = false) := by
          show freshAt xs k = false
          rw [freshAt, getD_at hlt, HXX.out, hf]; rfl
        rw [hf] at hcc
        have HFIN : Hid (diffB xs = false) := by show diffB xs = false; exact allTo_no hlt HF.out
        clear hrow
        go_wp2
        go_ret
        exact ⟨ret_bool HFIN.out.symm, hbel⟩
      · have hf : hasB (xs.take k) (x : Int) = false := by simpa using hf
        have HF : Hid (freshAt xs k = true) := by
          show freshAt xs k = true
          rw [freshAt, getD_at hlt, HXX.out, hf]; rfl
        rw [hf] at hcc
        have hs := hrow.set x (.bool true)
        have hbl := hbel.setCell (p := ⟨w.heap.size, x, none⟩) (Nat.le_refl _) (.bool true)
        have HSS := hid hs
        have HB := hid hbl
        clear hs hbl hrow hbel
        go_wp2
        go_roundw
        case rel => exact ⟨k + 1, by omega, by go_num, allTo_next HA.out HF.out, HSS.out.congr (fun y hy => by
          rw [hasB_take_succ xs k hlt, HXX.out]
          by_cases h : y = x
          · subst h; simp
          · rw [if_neg h]
            have : decide ((y : Int) = (x : Int)) = false := by simp; omega
            rw [this, Bool.or_false]), HB.out⟩
        case measure => simp [intOf]; omega
    · obtain rfl : k = xs.length := by omega
      have HFIN : Hid (diffB xs = true) := by show diffB xs = true; exact HA.out
      clear hrow
      go_wp2
      go_ret
      exact ⟨ret_bool HFIN.out.symm, hbel⟩
/-- xs is a code of n bits (where it has words of n bits) -/
def codeB (n : Int) (xs : List Int) : Bool := diffB xs && deltasB xs && decide (xs.length = 2 ^ n.toNat)
theorem len_pow {n : Int} {m p : Nat} (hm : n = m) (hp : p = 2 ^ m) (xs : List Int) : ((xs.length : Int) == (p : Int)) = decide (xs.length = 2 ^ n.toNat) := by
  subst hm
  subst hp
  rw [Bool.eq_iff_iff]
  have : ((m : Int)).toNat = m := by omega
  rw [this]
  simp
  exact_mod_cast Iff.rfl
set_option maxHeartbeats 1000000 in
theorem gcCode_any (n : Int) (v : Value) (xs : List Int) (w : World) (h : Sits w v xs) (hs : small xs) (hl : xs.length ≤ 1048576) (hn : inB n 1 10 = true) :
    Calls Tryd.prog 57 #[.int .i64 n, v] w fun e w' => e = .returned (.bool (codeB n xs)) ∧ Below w.heap.size w w' := by
  have HV := hid h
  obtain ⟨b, off, c, rfl, hc1, hm, hb, hc⟩ := h
  obtain ⟨m, rfl, hm1, hm10⟩ := pow_nat hn
  obtain ⟨p, hp⟩ : ∃ p, p = 2 ^ m := ⟨_, rfl⟩
  have HLP := hid (len_pow (n := (m : Int)) rfl hp xs)
  have hsh : IntKind.i64.wrap (2 ^ m) = (p : Int) := by
    have h1 := pow_le_1024 m (by omega)
    rw [← pow_int, ← hp]
    rw [← hp] at h1
    exact IntWalk.i64_in _ (by omega)
  have hm64 : min m 64 = m := by omega
  have HS := hid hs
  have HC := hid hc
  clear hs hc hp hn
  go_enter Tryd.func57, Tryd.ntmps57
  go_wp2
  go_loop [5, 6, 11] (fun _ _ i => ∃ k : Nat, k ≤ xs.length ∧ i = .int .i64 k ∧ allTo k (freshAt xs) = true) (fun _ _ i => xs.length - (intOf i).toNat)
  case atStart => exact ⟨0, Nat.zero_le _, rfl, rfl⟩
  case round =>
    obtain ⟨k, hk, rfl, hall⟩ := hrel
    have HA := hid hall
    clear hall
    by_cases hlt : k < xs.length
    · have hcx := HC.out k hlt
      have HT := hid (Sits_take (w := w) (off := off) k hk hc1 hm hb HC.out)
      have q1 : (0 : Int) ≤ (k : Int) := by omega
      have q2 : (k : Int) ≤ (c : Int) := by omega
      by_cases hf : hasB (xs.take k) xs[k] = true
      · have HF : Hid (freshAt xs k = false) := by
          show freshAt xs k = false
          rw [freshAt, getD_at hlt, hf]; rfl
        have HFIN : Hid (codeB (m : Int) xs = false) := by
          show codeB _ xs = false
          have : diffB xs = false := allTo_no hlt HF.out
          rw [codeB, this]; rfl
        go_wp2_with (first | (go_at_call 33; refine (l1Has_any _ (xs.take k) _ _ HT.out.reads).mono ?_; rintro e w' ⟨rfl, rfl⟩; rw [hf]) | fail)
        go_ret
        exact ⟨ret_bool HFIN.out.symm, Below.refl _ _⟩
      · have hf : hasB (xs.take k) xs[k] = false := by simpa using hf
        have HF : Hid (freshAt xs k = true) := by
          show freshAt xs k = true
          rw [freshAt, getD_at hlt, hf]; rfl
        go_wp2_with (first | (go_at_call 33; refine (l1Has_any _ (xs.take k) _ _ HT.out.reads).mono ?_; rintro e w' ⟨rfl, rfl⟩; rw [hf]) | fail)
        go_round
        case rel => exact ⟨k + 1, by omega, by go_num, allTo_next HA.out HF.out⟩
        case measure => simp [intOf]; omega
    · obtain rfl : k = xs.length := by omega
      have HDF : Hid (diffB xs = true) := by show diffB xs = true; exact HA.out
      by_cases hd : deltasB xs = true
      · have HFIN : Hid (codeB (m : Int) xs = ((xs.length : Int) == (p : Int))) := by
          show codeB _ xs = _
          rw [codeB, HDF.out, hd, HLP.out]; rfl
        have HD := hid hd
        clear hd
        go_wp2_with (first | (go_at_call 68; refine (gcDeltas_any _ xs _ HV.out HS.out hl).mono ?_; rintro e w1 ⟨u, rfl, ho, hb1⟩; rw [HD.out]; have HB1 := hid hb1; clear ho hb1) | fail)
        go_ret
        exact ⟨ret_bool HFIN.out.symm, HB1.out⟩
      · have hd : deltasB xs = false := by simpa using hd
        have HFIN : Hid (codeB (m : Int) xs = false) := by
          show codeB _ xs = _
          rw [codeB, HDF.out, hd]; rfl
        have HD := hid hd
        clear hd
        go_wp2_with (first | (go_at_call 68; refine (gcDeltas_any _ xs _ HV.out HS.out hl).mono ?_; rintro e w1 ⟨u, rfl, ho, hb1⟩; rw [HD.out]; have HB1 := hid hb1; clear ho hb1) | fail)
        go_ret
        exact ⟨ret_bool HFIN.out.symm, HB1.out⟩
def icV (n : Int) (xs : List Int) : Bool := wordsB n xs && codeB n xs
theorem ret_bb {a b c d : Bool} (h : a = b) (h' : c = d) : Ending.returned (.tuple #[.bool a, .bool c]) = .returned (.tuple #[.bool b, .bool d]) := by rw [h, h']
end Go.Proofs.YtijjdidljoicfaaDoor
