/- Contracts: math/bits.TrailingZeros at powers of 2, gcBit, changedBit. Conditions: words of at most 10 bits; the table of math/bits holds what the program's text lays. -/
import Derived.Test.YtijjdidljoicfaaDoorHalv
import Derived.Test.YtijjdidljoicfaaDoorRow
namespace Go.Proofs.YtijjdidljoicfaaDoor
open Go.RowKit
set_option linter.unusedVariables false

/-- the place in the table at which the number of the bit 2 ^ b stands -/
def tzIx (b : Nat) : Nat := 2 ^ b * 285870213051353865 % 18446744073709551616 / 288230376151711744
/-- The cells of math/bits.deBruijn64tab that powers of 2 below 1024 lead to. -/
def TZ (w : World) : Prop := ∀ b, b < 10 → w.cell? ⟨1, tzIx b, none⟩ = some (.int .u8 (b : Int))
theorem TZ.below {w w' : World} (h : TZ w) (hb : Below w.heap.size w w') : TZ w' := fun b hb' => (hb.cell (World.block_lt_of_cell? w _ (h b hb'))).trans (h b hb')

/-- the first k at which d is 2 ^ k, below a bound, or -1 -/
def bitTo (d : Nat) : Nat → Int
  | 0 => -1
  | k + 1 => if 0 ≤ bitTo d k then bitTo d k else if d = 2 ^ k then (k : Int) else -1
def bitD (d : Nat) : Int := bitTo d 10
set_option maxRecDepth 100000 in
theorem bitD_pow : ∀ b : Nat, b < 10 → bitD (2 ^ b) = (b : Int) := by decide +kernel
set_option maxRecDepth 100000 in
theorem bitD_pop : ∀ d, d < 1024 → popN d ≠ 1 → bitD d = -1 := by decide +kernel
set_option maxRecDepth 100000 in
theorem pop_pow : ∀ d, d < 1024 → popN d = 1 → ∃ b : Nat, b < 10 ∧ d = 2 ^ b := by decide +kernel
set_option maxRecDepth 100000 in
theorem bitD_none : ∀ d, d < 1024 → (∀ b, b < 10 → d ≠ 2 ^ b) → bitD d = -1 := by decide +kernel
theorem pop_of_pow : ∀ b : Nat, b < 10 → popN (2 ^ b) = 1 := by decide +kernel
theorem bitD_range (d : Nat) (h : d < 1024) : -1 ≤ bitD d ∧ bitD d < 10 := by
  by_cases hp : popN d = 1
  · obtain ⟨b, hb, rfl⟩ := pop_pow d h hp
    rw [bitD_pow b hb]; omega
  · rw [bitD_pop d h hp]; omega
theorem TrailingZeros64_pow (b : Nat) (w : World) (hb : b < 10) (h : TZ w) : Calls Tryd.prog 67 #[.int .u64 ((2 ^ b : Nat) : Int)] w fun e w' => e = .returned (.int .i64 (b : Int)) ∧ w = w' := by
  have hc := h b hb
  clear h
  have hcases : b = 0 ∨ b = 1 ∨ b = 2 ∨ b = 3 ∨ b = 4 ∨ b = 5 ∨ b = 6 ∨ b = 7 ∨ b = 8 ∨ b = 9 := by omega
  rcases hcases with rfl | rfl | rfl | rfl | rfl | rfl | rfl | rfl | rfl | rfl
  · have e1 : tzIx 0 = 0 := by decide +kernel
    rw [e1] at hc
    have hc' : w.cell? ⟨1, 0, none⟩ = some (.int .u8 0) := hc
    have a1 : bits .and .u64 1 18446744073709551615 = 1 := by decide +kernel
    have n1 : IntKind.u64.wrap (-1) = 18446744073709551615 := by decide +kernel
    have m1 : IntKind.u64.wrap 285870213051353865 = 285870213051353865 := by decide +kernel
    clear hc e1
    show Calls Tryd.prog 67 #[.int .u64 1] w _
    go_enter Tryd.func67, Tryd.ntmps67
    go_wp2
    go_ret
    exact ⟨rfl, rfl⟩
  · have e1 : tzIx 1 = 1 := by decide +kernel
    rw [e1] at hc
    have hc' : w.cell? ⟨1, 1, none⟩ = some (.int .u8 1) := hc
    have a1 : bits .and .u64 2 18446744073709551614 = 2 := by decide +kernel
    have n1 : IntKind.u64.wrap (-2) = 18446744073709551614 := by decide +kernel
    have m1 : IntKind.u64.wrap 571740426102707730 = 571740426102707730 := by decide +kernel
    clear hc e1
    show Calls Tryd.prog 67 #[.int .u64 2] w _
    go_enter Tryd.func67, Tryd.ntmps67
    go_wp2
    go_ret
    exact ⟨rfl, rfl⟩
  · have e1 : tzIx 2 = 3 := by decide +kernel
    rw [e1] at hc
    have hc' : w.cell? ⟨1, 3, none⟩ = some (.int .u8 2) := hc
    have a1 : bits .and .u64 4 18446744073709551612 = 4 := by decide +kernel
    have n1 : IntKind.u64.wrap (-4) = 18446744073709551612 := by decide +kernel
    have m1 : IntKind.u64.wrap 1143480852205415460 = 1143480852205415460 := by decide +kernel
    clear hc e1
    show Calls Tryd.prog 67 #[.int .u64 4] w _
    go_enter Tryd.func67, Tryd.ntmps67
    go_wp2
    go_ret
    exact ⟨rfl, rfl⟩
  · have e1 : tzIx 3 = 7 := by decide +kernel
    rw [e1] at hc
    have hc' : w.cell? ⟨1, 7, none⟩ = some (.int .u8 3) := hc
    have a1 : bits .and .u64 8 18446744073709551608 = 8 := by decide +kernel
    have n1 : IntKind.u64.wrap (-8) = 18446744073709551608 := by decide +kernel
    have m1 : IntKind.u64.wrap 2286961704410830920 = 2286961704410830920 := by decide +kernel
    clear hc e1
    show Calls Tryd.prog 67 #[.int .u64 8] w _
    go_enter Tryd.func67, Tryd.ntmps67
    go_wp2
    go_ret
    exact ⟨rfl, rfl⟩
  · have e1 : tzIx 4 = 15 := by decide +kernel
    rw [e1] at hc
    have hc' : w.cell? ⟨1, 15, none⟩ = some (.int .u8 4) := hc
    have a1 : bits .and .u64 16 18446744073709551600 = 16 := by decide +kernel
    have n1 : IntKind.u64.wrap (-16) = 18446744073709551600 := by decide +kernel
    have m1 : IntKind.u64.wrap 4573923408821661840 = 4573923408821661840 := by decide +kernel
    clear hc e1
    show Calls Tryd.prog 67 #[.int .u64 16] w _
    go_enter Tryd.func67, Tryd.ntmps67
    go_wp2
    go_ret
    exact ⟨rfl, rfl⟩
  · have e1 : tzIx 5 = 31 := by decide +kernel
    rw [e1] at hc
    have hc' : w.cell? ⟨1, 31, none⟩ = some (.int .u8 5) := hc
    have a1 : bits .and .u64 32 18446744073709551584 = 32 := by decide +kernel
    have n1 : IntKind.u64.wrap (-32) = 18446744073709551584 := by decide +kernel
    have m1 : IntKind.u64.wrap 9147846817643323680 = 9147846817643323680 := by decide +kernel
    clear hc e1
    show Calls Tryd.prog 67 #[.int .u64 32] w _
    go_enter Tryd.func67, Tryd.ntmps67
    go_wp2
    go_ret
    exact ⟨rfl, rfl⟩
  · have e1 : tzIx 6 = 63 := by decide +kernel
    rw [e1] at hc
    have hc' : w.cell? ⟨1, 63, none⟩ = some (.int .u8 6) := hc
    have a1 : bits .and .u64 64 18446744073709551552 = 64 := by decide +kernel
    have n1 : IntKind.u64.wrap (-64) = 18446744073709551552 := by decide +kernel
    have m1 : IntKind.u64.wrap 18295693635286647360 = 18295693635286647360 := by decide +kernel
    clear hc e1
    show Calls Tryd.prog 67 #[.int .u64 64] w _
    go_enter Tryd.func67, Tryd.ntmps67
    go_wp2
    go_ret
    exact ⟨rfl, rfl⟩
  · have e1 : tzIx 7 = 62 := by decide +kernel
    rw [e1] at hc
    have hc' : w.cell? ⟨1, 62, none⟩ = some (.int .u8 7) := hc
    have a1 : bits .and .u64 128 18446744073709551488 = 128 := by decide +kernel
    have n1 : IntKind.u64.wrap (-128) = 18446744073709551488 := by decide +kernel
    have m1 : IntKind.u64.wrap 36591387270573294720 = 18144643196863743104 := by decide +kernel
    clear hc e1
    show Calls Tryd.prog 67 #[.int .u64 128] w _
    go_enter Tryd.func67, Tryd.ntmps67
    go_wp2
    go_ret
    exact ⟨rfl, rfl⟩
  · have e1 : tzIx 8 = 61 := by decide +kernel
    rw [e1] at hc
    have hc' : w.cell? ⟨1, 61, none⟩ = some (.int .u8 8) := hc
    have a1 : bits .and .u64 256 18446744073709551360 = 256 := by decide +kernel
    have n1 : IntKind.u64.wrap (-256) = 18446744073709551360 := by decide +kernel
    have m1 : IntKind.u64.wrap 73182774541146589440 = 17842542320017934592 := by decide +kernel
    clear hc e1
    show Calls Tryd.prog 67 #[.int .u64 256] w _
    go_enter Tryd.func67, Tryd.ntmps67
    go_wp2
    go_ret
    exact ⟨rfl, rfl⟩
  · have e1 : tzIx 9 = 59 := by decide +kernel
    rw [e1] at hc
    have hc' : w.cell? ⟨1, 59, none⟩ = some (.int .u8 9) := hc
    have a1 : bits .and .u64 512 18446744073709551104 = 512 := by decide +kernel
    have n1 : IntKind.u64.wrap (-512) = 18446744073709551104 := by decide +kernel
    have m1 : IntKind.u64.wrap 146365549082293178880 = 17238340566326317568 := by decide +kernel
    clear hc e1
    show Calls Tryd.prog 67 #[.int .u64 512] w _
    go_enter Tryd.func67, Tryd.ntmps67
    go_wp2
    go_ret
    exact ⟨rfl, rfl⟩
theorem TrailingZeros_pow (b : Nat) (w : World) (hb : b < 10) (h : TZ w) : Calls Tryd.prog 56 #[.int .u64 ((2 ^ b : Nat) : Int)] w fun e w' => e = .returned (.int .i64 (b : Int)) ∧ w = w' := by
  go_enter Tryd.func56, Tryd.ntmps56
  go_wp2_with (first | (go_at_call 67; refine (TrailingZeros64_pow b _ hb h).mono ?_; rintro e w' ⟨rfl, rfl⟩) | fail)
  go_ret
  exact ⟨rfl, rfl⟩
theorem xor_lt {a b : Nat} (ha : a < 1024) (hb : b < 1024) : a ^^^ b < 1024 := Nat.xor_lt_two_pow (n := 10) ha hb
theorem gcBit_any (a b : Nat) (w : World) (ha : a < 1024) (hb : b < 1024) : Calls Tryd.prog 34 #[.int .i64 (a : Int), .int .i64 (b : Int)] w fun e w' => e = .returned (.int .i64 (bitD (a ^^^ b))) ∧ w = w' := by
  have hx : bits .xor .i64 (a : Int) (b : Int) = ((a ^^^ b : Nat) : Int) := xor_i64 _ _ (small62 (by omega)) (small62 (by omega))
  have hd := xor_lt ha hb
  obtain ⟨d, hdd⟩ : ∃ d, d = a ^^^ b := ⟨_, rfl⟩
  rw [← hdd] at hx hd ⊢
  clear hdd
  go_enter Tryd.func34, Tryd.ntmps34
  go_wp2
  go_loop [5] (fun i => ∃ k : Nat, k ≤ 10 ∧ i = .int .i64 k ∧ ∀ j, j < k → d ≠ 2 ^ j) (fun i => 10 - (intOf i).toNat)
  case atStart => exact ⟨0, Nat.zero_le _, rfl, fun j hj => absurd hj (by omega)⟩
  case round =>
    obtain ⟨k, hk, rfl, hn⟩ := hrel
    have HN := hid hn
    clear hn
    by_cases hlt : k < 10
    · obtain ⟨p, hp⟩ : ∃ p, p = 2 ^ k := ⟨_, rfl⟩
      have hsh : IntKind.i64.wrap (2 ^ k) = (p : Int) := by
        have h1 := pow_le_1024 k (by omega)
        rw [← pow_int, ← hp]
        rw [← hp] at h1
        exact IntWalk.i64_in _ (by omega)
      have hk64 : min k 64 = k := by omega
      have HP := hid hp
      clear hp
      by_cases he : d = p
      · have hbb : ((d : Int) == (p : Int)) = true := by simp [he]
        have HE : Hid ((k : Int) = bitD d) := by show _ = _; rw [he, HP.out, bitD_pow k hlt]
        clear he
        go_wp2
        go_ret
        exact ⟨ret_int HE.out, rfl⟩
      · have hbb : ((d : Int) == (p : Int)) = false := by simp; omega
        have HNN : Hid (∀ j, j < k + 1 → d ≠ 2 ^ j) := by
          show ∀ _ _, _
          intro j hj
          by_cases h : j = k
          · rw [h, ← HP.out]; exact he
          · exact HN.out j (by omega)
        clear he
        go_wp2
        go_round
        case rel => exact ⟨k + 1, by omega, by go_num, HNN.out⟩
        case measure => simp [intOf]; omega
    · obtain rfl : k = 10 := by omega
      have HE := hid (bitD_none d hd HN.out)
      go_wp2
      go_ret
      exact ⟨ret_int HE.out.symm, rfl⟩
def cbV (d : Nat) : Int := if 0 ≤ bitD d then bitD d else 0
def cbB (d : Nat) : Bool := decide (0 ≤ bitD d)
theorem ret_nb8 {a b : Int} {c d : Bool} (h : a = b) (h' : c = d) : Ending.returned (.tuple #[.int .i64 a, .bool c]) = .returned (.tuple #[.int .i64 b, .bool d]) := by rw [h, h']
theorem changedBit_any (a b : Nat) (w : World) (ha : a < 1024) (hb : b < 1024) (h : TZ w) : Calls Tryd.prog 41 #[.int .i64 (a : Int), .int .i64 (b : Int)] w fun e w' => e = .returned (.tuple #[.int .i64 (cbV (a ^^^ b)), .bool (cbB (a ^^^ b))]) ∧ w = w' := by
  have hx : bits .xor .i64 (a : Int) (b : Int) = ((a ^^^ b : Nat) : Int) := xor_i64 _ _ (small62 (by omega)) (small62 (by omega))
  have hd := xor_lt ha hb
  obtain ⟨d, hdd⟩ : ∃ d, d = a ^^^ b := ⟨_, rfl⟩
  rw [← hdd] at hx hd ⊢
  have hu : IntKind.u64.wrap (d : Int) = (d : Int) := by rw [IntKind.wrap_u64]; omega
  have H := hid h
  clear hdd h
  by_cases hp : popN d = 1
  · obtain ⟨k, hk, hdk⟩ := pop_pow d hd hp
    have HB : Hid (bitD d = (k : Int)) := by show _ = _; rw [hdk, bitD_pow k hk]
    have HV : Hid (cbV d = (k : Int) ∧ cbB d = true) := by
      show _ ∧ _
      unfold cbV cbB
      rw [HB.out, if_pos (by omega), decide_eq_true (by omega)]; exact ⟨rfl, rfl⟩
    have hbb : ((popN d : Int) != 1) = false := by rw [hp]; rfl
    have HDK := hid hdk
    clear hdk hp
    go_enter Tryd.func41, Tryd.ntmps41
    go_wp2_with (first | (go_at_call 55; refine (OnesCount_any d _ hd).mono ?_; rintro e w' ⟨rfl, rfl⟩) | (go_at_call 56; rw [HDK.out]; refine (TrailingZeros_pow k _ hk H.out).mono ?_; rintro e w' ⟨rfl, rfl⟩) | fail)
    go_ret2
    exact ⟨ret_nb8 HV.out.1.symm HV.out.2.symm, rfl⟩
  · have HV : Hid (cbV d = 0 ∧ cbB d = false) := by
      show _ ∧ _
      unfold cbV cbB
      rw [bitD_pop d hd hp, if_neg (by omega), decide_eq_false (by omega)]; exact ⟨rfl, rfl⟩
    have hbb : ((popN d : Int) != 1) = true := by simp; omega
    clear hp
    go_enter Tryd.func41, Tryd.ntmps41
    go_wp2_with (first | (go_at_call 55; refine (OnesCount_any d _ hd).mono ?_; rintro e w' ⟨rfl, rfl⟩) | fail)
    go_ret2
    exact ⟨ret_nb8 HV.out.1.symm HV.out.2.symm, rfl⟩
end Go.Proofs.YtijjdidljoicfaaDoor
