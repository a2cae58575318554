/- Contracts: anyMover, the suits methods, moverOf, impl.IsMove. Conditions: numbers of 64 bits. -/
import Derived.Test.YteenmndgejeihaaBs3
import Derived.Handy
namespace Go.Proofs.Yteenmndgejeihaa
open Go.RowKit
set_option linter.unusedVariables false
set_option maxRecDepth 4000

abbrev vSwap (i j : Int) : Value := .iface 90 (.agg #[.int .i64 i, .int .i64 j])
abbrev vRev (i : Int) : Value := .iface 94 (.agg #[.int .i64 i])
abbrev vRot (i : Int) : Value := .iface 95 (.agg #[.int .i64 i])
/-- a mover as a value -/
def mvV (m : Mv) : Value := if m.1 = 0 then vSwap m.2.1 m.2.2 else if m.1 = 1 then vRev m.2.1 else vRot m.2.1
theorem ret_vb {u v : Value} {b b' : Bool} (h : u = v) (h' : b = b') : Ending.returned (.tuple #[u, .bool b]) = .returned (.tuple #[v, .bool b']) := by rw [h, h']
def anB (k j : Int) : Bool := decide (k = 0) || (decide (k = 1 ∨ k = 2) && decide (j = 0))
def anV (k i j : Int) : Value := if anB k j = true then mvV (k, i, j) else .nilIface
theorem anyMover_any (k i j : Int) (w : World) :
    Calls Try.prog 117 #[.agg #[.int .i64 k, .int .i64 i, .int .i64 j]] w fun e w' => e = .returned (.tuple #[anV k i j, .bool (anB k j)]) ∧ Below w.heap.size w w' := by
  have HB := hid ((Below.refl w.heap.size w).alloc (Nat.le_refl _) (mvObj k i j))
  by_cases h0 : k = 0
  · subst h0
    have HV := hid (show vSwap i j = anV 0 i j by simp [anV, anB, mvV])
    have HC := hid (show true = anB 0 j by simp [anB])
    go_enter Try.func117, Try.ntmps117
    go_wp2_with fail
    go_ret2
    exact ⟨ret_vb HV.out HC.out, HB.out⟩
  · by_cases hj : j = 0
    · subst hj
      by_cases h1 : k = 1
      · subst h1
        have HV := hid (show vRev i = anV 1 i 0 by simp [anV, anB, mvV])
        have HC := hid (show true = anB 1 0 by simp [anB])
        go_enter Try.func117, Try.ntmps117
        go_wp2_with fail
        go_ret2
        exact ⟨ret_vb HV.out HC.out, HB.out⟩
      · by_cases h2 : k = 2
        · subst h2
          have HV := hid (show vRot i = anV 2 i 0 by simp [anV, anB, mvV])
          have HC := hid (show true = anB 2 0 by simp [anB])
          go_enter Try.func117, Try.ntmps117
          go_wp2_with fail
          go_ret2
          exact ⟨ret_vb HV.out HC.out, HB.out⟩
        · have HC := hid (show false = anB k 0 by simp [anB, h0, h1, h2])
          have HV := hid (show .nilIface = anV k i 0 by simp [anV, ← HC.out])
          have e0 : (k == 0) = false := by simp [h0]
          have e1 : (k == 1) = false := by simp [h1]
          have e2 : (k == 2) = false := by simp [h2]
          clear h0 h1 h2
          go_enter Try.func117, Try.ntmps117
          go_wp2_with fail
          go_ret2
          exact ⟨ret_vb HV.out HC.out, HB.out⟩
    · have HC := hid (show false = anB k j by simp [anB, h0, hj])
      have HV := hid (show .nilIface = anV k i j by simp [anV, ← HC.out])
      have e0 : (k == 0) = false := by simp [h0]
      have ej : (j == 0) = false := by simp [hj]
      clear h0 hj
      by_cases h1 : k = 1
      · subst h1
        go_enter Try.func117, Try.ntmps117
        go_wp2_with fail
        go_ret2
        exact ⟨ret_vb HV.out HC.out, HB.out⟩
      · by_cases h2 : k = 2
        · subst h2
          go_enter Try.func117, Try.ntmps117
          go_wp2_with fail
          go_ret2
          exact ⟨ret_vb HV.out HC.out, HB.out⟩
        · have e1 : (k == 1) = false := by simp [h1]
          have e2 : (k == 2) = false := by simp [h2]
          clear h1 h2
          go_enter Try.func117, Try.ntmps117
          go_wp2_with fail
          go_ret2
          exact ⟨ret_vb HV.out HC.out, HB.out⟩
def sw2 (n i j : Int) : Bool := decide (0 ≤ i) && (decide (i < j) && decide (j < n))
theorem swap_suits_any (i j n : Int) (w : World) :
    Calls Try.prog 150 #[.agg #[.int .i64 i, .int .i64 j], .int .i64 n] w fun e w' => e = .returned (.bool (sw2 n i j)) ∧ Below w.heap.size w w' := by
  have HB := hid ((Below.refl w.heap.size w).alloc (Nat.le_refl _) (.cells #[.int .i64 i, .int .i64 j] 90))
  by_cases h1 : 0 ≤ i
  · by_cases h2 : i < j
    · by_cases h3 : j < n
      · have HV := hid (show true = sw2 n i j by simp [sw2, h1, h2, h3])
        go_enter Try.func150, Try.ntmps150
        go_wp2_with fail
        go_returns
        exact ⟨ret_bool HV.out, HB.out⟩
      · have HV := hid (show false = sw2 n i j by simp [sw2, h3])
        go_enter Try.func150, Try.ntmps150
        go_wp2_with fail
        go_returns
        exact ⟨ret_bool HV.out, HB.out⟩
    · have HV := hid (show false = sw2 n i j by simp [sw2, h2])
      go_enter Try.func150, Try.ntmps150
      go_wp2_with fail
      go_returns
      exact ⟨ret_bool HV.out, HB.out⟩
  · have HV := hid (show false = sw2 n i j by simp [sw2, h1])
    go_enter Try.func150, Try.ntmps150
    go_wp2_with fail
    go_returns
    exact ⟨ret_bool HV.out, HB.out⟩
theorem beg_suits_any (i n : Int) (w : World) :
    Calls Try.prog 151 #[.agg #[.int .i64 i], .int .i64 n] w fun e w' => e = .returned (.bool (inB i 2 n)) ∧ Below w.heap.size w w' := by
  have HB := hid ((Below.refl w.heap.size w).alloc (Nat.le_refl _) (.cells #[.int .i64 i] 92))
  by_cases h1 : 2 ≤ i
  · by_cases h2 : i ≤ n
    · have HV := hid (show true = inB i 2 n from (inB_iff.2 ⟨h1, h2⟩).symm)
      go_enter Try.func151, Try.ntmps151
      go_wp2_with fail
      go_returns
      exact ⟨ret_bool HV.out, HB.out⟩
    · have HV := hid (show false = inB i 2 n by rw [eq_comm, Bool.eq_false_iff]; intro h; exact h2 (inB_iff.1 h).2)
      go_enter Try.func151, Try.ntmps151
      go_wp2_with fail
      go_returns
      exact ⟨ret_bool HV.out, HB.out⟩
  · have HV := hid (show false = inB i 2 n by rw [eq_comm, Bool.eq_false_iff]; intro h; exact h1 (inB_iff.1 h).1)
    go_enter Try.func151, Try.ntmps151
    go_wp2_with fail
    go_returns
    exact ⟨ret_bool HV.out, HB.out⟩
theorem sw2_eq {n i j : Int} : sw2 n i j = mvB n 0 i j := by
  rw [mvB_0, Bool.eq_iff_iff, sw2]
  simp only [Bool.and_eq_true, decide_eq_true_eq, inB_iff]
  omega
def moVal (n k i j : Int) : Value := if imV n k i j = true then mvV (k, i, j) else .nilIface
theorem moVal_yes {n k i j : Int} (h : true = imV n k i j) : mvV (k, i, j) = moVal n k i j := by rw [moVal, if_pos h.symm]
theorem moVal_no {n k i j : Int} (h : false = imV n k i j) : .nilIface = moVal n k i j := by rw [moVal, ← h]; rfl
theorem ret_im {u v : Value} {b b' : Bool} (h : u = v) (h' : b = b') : Ending.returned (.tuple #[u, .bool b]) = .returned (.tuple #[v, .bool b']) := by rw [h, h']
set_option maxHeartbeats 1000000 in
theorem moverOf_any (n k i j : Int) (w : World) :
    Calls Try.prog 78 #[.int .i64 n, .agg #[.int .i64 k, .int .i64 i, .int .i64 j]] w fun e w' => e = .returned (.tuple #[moVal n k i j, .bool (imV n k i j)]) ∧ Below w.heap.size w w' := by
  have HB := hid ((Below.refl w.heap.size w).alloc (Nat.le_refl _) (mvObj k i j))
  by_cases ha : anB k j = true
  · by_cases h0 : k = 0
    · subst h0
      have HV := hid (show vSwap i j = anV 0 i j by simp [anV, anB, mvV])
      have HC := hid (show true = anB 0 j by simp [anB])
      have HEQ := hid (show mvB n 0 i j = sw2 n i j from sw2_eq.symm)
      clear ha
      cases hn : inB n 0 12 with
      | true =>
        have HN := hid hn
        clear hn
        cases hs : sw2 n i j with
        | true =>
          have HS := hid hs
          have HIM := hid (show true = imV n 0 i j by rw [imV, HN.out, HEQ.out, hs]; rfl)
          clear hs
          go_enter Try.func78, Try.ntmps78
          go_wp2_with (first | (go_at_call 117; refine (anyMover_any 0 i j _).mono ?_; rintro e w1 ⟨rfl, hb1⟩; rw [← HV.out, ← HC.out]; have HB1 := hid (Below_chain HB.out hb1); clear hb1) | (go_at_call 66; refine (isItemCount_any _ _).mono ?_; rintro e w2 ⟨rfl, rfl⟩; rw [HN.out]) | (go_at_call 150; refine (swap_suits_any i j n _).mono ?_; rintro e w3 ⟨rfl, hb3⟩; rw [HS.out]; have HB3 := hid (Below_chain HB1.out hb3); clear hb3) | fail)
          go_ret2
          exact ⟨ret_im (moVal_yes HIM.out) HIM.out, HB3.out⟩
        | false =>
          have HS := hid hs
          have HIM := hid (show false = imV n 0 i j by rw [imV, HN.out, HEQ.out, hs]; rfl)
          clear hs
          go_enter Try.func78, Try.ntmps78
          go_wp2_with (first | (go_at_call 117; refine (anyMover_any 0 i j _).mono ?_; rintro e w1 ⟨rfl, hb1⟩; rw [← HV.out, ← HC.out]; have HB1 := hid (Below_chain HB.out hb1); clear hb1) | (go_at_call 66; refine (isItemCount_any _ _).mono ?_; rintro e w2 ⟨rfl, rfl⟩; rw [HN.out]) | (go_at_call 150; refine (swap_suits_any i j n _).mono ?_; rintro e w3 ⟨rfl, hb3⟩; rw [HS.out]; have HB3 := hid (Below_chain HB1.out hb3); clear hb3) | fail)
          go_ret2
          exact ⟨ret_im (moVal_no HIM.out) HIM.out, HB3.out⟩
      | false =>
        have HN := hid hn
        have HIM := hid (show false = imV n 0 i j by rw [imV, hn]; rfl)
        clear hn
        go_enter Try.func78, Try.ntmps78
        go_wp2_with (first | (go_at_call 117; refine (anyMover_any 0 i j _).mono ?_; rintro e w1 ⟨rfl, hb1⟩; rw [← HV.out, ← HC.out]; have HB1 := hid (Below_chain HB.out hb1); clear hb1) | (go_at_call 66; refine (isItemCount_any _ _).mono ?_; rintro e w2 ⟨rfl, rfl⟩; rw [HN.out]) | fail)
        go_ret2
        exact ⟨ret_im (moVal_no HIM.out) HIM.out, HB1.out⟩
    · obtain rfl : j = 0 := by
        simp [anB, h0] at ha
        exact ha.2
      have h12 : k = 1 ∨ k = 2 := by
        simp [anB, h0] at ha
        exact ha
      have HEQ := hid (show mvB n k i 0 = inB i 2 n by rw [mvB_12 h12]; simp)
      rcases h12 with rfl | rfl
      · have HV := hid (show vRev i = anV 1 i 0 by simp [anV, anB, mvV])
        have HC := hid (show true = anB 1 0 by simp [anB])
        clear ha h0
        cases hn : inB n 0 12 with
        | true =>
          have HN := hid hn
          clear hn
          cases hs : inB i 2 n with
          | true =>
            have HS := hid hs
            have HIM := hid (show true = imV n 1 i 0 by rw [imV, HN.out, HEQ.out, hs]; rfl)
            clear hs
            go_enter Try.func78, Try.ntmps78
            go_wp2_with (first | (go_at_call 117; refine (anyMover_any 1 i 0 _).mono ?_; rintro e w1 ⟨rfl, hb1⟩; rw [← HV.out, ← HC.out]; have HB1 := hid (Below_chain HB.out hb1); clear hb1) | (go_at_call 66; refine (isItemCount_any _ _).mono ?_; rintro e w2 ⟨rfl, rfl⟩; rw [HN.out]) | (go_at_call 151; refine (beg_suits_any i n _).mono ?_; rintro e w3 ⟨rfl, hb3⟩; rw [HS.out]; have HB3 := hid (Below_chain HB1.out hb3); clear hb3) | fail)
            go_ret2
            exact ⟨ret_im (moVal_yes HIM.out) HIM.out, HB3.out⟩
          | false =>
            have HS := hid hs
            have HIM := hid (show false = imV n 1 i 0 by rw [imV, HN.out, HEQ.out, hs]; rfl)
            clear hs
            go_enter Try.func78, Try.ntmps78
            go_wp2_with (first | (go_at_call 117; refine (anyMover_any 1 i 0 _).mono ?_; rintro e w1 ⟨rfl, hb1⟩; rw [← HV.out, ← HC.out]; have HB1 := hid (Below_chain HB.out hb1); clear hb1) | (go_at_call 66; refine (isItemCount_any _ _).mono ?_; rintro e w2 ⟨rfl, rfl⟩; rw [HN.out]) | (go_at_call 151; refine (beg_suits_any i n _).mono ?_; rintro e w3 ⟨rfl, hb3⟩; rw [HS.out]; have HB3 := hid (Below_chain HB1.out hb3); clear hb3) | fail)
            go_ret2
            exact ⟨ret_im (moVal_no HIM.out) HIM.out, HB3.out⟩
        | false =>
          have HN := hid hn
          have HIM := hid (show false = imV n 1 i 0 by rw [imV, hn]; rfl)
          clear hn
          go_enter Try.func78, Try.ntmps78
          go_wp2_with (first | (go_at_call 117; refine (anyMover_any 1 i 0 _).mono ?_; rintro e w1 ⟨rfl, hb1⟩; rw [← HV.out, ← HC.out]; have HB1 := hid (Below_chain HB.out hb1); clear hb1) | (go_at_call 66; refine (isItemCount_any _ _).mono ?_; rintro e w2 ⟨rfl, rfl⟩; rw [HN.out]) | fail)
          go_ret2
          exact ⟨ret_im (moVal_no HIM.out) HIM.out, HB1.out⟩
      · have HV := hid (show vRot i = anV 2 i 0 by simp [anV, anB, mvV])
        have HC := hid (show true = anB 2 0 by simp [anB])
        clear ha h0
        cases hn : inB n 0 12 with
        | true =>
          have HN := hid hn
          clear hn
          cases hs : inB i 2 n with
          | true =>
            have HS := hid hs
            have HIM := hid (show true = imV n 2 i 0 by rw [imV, HN.out, HEQ.out, hs]; rfl)
            clear hs
            go_enter Try.func78, Try.ntmps78
            go_wp2_with (first | (go_at_call 117; refine (anyMover_any 2 i 0 _).mono ?_; rintro e w1 ⟨rfl, hb1⟩; rw [← HV.out, ← HC.out]; have HB1 := hid (Below_chain HB.out hb1); clear hb1) | (go_at_call 66; refine (isItemCount_any _ _).mono ?_; rintro e w2 ⟨rfl, rfl⟩; rw [HN.out]) | (go_at_call 151; refine (beg_suits_any i n _).mono ?_; rintro e w3 ⟨rfl, hb3⟩; rw [HS.out]; have HB3 := hid (Below_chain HB1.out hb3); clear hb3) | fail)
            go_ret2
            exact ⟨ret_im (moVal_yes HIM.out) HIM.out, HB3.out⟩
          | false =>
            have HS := hid hs
            have HIM := hid (show false = imV n 2 i 0 by rw [imV, HN.out, HEQ.out, hs]; rfl)
            clear hs
            go_enter Try.func78, Try.ntmps78
            go_wp2_with (first | (go_at_call 117; refine (anyMover_any 2 i 0 _).mono ?_; rintro e w1 ⟨rfl, hb1⟩; rw [← HV.out, ← HC.out]; have HB1 := hid (Below_chain HB.out hb1); clear hb1) | (go_at_call 66; refine (isItemCount_any _ _).mono ?_; rintro e w2 ⟨rfl, rfl⟩; rw [HN.out]) | (go_at_call 151; refine (beg_suits_any i n _).mono ?_; rintro e w3 ⟨rfl, hb3⟩; rw [HS.out]; have HB3 := hid (Below_chain HB1.out hb3); clear hb3) | fail)
            go_ret2
            exact ⟨ret_im (moVal_no HIM.out) HIM.out, HB3.out⟩
        | false =>
          have HN := hid hn
          have HIM := hid (show false = imV n 2 i 0 by rw [imV, hn]; rfl)
          clear hn
          go_enter Try.func78, Try.ntmps78
          go_wp2_with (first | (go_at_call 117; refine (anyMover_any 2 i 0 _).mono ?_; rintro e w1 ⟨rfl, hb1⟩; rw [← HV.out, ← HC.out]; have HB1 := hid (Below_chain HB.out hb1); clear hb1) | (go_at_call 66; refine (isItemCount_any _ _).mono ?_; rintro e w2 ⟨rfl, rfl⟩; rw [HN.out]) | fail)
          go_ret2
          exact ⟨ret_im (moVal_no HIM.out) HIM.out, HB1.out⟩
  · have ha2 : anB k j = false := by simpa using ha
    have HC := hid ha2.symm
    have HV := hid (show .nilIface = anV k i j by rw [anV, ha2]; rfl)
    have HIM := hid (show false = imV n k i j by
      rw [imV]
      have : mvB n k i j = false := by
        unfold mvB
        by_cases h0 : k = 0
        · simp [anB, h0] at ha2
        · rw [if_neg h0]
          by_cases h12 : k = 1 ∨ k = 2
          · rw [if_pos h12]
            simp [anB, h0, h12] at ha2
            simp [ha2]
          · rw [if_neg h12]
      rw [this, Bool.and_false])
    clear ha ha2
    go_enter Try.func78, Try.ntmps78
    go_wp2_with (first | (go_at_call 117; refine (anyMover_any k i j _).mono ?_; rintro e w1 ⟨rfl, hb1⟩; rw [← HV.out, ← HC.out]; have HB1 := hid (Below_chain HB.out hb1); clear hb1) | fail)
    go_ret2
    exact ⟨ret_im (moVal_no HIM.out) HIM.out, HB1.out⟩
theorem impl_IsMove_any (n k i j : Int) (w : World) :
    Calls Try.prog 30 #[.int .i64 n, .agg #[.int .i64 k, .int .i64 i, .int .i64 j]] w fun e w' => e = .returned (.tuple #[.bool (imV n k i j), .bool (inB n 0 12)]) ∧ Below w.heap.size w w' := by
  have HB := hid ((Below.refl w.heap.size w).alloc (Nat.le_refl _) (mvObj k i j))
  obtain ⟨V, hV⟩ : ∃ V : Value, V = moVal n k i j := ⟨_, rfl⟩
  obtain ⟨B, hB⟩ : ∃ B, B = imV n k i j := ⟨_, rfl⟩
  obtain ⟨I, hI⟩ : ∃ I, I = inB n 0 12 := ⟨_, rfl⟩
  have HV := hid hV
  have HBB := hid hB
  have HI := hid hI
  rw [← hB, ← hI]
  clear hV hB hI
  go_enter Try.func30, Try.ntmps30
  go_wp2_with (first | (go_at_call 78; refine (moverOf_any n k i j _).mono ?_; rintro e w1 ⟨rfl, hb1⟩; rw [← HV.out, ← HBB.out]; have HB1 := hid (Below_chain HB.out hb1); clear hb1) | (go_at_call 66; refine (isItemCount_any _ _).mono ?_; rintro e w2 ⟨rfl, rfl⟩; rw [← HI.out]) | fail)
  go_ret2
  exact ⟨rfl, HB1.out⟩
end Go.Proofs.Yteenmndgejeihaa
