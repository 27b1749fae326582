/-
  The walks of the laws of TurnedOf, PalindromeOk, NextPalindrome and StepsToPalindrome.
-/
import Derived.Test.YtaocefdannjlhaaDraws7
import Derived.Test.YtaocefdannjlhaaSteps
import Derived.Test.YtaocefdannjlhaaNextPal
namespace Go.Proofs.Ytaocefdannjlhaa
open Go.RowKit

namespace Pl

theorem turn_diff {b : Nat} (hb : 2 ≤ b) (n : Nat) : ((n : Int) - ((turnN b n : Nat) : Int)).tmod ((b : Int) - 1) = 0 ∧ ((n : Int) - ((turnN b n : Nat) : Int)) % ((b : Int) - 1) = 0 := by
  have h := turn_mod hb n
  exact ⟨by rw [← Int.dvd_iff_tmod_eq_zero]; exact h, Int.emod_eq_zero_of_dvd h⟩

theorem turn_small {n b : Nat} (hm : 0 ≤ turnI n b) : turnN b n ≤ 1000000000 := Classical.byContradiction fun hno => by
  rw [turnI_big n b hno] at hm; omega

/-- The test whether the last digit is 0. -/
theorem last_test (x k : Nat) : ((x : Int) % (k : Int) == 0) = decide (x % k = 0) := by
  rw [Bool.eq_iff_iff, beq_iff_eq, decide_eq_true_eq]
  have : (x : Int) % (k : Int) = ((x % k : Nat) : Int) := rfl
  omega

end Pl

set_option maxRecDepth 100000 in
set_option maxHeartbeats 2000000 in
theorem FnTurnedOf_walk (a0 : Option Addr) (len0 cap0 : Nat) (z0 : List Int) (w : World) (w0 : IsRow .u8 w a0 len0 cap0 z0) :
    Calls Try.prog 3 #[.slice a0 len0 cap0] w fun e w' => e = .returned (.bool true) ∧ Below w.heap.size w w' := by
  by_cases hl : 1048576 < len0
  · go_enter Try.func3, Try.ntmps3
    go_wp2
    go_ret
    exact ⟨rfl, Below.refl _ _⟩
  · go_enter Try.func3, Try.ntmps3
    go_wp2_with fail
    refine (drawTurnedOf _ _ _ _ _ w0).mono ?_
    rintro e w1 ⟨n, b, rfl, ⟨n1, n2⟩, ⟨b1, b2⟩, hb1⟩
    clear w0 hl
    by_cases hm : 0 ≤ Pl.turnI n b
    · have hok := Pl.turnI_ok hm
      obtain ⟨x, k, rfl, rfl, k1, k2, hx⟩ := Pl.okB_nat hok
      have hT9 := Pl.turn_small hm
      have F1 := Lib.hid (Pl.turnI_yes x k hok hT9)
      have F2 := Lib.hid (Pl.sumI_yes x k hok)
      have hokT : Pl.okB ((Pl.turnN k x : Nat) : Int) k = true := by rw [Pl.okB_iff]; omega
      have F3 : Hid (Pl.sumI ((Pl.turnN k x : Nat) : Int) k = ((Pl.sumD k x : Nat) : Int)) := Lib.hid (by rw [Pl.sumI_yes _ k hokT, Pl.turn_sum k1])
      have F4 : Hid (x % k ≠ 0 → Pl.turnI ((Pl.turnN k x : Nat) : Int) k = (x : Int)) := Lib.hid fun h0 => by
        have e := Pl.turn_turn k1 h0
        rw [Pl.turnI_yes _ k hokT (by rw [e]; exact hx), e]
      obtain ⟨d1, d2⟩ := Pl.turn_diff k1 x
      have hmx : max ((k : Int) - 1) 1 = (k : Int) - 1 := by omega
      have hk1 : (1 : Int) ≤ (k : Int) - 1 := by omega
      have hk0 : ((k : Int) - 1 == 0) = false := by simp; omega
      have hkk : ((k : Int) == 0) = false := by simp; omega
      clear hm hok hokT
      generalize Pl.sumD k x = S at *
      generalize Pl.turnN k x = T at *
      have hTT : 0 ≤ (T : Int) := by omega
      by_cases h0 : x % k = 0
      · have ht : ((x : Int) % (k : Int) == 0) = true := by rw [Pl.last_test]; simp [h0]
        clear h0
        go_wp2_with fail
        refine (implTurnedOf _ _ _).mono ?_
        rintro e w2 ⟨rfl, hb2⟩
        rw [F1.out]
        go_wp2_with fail
        refine (specTurnedOf _ _ _).mono ?_
        rintro e w3 ⟨rfl, rfl⟩
        rw [F1.out]
        have c2 : Below w.heap.size w w2 := hb1.trans (hb2.mono hb1.size)
        clear hb1 hb2
        go_wp2_with fail
        refine (implSumOf _ _ _).mono ?_
        rintro e w4 ⟨rfl, hb4⟩
        rw [F3.out]
        have c4 : Below w.heap.size w w4 := c2.trans (hb4.mono c2.size)
        go_wp2_with fail
        refine (implSumOf _ _ _).mono ?_
        rintro e w5 ⟨rfl, hb5⟩
        rw [F2.out]
        go_wp2_with (go_at_call 18; refine (alive _).mono ?_; rintro e w' ⟨rfl, rfl⟩)
        go_ret
        exact ⟨rfl, c4.trans (hb5.mono c4.size)⟩
      · have ht : ((x : Int) % (k : Int) == 0) = false := by rw [Pl.last_test]; simp [h0]
        have F5 := Lib.hid (F4.out h0)
        clear h0
        go_wp2_with fail
        refine (implTurnedOf _ _ _).mono ?_
        rintro e w2 ⟨rfl, hb2⟩
        rw [F1.out]
        go_wp2_with fail
        refine (specTurnedOf _ _ _).mono ?_
        rintro e w3 ⟨rfl, rfl⟩
        rw [F1.out]
        have c2 : Below w.heap.size w w2 := hb1.trans (hb2.mono hb1.size)
        clear hb1 hb2
        go_wp2_with fail
        refine (implTurnedOf _ _ _).mono ?_
        rintro e w3 ⟨rfl, hb3⟩
        rw [F5.out]
        have c3 : Below w.heap.size w w3 := c2.trans (hb3.mono c2.size)
        go_wp2_with fail
        refine (implSumOf _ _ _).mono ?_
        rintro e w4 ⟨rfl, hb4⟩
        rw [F3.out]
        have c4 : Below w.heap.size w w4 := c3.trans (hb4.mono c3.size)
        go_wp2_with fail
        refine (implSumOf _ _ _).mono ?_
        rintro e w5 ⟨rfl, hb5⟩
        rw [F2.out]
        go_wp2_with (go_at_call 18; refine (alive _).mono ?_; rintro e w' ⟨rfl, rfl⟩)
        go_ret
        exact ⟨rfl, c4.trans (hb5.mono c4.size)⟩
    · have F1 : Hid (Pl.turnI n b = -1) := Lib.hid (by have := Pl.turnI_range n b; omega)
      clear hm
      go_wp2_with fail
      refine (implTurnedOf _ _ _).mono ?_
      rintro e w2 ⟨rfl, hb2⟩
      rw [F1.out]
      go_wp2_with fail
      refine (specTurnedOf _ _ _).mono ?_
      rintro e w3 ⟨rfl, rfl⟩
      rw [F1.out]
      go_wp2_with (go_at_call 18; refine (alive _).mono ?_; rintro e w' ⟨rfl, rfl⟩)
      go_ret
      exact ⟨rfl, hb1.trans (hb2.mono hb1.size)⟩

theorem Pl.palB_ok {n b : Int} (h : Pl.palB n b = true) : Pl.okB n b = true := Classical.byContradiction fun hno => by
  rw [Pl.palB_no hno] at h; cases h

set_option maxRecDepth 100000 in
set_option maxHeartbeats 2000000 in
theorem FnPalindromeOk_walk (a0 : Option Addr) (len0 cap0 : Nat) (z0 : List Int) (w : World) (w0 : IsRow .u8 w a0 len0 cap0 z0) :
    Calls Try.prog 4 #[.slice a0 len0 cap0] w fun e w' => e = .returned (.bool true) ∧ Below w.heap.size w w' := by
  by_cases hl : 1048576 < len0
  · go_enter Try.func4, Try.ntmps4
    go_wp2
    go_ret
    exact ⟨rfl, Below.refl _ _⟩
  · go_enter Try.func4, Try.ntmps4
    go_wp2_with fail
    refine (drawPalindromeOk _ _ _ _ _ w0).mono ?_
    rintro e w1 ⟨n, b, rfl, ⟨n1, n2⟩, ⟨b1, b2⟩, hb1⟩
    clear w0 hl
    by_cases hp : Pl.palB n b = true
    · have hok := Pl.palB_ok hp
      obtain ⟨x, k, rfl, rfl, k1, k2, hx⟩ := Pl.okB_nat hok
      have hpal : Pl.turnN k x = x := by
        rw [Pl.palB_yes x k hok] at hp; simpa using hp
      have F1 : Hid (Pl.turnI x k = (x : Int)) := Lib.hid (by rw [Pl.turnI_yes x k hok (by rw [hpal]; exact hx), hpal])
      have F2 := Lib.hid (longI_nat x k hok)
      have hlast : 1 ≤ x → 0 < (x : Int) % (k : Int) := fun h => by
        have := Pl.pal_last k1 h hpal
        have e : (x : Int) % (k : Int) = ((x % k : Nat) : Int) := rfl
        omega
      have heven : (Pl.digsR k x).length % 2 = 0 → (x : Int) % ((k : Int) + 1) = 0 := fun h => by
        by_cases hx1 : 1 ≤ x
        · have := Pl.pal_even k1 hx1 hpal h
          have e : (x : Int) % ((k : Int) + 1) = ((x % (k + 1) : Nat) : Int) := rfl
          omega
        · obtain rfl : x = 0 := by omega
          simp
      have hk1' : (((k : Int) + 1) == 0) = false := by simp; omega
      have hkk : ((k : Int) == 0) = false := by simp; omega
      have hp' := Lib.hid hp
      clear hpal hok hp
      generalize (Pl.digsR k x).length = L at *
      have HLAST := Lib.hid hlast
      have HEVEN := Lib.hid heven
      clear hlast heven
      go_wp2_with fail
      refine (implPalindromeOk _ _ _).mono ?_
      rintro e w2 ⟨rfl, hb2⟩
      rw [hp'.out]
      go_wp2_with fail
      refine (specPalindromeOk _ _ _).mono ?_
      rintro e w3 ⟨rfl, rfl⟩
      rw [hp'.out]
      have c2 : Below w.heap.size w w2 := hb1.trans (hb2.mono hb1.size)
      clear hb1 hb2
      by_cases hx0 : x = 0
      · have hz : ((x : Int) == 0) = true := by rw [hx0]; rfl
        clear hx0
        by_cases hL : L % 2 = 1
        · have hL' : ((L : Int) % 2 == 1) = true := by simp; omega
          go_wp2_with fail
          refine (implLongOf _ _ _).mono ?_
          rintro e w4 ⟨rfl, hb4⟩
          rw [F2.out]
          go_wp2_with fail
          refine (implTurnedOf _ _ _).mono ?_
          rintro e w5 ⟨rfl, hb5⟩
          rw [F1.out]
          go_wp2
          go_ret
          have c4 := c2.trans (hb4.mono c2.size)
          exact ⟨rfl, c4.trans (hb5.mono c4.size)⟩
        · have hL' : ((L : Int) % 2 == 1) = false := by simp; omega
          have hE := HEVEN.out (by omega)
          go_wp2_with fail
          refine (implLongOf _ _ _).mono ?_
          rintro e w4 ⟨rfl, hb4⟩
          rw [F2.out]
          go_wp2_with fail
          refine (implTurnedOf _ _ _).mono ?_
          rintro e w5 ⟨rfl, hb5⟩
          rw [F1.out]
          go_wp2
          go_ret
          have c4 := c2.trans (hb4.mono c2.size)
          exact ⟨rfl, c4.trans (hb5.mono c4.size)⟩
      · have hz : ((x : Int) == 0) = false := by simp; omega
        have hA := HLAST.out (by omega)
        by_cases hL : L % 2 = 1
        · have hL' : ((L : Int) % 2 == 1) = true := by simp; omega
          go_wp2_with fail
          refine (implLongOf _ _ _).mono ?_
          rintro e w4 ⟨rfl, hb4⟩
          rw [F2.out]
          go_wp2_with fail
          refine (implTurnedOf _ _ _).mono ?_
          rintro e w5 ⟨rfl, hb5⟩
          rw [F1.out]
          go_wp2
          go_ret
          have c4 := c2.trans (hb4.mono c2.size)
          exact ⟨rfl, c4.trans (hb5.mono c4.size)⟩
        · have hL' : ((L : Int) % 2 == 1) = false := by simp; omega
          have hE := HEVEN.out (by omega)
          go_wp2_with fail
          refine (implLongOf _ _ _).mono ?_
          rintro e w4 ⟨rfl, hb4⟩
          rw [F2.out]
          go_wp2_with fail
          refine (implTurnedOf _ _ _).mono ?_
          rintro e w5 ⟨rfl, hb5⟩
          rw [F1.out]
          go_wp2
          go_ret
          have c4 := c2.trans (hb4.mono c2.size)
          exact ⟨rfl, c4.trans (hb5.mono c4.size)⟩
    · have hp' : Hid (Pl.palB n b = false) := Lib.hid (by simpa using hp)
      clear hp
      go_wp2_with fail
      refine (implPalindromeOk _ _ _).mono ?_
      rintro e w2 ⟨rfl, hb2⟩
      rw [hp'.out]
      go_wp2_with fail
      refine (specPalindromeOk _ _ _).mono ?_
      rintro e w3 ⟨rfl, rfl⟩
      rw [hp'.out]
      go_wp2_with (go_at_call 18; refine (alive _).mono ?_; rintro e w' ⟨rfl, rfl⟩)
      go_ret
      exact ⟨rfl, hb1.trans (hb2.mono hb1.size)⟩

set_option maxRecDepth 100000 in
set_option maxHeartbeats 2000000 in
theorem FnNextPalindrome_walk (a0 : Option Addr) (len0 cap0 : Nat) (z0 : List Int) (w : World) (w0 : IsRow .u8 w a0 len0 cap0 z0) :
    Calls Try.prog 6 #[.slice a0 len0 cap0] w fun e w' => e = .returned (.bool true) ∧ Below w.heap.size w w' := by
  by_cases hl : 1048576 < len0
  · go_enter Try.func6, Try.ntmps6
    go_wp2
    go_ret
    exact ⟨rfl, Below.refl _ _⟩
  · go_enter Try.func6, Try.ntmps6
    go_wp2_with fail
    refine (drawNextPalindrome _ _ _ _ _ w0).mono ?_
    rintro e w1 ⟨n, b, rfl, ⟨n1, n2⟩, ⟨b1, b2⟩, hb1⟩
    clear w0 hl
    by_cases h : nextP n b
    · obtain ⟨x, k, m, rfl, rfl, h1, h2, h3, hm⟩ := nextP_nat h
      have HS := Lib.hid (specNextPalYes x k m h1 h2 h3 hm)
      have HI := Lib.hid (implNextPalYes x k m h1 h2 h3 hm)
      have hmn := hm.more
      have hms := hm.small
      have HM := Lib.hid hm
      have HEND : Hid (Pl.palB m k = true) := Lib.hid (by rw [Pl.palB_yes m k (by rw [Pl.okB_iff]; omega)]; simp [hm.pal])
      clear h hm
      go_wp2_with fail
      refine (HI.out _).mono ?_
      rintro e w2 ⟨rfl, hb2⟩
      go_wp2_with fail
      refine (HS.out _).mono ?_
      rintro e w3 ⟨rfl, rfl⟩
      have c2 : Below w.heap.size w w2 := hb1.trans (hb2.mono hb1.size)
      clear hb1 hb2 HS HI
      go_wp2_with fail
      go_loopw [6] (fun jv wr => ∃ j : Nat, jv = .int .i64 j ∧ x < j ∧ j ≤ m ∧ Below w.heap.size w wr) (fun jv _ => m - (intOf jv).toNat)
      case atStart => exact ⟨x + 1, by go_num, by omega, by omega, c2⟩
      case round =>
        clear c2
        obtain ⟨j, rfl, hj1, hj2, hbw⟩ := hrel
        by_cases hgo : j < m ∧ j ≤ x + 200
        · obtain ⟨g1, g2⟩ := hgo
          have i1 : (j : Int) < (m : Int) := by omega
          have i2 : (j : Int) ≤ (x : Int) + 200 := by omega
          have hno : Pl.palB j k = false := by
            rw [Pl.palB_yes j k (by rw [Pl.okB_iff]; omega)]
            simpa using HM.out.least j hj1 g1
          go_wp2_with (go_at_call 21; refine (implPalindromeOk _ _ _).mono ?_; rintro e w4 ⟨rfl, hb4⟩; rw [hno])
          go_roundw
          case rel => exact ⟨j + 1, by go_num, by omega, by omega, hbw.trans (hb4.mono hbw.size)⟩
          case measure => simp [intOf]; omega
        · by_cases g1 : j < m
          · have i1 : (j : Int) < (m : Int) := by omega
            have i2 : ¬ (j : Int) ≤ (x : Int) + 200 := by omega
            have i3 : (x : Int) < (m : Int) := by omega
            go_wp2_with (go_at_call 21; refine (implPalindromeOk _ _ _).mono ?_; rintro e w4 ⟨rfl, hb4⟩; rw [HEND.out])
            go_ret
            exact ⟨rfl, hbw.trans (hb4.mono hbw.size)⟩
          · have i1 : ¬ (j : Int) < (m : Int) := by omega
            have i3 : (x : Int) < (m : Int) := by omega
            go_wp2_with (go_at_call 21; refine (implPalindromeOk _ _ _).mono ?_; rintro e w4 ⟨rfl, hb4⟩; rw [HEND.out])
            go_ret
            exact ⟨rfl, hbw.trans (hb4.mono hbw.size)⟩
    · have HS := Lib.hid (specNextPalNo n b h)
      have HI := Lib.hid (implNextPalNo n b h)
      clear h
      go_wp2_with fail
      refine (HI.out _).mono ?_
      rintro e w2 ⟨rfl, rfl⟩
      go_wp2_with fail
      refine (HS.out _).mono ?_
      rintro e w3 ⟨rfl, rfl⟩
      go_wp2_with (go_at_call 18; refine (alive _).mono ?_; rintro e w' ⟨rfl, rfl⟩)
      go_ret
      exact ⟨rfl, hb1⟩

namespace Pl

theorem stepsN_pal {b : Nat} : ∀ f n s l, n ≤ 1000000000 → stepsN b f n = some (s, l) → turnN b l = l ∧ l ≤ 1000000000 ∧ s ≤ f := by
  intro f
  induction f with
  | zero => intro n s l _ h; simp [stepsN] at h
  | succ f ih =>
    intro n s l hn h
    rw [stepsN] at h
    by_cases hp : turnN b n = n
    · rw [if_pos hp] at h
      simp at h
      obtain ⟨h1, h2⟩ := h
      subst h2
      exact ⟨hp, hn, by omega⟩
    · rw [if_neg hp] at h
      by_cases hs : n + turnN b n ≤ 1000000000
      · rw [if_pos hs] at h
        cases hq : stepsN b f (n + turnN b n) with
        | none => rw [hq] at h; simp at h
        | some q =>
          rw [hq] at h
          obtain ⟨s', l'⟩ := q
          simp at h
          obtain ⟨h1, h2⟩ := h
          obtain ⟨g1, g2, g3⟩ := ih _ s' l' hs hq
          subst h2
          exact ⟨g1, g2, by omega⟩
      · rw [if_neg hs] at h; simp at h

end Pl

set_option maxRecDepth 100000 in
set_option maxHeartbeats 2000000 in
theorem FnStepsToPalindrome_walk (a0 : Option Addr) (len0 cap0 : Nat) (z0 : List Int) (w : World) (w0 : IsRow .u8 w a0 len0 cap0 z0) :
    Calls Try.prog 8 #[.slice a0 len0 cap0] w fun e w' => e = .returned (.bool true) ∧ Below w.heap.size w w' := by
  by_cases hl : 1048576 < len0
  · go_enter Try.func8, Try.ntmps8
    go_wp2
    go_ret
    exact ⟨rfl, Below.refl _ _⟩
  · go_enter Try.func8, Try.ntmps8
    go_wp2_with fail
    refine (drawStepsToPalindrome _ _ _ _ _ w0).mono ?_
    rintro e w1 ⟨n, b, rfl, ⟨n1, n2⟩, ⟨b1, b2⟩, hb1⟩
    clear w0 hl
    have HI := Lib.hid (implPalSteps n b)
    have HS := Lib.hid (specPalSteps n b)
    cases hA : Pl.stepsA n b with
    | none =>
      rw [hA] at HI HS
      clear hA
      go_wp2_with fail
      refine (HI.out _).mono ?_
      rintro e w2 ⟨rfl, hb2⟩
      go_wp2_with fail
      refine (HS.out _).mono ?_
      rintro e w3 ⟨rfl, rfl⟩
      simp only [Pl.stK, Pl.stL, Pl.stB]
      go_wp2_with (go_at_call 18; refine (alive _).mono ?_; rintro e w' ⟨rfl, rfl⟩)
      go_ret
      exact ⟨rfl, hb1.trans (hb2.mono hb1.size)⟩
    | some q =>
      obtain ⟨s, l⟩ := q
      rw [hA] at HI HS
      have hok : Pl.okB n b = true := Classical.byContradiction fun hno => by rw [Pl.stepsA_no hno] at hA; cases hA
      obtain ⟨x, k, rfl, rfl, k1, k2, hx⟩ := Pl.okB_nat hok
      rw [Pl.stepsA_yes x k hok] at hA
      obtain ⟨g1, g2, g3⟩ := Pl.stepsN_pal 1000000001 x s l hx hA
      have HEND : Hid (Pl.palB l k = true) := Lib.hid (by rw [Pl.palB_yes l k (by rw [Pl.okB_iff]; omega)]; simp [g1])
      by_cases hp : Pl.turnN k x = x
      · have hpal : Hid (Pl.palB x k = true) := Lib.hid (by rw [Pl.palB_yes x k hok]; simp [hp])
        rw [Pl.stepsO_pal hp] at hA
        simp at hA
        obtain ⟨rfl, rfl⟩ := hA
        clear hp g1 hok
        go_wp2_with fail
        refine (HI.out _).mono ?_
        rintro e w2 ⟨rfl, hb2⟩
        go_wp2_with fail
        refine (HS.out _).mono ?_
        rintro e w3 ⟨rfl, rfl⟩
        simp only [Pl.stK, Pl.stL, Pl.stB]
        have c2 : Below w.heap.size w w2 := hb1.trans (hb2.mono hb1.size)
        go_wp2_with (go_at_call 21; refine (implPalindromeOk _ _ _).mono ?_; rintro e w4 ⟨rfl, hb4⟩; rw [hpal.out])
        go_ret
        exact ⟨rfl, c2.trans (hb4.mono c2.size)⟩
      · have hpal : Hid (Pl.palB x k = false) := Lib.hid (by rw [Pl.palB_yes x k hok]; simp [hp])
        have hs : x + Pl.turnN k x ≤ 1000000000 := Classical.byContradiction fun hno => by rw [Pl.stepsO_big hp hno] at hA; cases hA
        rw [Pl.stepsO_more k1 hp hs] at hA
        obtain ⟨e1, e2⟩ := Pl.added_yes hok hs
        have hokm : Pl.okB ((x + Pl.turnN k x : Nat) : Int) k = true := by rw [Pl.okB_iff]; omega
        have hA2 := Pl.stepsA_yes (x + Pl.turnN k x) k hokm
        obtain ⟨M, hM⟩ : ∃ M, x + Pl.turnN k x = M := ⟨_, rfl⟩
        rw [hM] at hA hs e1 hA2
        have HI2 := Lib.hid (implPalSteps (M : Int) k)
        rw [hA2] at HI2
        cases hq : Pl.stepsO k M with
        | none => rw [hq] at hA; simp at hA
        | some q2 =>
          obtain ⟨s', l'⟩ := q2
          rw [hq] at hA HI2
          simp at hA
          obtain ⟨rfl, rfl⟩ := hA
          have HA := Lib.hid e1
          have HB := Lib.hid e2
          clear hp g1 hok hokm hM hA2 hq e1 e2
          go_wp2_with fail
          refine (HI.out _).mono ?_
          rintro e w2 ⟨rfl, hb2⟩
          go_wp2_with fail
          refine (HS.out _).mono ?_
          rintro e w3 ⟨rfl, rfl⟩
          simp only [Pl.stK, Pl.stL, Pl.stB]
          have c2 : Below w.heap.size w w2 := hb1.trans (hb2.mono hb1.size)
          have i1 : (((s' + 1 : Nat) : Int) == 0) = false := by simp; omega
          have i2 : ((s' + 1 : Nat) : Int) - 1 = (s' : Int) := by omega
          clear hb1 hb2
          go_wp2_with fail
          refine (implAddedTurned _ _ _).mono ?_
          rintro e w4 ⟨rfl, hb4⟩
          rw [HA.out, HB.out]
          have c4 : Below w.heap.size w w4 := c2.trans (hb4.mono c2.size)
          go_wp2_with fail
          refine (HI2.out _).mono ?_
          rintro e w5 ⟨rfl, hb5⟩
          simp only [Pl.stK, Pl.stL, Pl.stB]
          have c5 : Below w.heap.size w w5 := c4.trans (hb5.mono c4.size)
          clear c2 c4 hb4 hb5
          go_wp2_with fail
          refine (implPalindromeOk _ _ _).mono ?_
          rintro e w6 ⟨rfl, hb6⟩
          rw [hpal.out]
          have c6 : Below w.heap.size w w6 := c5.trans (hb6.mono c5.size)
          go_wp2_with fail
          refine (implPalindromeOk _ _ _).mono ?_
          rintro e w7 ⟨rfl, hb7⟩
          rw [HEND.out]
          go_wp2
          go_ret
          exact ⟨rfl, c6.trans (hb7.mono c6.size)⟩

end Go.Proofs.Ytaocefdannjlhaa
