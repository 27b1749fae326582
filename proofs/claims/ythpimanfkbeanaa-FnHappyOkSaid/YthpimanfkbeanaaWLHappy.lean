/-
  The walk of the law of happy numbers.
-/
import Derived.Test.YthpimanfkbeanaaHappy
import Derived.Test.YthpimanfkbeanaaDraws4
namespace Go.Proofs.Ythpimanfkbeanaa
open Go.RowKit

theorem Pl.rule2 {k : Nat} (h1 : 2 ≤ k) (h2 : k ≤ 16) : Pl.RuleOk 2 k := ⟨by omega, by omega, h1, h2⟩

theorem Pl.happy_iff {x k : Nat} (h1 : 2 ≤ k) (h2 : k ≤ 16) (hx : x ≤ 1000000000) : Pl.happyB x k = true ↔ Pl.InRound (Pl.nextN 2 k) x 1 := by
  have hR := Pl.rule2 h1 h2
  obtain ⟨hr, _, _⟩ := Pl.next_round hR hx
  unfold Pl.happyB
  rw [decide_eq_true_iff, show (2 : Int) = ((2 : Nat) : Int) from rfl, Pl.roundA_yes x 2 k (Pl.okT_of hR hx), ← Pl.round_one (Pl.nextN_self h1) hr]
  constructor
  · intro h
    have hl := congrArg List.length h
    rw [Pl.ints_len] at hl
    match hL : Pl.roundL (Pl.nextN 2 k) x, hl with
    | [a], _ =>
      rw [hL] at h
      have : (a : Int) = 1 := by simpa [Pl.ints] using h
      have : a = 1 := by omega
      rw [this]
  · intro h; rw [h]; rfl

theorem Pl.happy_next {x k : Nat} (h1 : 2 ≤ k) (h2 : k ≤ 16) (hx : x ≤ 1000000000) : Pl.happyB ((Pl.nextN 2 k x : Nat) : Int) k = Pl.happyB x k := by
  have := Pl.next_le (Pl.rule2 h1 h2) hx
  rw [Bool.eq_iff_iff, Pl.happy_iff h1 h2 (by omega), Pl.happy_iff h1 h2 hx, ← Pl.inRound_next]

theorem Pl.happy_nought {x k : Nat} (h1 : 2 ≤ k) (h2 : k ≤ 16) (hx : x ≤ 1000000000) (hq : x * k ≤ 1000000000) : Pl.happyB ((x * k : Nat) : Int) k = Pl.happyB x k := by
  rw [Bool.eq_iff_iff, Pl.happy_iff h1 h2 hq, Pl.happy_iff h1 h2 hx, Pl.inRound_next, Pl.nextN_nought (by omega) h1, ← Pl.inRound_next]

theorem Pl.happy_one {k : Nat} (h1 : 2 ≤ k) (h2 : k ≤ 16) : Pl.happyB ((1 : Nat) : Int) k = true := by
  rw [Pl.happy_iff h1 h2 (by omega)]
  exact ⟨Pl.back_one (Pl.nextN_self h1), 0, rfl⟩

theorem Pl.happy_no {n b : Int} (h : ¬ (Pl.baseB b = true ∧ 1 ≤ n ∧ n ≤ 1000000000)) : Pl.happyB n b = false := by
  by_cases ho : Pl.okT n 2 b = true
  · obtain ⟨x, s, k, rfl, hs, rfl, hR, hx⟩ := Pl.okT_nat ho
    obtain rfl : s = 2 := by omega
    have h0 : x = 0 := by
      have hb : Pl.baseB (k : Int) = true := by rw [Pl.baseB_iff]; have := hR.b1; have := hR.b2; omega
      refine Classical.byContradiction fun hne => h ⟨hb, by omega, by omega⟩
    subst h0
    rw [Bool.eq_false_iff]
    intro hh
    rw [Pl.happy_iff hR.b1 hR.b2 hx] at hh
    obtain ⟨_, i, hi⟩ := hh
    have : ∀ i, Pl.iter (Pl.nextN 2 k) i 0 = 0 := by
      intro i; induction i with
      | zero => rfl
      | succ i ih => show Pl.nextN 2 k (Pl.iter _ i 0) = 0; rw [ih, Pl.nextN_zero (by omega) hR.b1]
    rw [this i] at hi; cases hi
  · unfold Pl.happyB
    rw [Pl.roundA_no ho]; rfl

set_option maxHeartbeats 1000000 in
theorem FnHappyOk_walk (a0 : Option Addr) (len0 cap0 : Nat) (z0 : List Int) (w : World) (w0 : IsRow .u8 w a0 len0 cap0 z0) :
    Calls Try.prog 5 #[.slice a0 len0 cap0] w fun e w' => e = .returned (.bool true) ∧ Below w.heap.size w w' := by
  by_cases hl : 1048576 < len0
  · go_enter Try.func5, Try.ntmps5
    go_wp2
    go_ret
    exact ⟨rfl, Below.refl _ _⟩
  · go_enter Try.func5, Try.ntmps5
    go_wp2_with fail
    refine (drawHappyOk _ _ _ _ _ w0).mono ?_
    rintro e w1 ⟨n, b, rfl, ⟨n1, n2⟩, _, hb1⟩
    clear w0 hl
    go_wp2_with fail
    refine (implHappyOk _ _ _).mono ?_
    rintro e w2 ⟨rfl, hb2⟩
    go_wp2_with fail
    refine (specHappyOk _ _ _).mono ?_
    rintro e w3 ⟨rfl, hb3⟩
    have c2 : Below w.heap.size w w2 := hb1.trans (hb2.mono hb1.size)
    have c3 : Below w.heap.size w w3 := c2.trans (hb3.mono c2.size)
    clear hb1 hb2 hb3
    by_cases hok : Pl.baseB b = true ∧ 1 ≤ n ∧ n ≤ 1000000000
    · obtain ⟨hB, n3, n4⟩ := hok
      obtain ⟨x, rfl⟩ := Int.eq_ofNat_of_zero_le (show 0 ≤ n by omega)
      have hB' := (Pl.baseB_iff b).1 hB
      obtain ⟨k, rfl⟩ := Int.eq_ofNat_of_zero_le (show 0 ≤ b by omega)
      have k1 : 2 ≤ k := by omega
      have k2 : k ≤ 16 := by omega
      have hx : x ≤ 1000000000 := by omega
      have hN : Hid (Pl.nextI (x : Int) 2 k = ((Pl.nextN 2 k x : Nat) : Int)) := Lib.hid (Pl.nextI_yes x 2 k (Pl.okT_of (Pl.rule2 k1 k2) hx))
      have H1 := Lib.hid (Pl.happy_next k1 k2 hx)
      have H2 := Lib.hid (fun h => Pl.happy_nought k1 k2 hx h)
      have H3 : Hid (Pl.happyB 1 k = true) := Lib.hid (Pl.happy_one k1 k2)
      have hq : x * k ≤ 16000000000 := by
        have := Nat.mul_le_mul hx k2; omega
      have e1 : IntKind.i64.wrap ((x : Int) * (k : Int)) = ((x * k : Nat) : Int) := by
        rw [← Int.natCast_mul]; exact IntWalk.i64_in _ (by omega)
      clear n1 n2
      generalize x * k = q at *
      generalize Pl.nextN 2 k x = y at *
      generalize hH : Pl.happyB (x : Int) k = H at *
      clear hH
      have hx1 : 1 ≤ (x : Int) := by omega
      have hx2 : (x : Int) ≤ 1000000000 := by omega
      by_cases hq2 : (q : Int) ≤ 1000000000
      · cases H
        all_goals
          go_wp2_with (go_at_call 28; refine (specBaseOk _ _).mono ?_; rintro e w' ⟨rfl, rfl⟩)
          refine (implHappyOk _ _ _).mono ?_
          rintro e w4 ⟨rfl, hb4⟩
          rw [H2.out (by omega)]
          have c4 := c3.trans (hb4.mono c3.size)
          go_wp2_with fail
          refine (specNextOf _ _ _ _).mono ?_
          rintro e w5 ⟨rfl, rfl⟩
          rw [hN.out]
          go_wp2_with fail
          refine (implHappyOk _ _ _).mono ?_
          rintro e w6 ⟨rfl, hb6⟩
          rw [H1.out]
          have c6 := c4.trans (hb6.mono c4.size)
          go_wp2_with fail
          refine (implHappyOk _ _ _).mono ?_
          rintro e w7 ⟨rfl, hb7⟩
          rw [H3.out]
          have c7 := c6.trans (hb7.mono c6.size)
          go_wp2_with fail
          go_ret
          exact ⟨rfl, c7⟩
      · cases H
        all_goals
          go_wp2_with (go_at_call 28; refine (specBaseOk _ _).mono ?_; rintro e w' ⟨rfl, rfl⟩)
          refine (specNextOf _ _ _ _).mono ?_
          rintro e w5 ⟨rfl, rfl⟩
          rw [hN.out]
          go_wp2_with fail
          refine (implHappyOk _ _ _).mono ?_
          rintro e w6 ⟨rfl, hb6⟩
          rw [H1.out]
          have c6 := c3.trans (hb6.mono c3.size)
          go_wp2_with fail
          refine (implHappyOk _ _ _).mono ?_
          rintro e w7 ⟨rfl, hb7⟩
          rw [H3.out]
          have c7 := c6.trans (hb7.mono c6.size)
          go_wp2_with fail
          go_ret
          exact ⟨rfl, c7⟩
    · rw [Pl.happy_no hok]
      by_cases hB : Pl.baseB b = true
      · by_cases hn1 : n < 1
        · clear hok
          go_wp2_with (first | (go_at_call 28; refine (specBaseOk _ _).mono ?_; rintro e w' ⟨rfl, rfl⟩) | (go_at_call 16; refine (alive _).mono ?_; rintro e w' ⟨rfl, rfl⟩))
          go_ret
          exact ⟨rfl, c3⟩
        · have hn2 : 1000000000 < n := by
            refine Classical.byContradiction fun h => hok ⟨hB, by omega, by omega⟩
          clear hok
          go_wp2_with (first | (go_at_call 28; refine (specBaseOk _ _).mono ?_; rintro e w' ⟨rfl, rfl⟩) | (go_at_call 16; refine (alive _).mono ?_; rintro e w' ⟨rfl, rfl⟩))
          go_ret
          exact ⟨rfl, c3⟩
      · have hB' : Pl.baseB b = false := by simpa using hB
        clear hok hB
        go_wp2_with (first | (go_at_call 28; refine (specBaseOk _ _).mono ?_; rintro e w' ⟨rfl, rfl⟩) | (go_at_call 16; refine (alive _).mono ?_; rintro e w' ⟨rfl, rfl⟩))
        go_ret
        exact ⟨rfl, c3⟩

end Go.Proofs.Ythpimanfkbeanaa
