/-
  The walks of the laws of chapter 3: sums of powers, happy numbers, the greatest stay.
-/
import Derived.Test.YthpimanfkbeanaaNextOf
import Derived.Test.YthpimanfkbeanaaHappy
import Derived.Test.YthpimanfkbeanaaStay
import Derived.Test.YthpimanfkbeanaaDraws4
import Derived.Test.YthpimanfkbeanaaWLBehind
namespace Go.Proofs.Ythpimanfkbeanaa
open Go.RowKit

theorem Pl.next_nought {x s k : Nat} (hR : Pl.RuleOk s k) : Pl.nextI ((x * k : Nat) : Int) s k < 0 ∨ Pl.nextI ((x * k : Nat) : Int) s k = (Pl.nextN s k x : Int) := by
  by_cases ho : Pl.okT ((x * k : Nat) : Int) s k = true
  · right; rw [Pl.nextI_yes (x * k) s k ho, Pl.nextN_nought hR.t1 hR.b1]
  · left; rw [Pl.nextI_no ho]; decide

theorem Pl.next_once {x s k : Nat} (hR : Pl.RuleOk s k) (hx : x ≤ 1000000000) : Pl.nextI (x : Int) 1 k = Pl.sumI (x : Int) k := by
  have h1 : Pl.okT ((x : Nat) : Int) ((1 : Nat) : Int) k = true := Pl.okT_of ⟨by omega, by omega, hR.b1, hR.b2⟩ hx
  have h2 : Pl.okB ((x : Nat) : Int) k = true := by rw [Pl.okT, Bool.and_eq_true] at h1; exact h1.2
  rw [show (1 : Int) = ((1 : Nat) : Int) from rfl, Pl.nextI_yes x 1 k h1, Pl.sumI_yes x k h2, Pl.nextN_one hR.b1]

theorem Pl.next_twice {x s k y : Nat} (hR : Pl.RuleOk s k) (h : behindO (x : Int) (x : Int) (k : Int) = some y) : Pl.nextI (y : Int) s k = 2 * (Pl.nextN s k x : Int) := by
  obtain ⟨p, q, k', hp, hq, hk, k1, k2, h1, h2, hy, _, _, hval⟩ := behind_some h
  obtain rfl : x = p := Int.ofNat.inj hp
  obtain rfl : x = q := Int.ofNat.inj hq
  obtain rfl : k = k' := Int.ofNat.inj hk
  rw [Pl.nextI_yes y s k (Pl.okT_of hR hy), hval, Pl.nextN_behind hR.t1 hR.b1 x _ x (Pl.lt_pow_len hR.b1 x)]
  omega

set_option maxHeartbeats 1000000 in
theorem FnNextOf_walk (a0 : Option Addr) (len0 cap0 : Nat) (z0 : List Int) (w : World) (w0 : IsRow .u8 w a0 len0 cap0 z0) :
    Calls Try.prog 3 #[.slice a0 len0 cap0] w fun e w' => e = .returned (.bool true) ∧ Below w.heap.size w w' := by
  by_cases hl : 1048576 < len0
  · go_enter Try.func3, Try.ntmps3
    go_wp2
    go_ret
    exact ⟨rfl, Below.refl _ _⟩
  · go_enter Try.func3, Try.ntmps3
    go_wp2_with fail
    refine (drawNextOf _ _ _ _ _ w0).mono ?_
    rintro e w1 ⟨n, t, b, rfl, ⟨n1, n2⟩, _, _, hb1⟩
    clear w0 hl
    go_wp2_with fail
    refine (implNextOf _ _ _ _).mono ?_
    rintro e w2 ⟨rfl, hb2⟩
    go_wp2_with fail
    refine (specNextOf _ _ _ _).mono ?_
    rintro e w3 ⟨rfl, rfl⟩
    have c2 : Below w.heap.size w w2 := hb1.trans (hb2.mono hb1.size)
    clear hb1 hb2
    by_cases hok : Pl.okT n t b = true
    · obtain ⟨x, s, k, rfl, rfl, rfl, hR, hx⟩ := Pl.okT_nat hok
      rw [Pl.nextI_yes x s k hok]
      have hm := Pl.next_le hR hx
      have hk2 := hR.b2
      have f1 := Pl.next_nought (x := x) hR
      have F2 := Lib.hid (Pl.next_once hR hx)
      have F3 : ∀ y, behindO (x : Int) (x : Int) (k : Int) = some y → Pl.nextI (y : Int) s k = 2 * (Pl.nextN s k x : Int) := fun y h => Pl.next_twice hR h
      have hq : x * k ≤ 16000000000 := by
        have := Nat.mul_le_mul hx hk2; omega
      have e1 : IntKind.i64.wrap ((x : Int) * (k : Int)) = ((x * k : Nat) : Int) := by
        rw [← Int.natCast_mul]; exact IntWalk.i64_in _ (by omega)
      have hs0 := Pl.sumI (x : Int) k
      clear hok n1 n2
      generalize x * k = q at *
      generalize Pl.nextN s k x = m at *
      generalize hN : Pl.nextI (q : Int) s k = N at *
      have HN := Lib.hid hN
      clear hN hs0
      cases hBe : behindO (x : Int) (x : Int) (k : Int) with
      | none =>
        have HBe := Lib.hid hBe
        clear hBe F3
        rcases f1 with f1 | rfl
        all_goals
          go_wp2_with fail
          refine (implNextOf _ _ _ _).mono ?_
          rintro e w4 ⟨rfl, hb4⟩
          rw [HN.out]
          have c4 := c2.trans (hb4.mono c2.size)
          go_wp2_with fail
          refine (implBehindOf _ _ _ _).mono ?_
          rintro e w5 ⟨rfl, hb5⟩
          rw [HBe.out, show Pl.wV none = -1 from rfl, show Pl.wB none = false from rfl]
          have c5 := c4.trans (hb5.mono c4.size)
          go_wp2_with fail
          refine (implNextOf _ _ _ _).mono ?_
          rintro e w6 ⟨rfl, hb6⟩
          rw [F2.out]
          have c6 := c5.trans (hb6.mono c5.size)
          go_wp2_with fail
          refine (implSumOf _ _ _).mono ?_
          rintro e w7 ⟨rfl, hb7⟩
          have c7 := c6.trans (hb7.mono c6.size)
          go_wp2_with fail
          go_ret
          exact ⟨rfl, c7⟩
      | some y =>
        have HBe := Lib.hid hBe
        have F4 := Lib.hid (F3 y hBe)
        clear hBe F3
        rcases f1 with f1 | rfl
        all_goals
          go_wp2_with fail
          refine (implNextOf _ _ _ _).mono ?_
          rintro e w4 ⟨rfl, hb4⟩
          rw [HN.out]
          have c4 := c2.trans (hb4.mono c2.size)
          go_wp2_with fail
          refine (implBehindOf _ _ _ _).mono ?_
          rintro e w5 ⟨rfl, hb5⟩
          rw [HBe.out, show Pl.wV (some y) = (y : Int) from rfl, show Pl.wB (some y) = true from rfl]
          have c5 := c4.trans (hb5.mono c4.size)
          go_wp2_with fail
          refine (implNextOf _ _ _ _).mono ?_
          rintro e w6 ⟨rfl, hb6⟩
          rw [F2.out]
          have c6 := c5.trans (hb6.mono c5.size)
          go_wp2_with fail
          refine (implSumOf _ _ _).mono ?_
          rintro e w7 ⟨rfl, hb7⟩
          have c7 := c6.trans (hb7.mono c6.size)
          go_wp2_with fail
          refine (implNextOf _ _ _ _).mono ?_
          rintro e w8 ⟨rfl, hb8⟩
          rw [F4.out]
          have c8 := c7.trans (hb8.mono c7.size)
          go_wp2_with fail
          go_ret
          exact ⟨rfl, c8⟩
    · rw [Pl.nextI_no hok]
      go_wp2_with (go_at_call 16; refine (alive _).mono ?_; rintro e w' ⟨rfl, rfl⟩)
      go_ret
      exact ⟨rfl, c2⟩

set_option maxHeartbeats 1000000 in
theorem FnGreatestStay_walk (a0 : Option Addr) (len0 cap0 : Nat) (z0 : List Int) (w : World) (w0 : IsRow .u8 w a0 len0 cap0 z0) :
    Calls Try.prog 6 #[.slice a0 len0 cap0] w fun e w' => e = .returned (.bool true) ∧ Below w.heap.size w w' := by
  by_cases hl : 1048576 < len0
  · go_enter Try.func6, Try.ntmps6
    go_wp2
    go_ret
    exact ⟨rfl, Below.refl _ _⟩
  · go_enter Try.func6, Try.ntmps6
    go_wp2_with fail
    refine (drawGreatestStay _ _ _ _ _ w0).mono ?_
    rintro e w1 ⟨t, b, rfl, _, _, hb1⟩
    clear w0 hl
    go_wp2_with fail
    refine (implGreatestStay _ _ _).mono ?_
    rintro e w2 ⟨rfl, hb2⟩
    go_wp2_with fail
    refine (specGreatestStay _ _ _).mono ?_
    rintro e w3 ⟨rfl, rfl⟩
    have c2 : Below w.heap.size w w2 := hb1.trans (hb2.mono hb1.size)
    clear hb1 hb2
    by_cases hok : Pl.ruleB t b = true
    · obtain ⟨s, k, rfl, rfl, hR⟩ := Pl.ruleB_nat hok
      rw [Pl.stayI_yes s k hok]
      obtain ⟨hS, hS3, _, _⟩ := Pl.stay_spec hR.t1 hR.t2 hR.b1 hR.b2
      have hk1 := hR.b1
      have hk2 := hR.b2
      have hkS : k ≤ k ^ Pl.stayL s k := by
        have := Nat.pow_le_pow_right (show 0 < k by omega) hS.pos
        rwa [Nat.pow_one] at this
      have F : Hid (∀ K : Nat, Pl.nextI ((k ^ Pl.stayL s k - 1 + K : Nat) : Int) s k < ((k ^ Pl.stayL s k - 1 + K : Nat) : Int)) := Lib.hid fun K => by
        by_cases ho : Pl.okT ((k ^ Pl.stayL s k - 1 + K : Nat) : Int) s k = true
        · rw [Pl.nextI_yes _ s k ho]
          have := Pl.nextN_less hR.t1 hk1 hS (k ^ Pl.stayL s k - 1 + K) (by omega)
          omega
        · rw [Pl.nextI_no ho]; omega
      clear hS hok
      generalize hX : k ^ Pl.stayL s k - 1 = X at *
      have hX1 : (k : Int) - 1 ≤ (X : Int) := by omega
      have hX2 : (X : Int) ≤ 1000000000 := by omega
      clear hkS hS3 hX
      go_wp2_with fail
      go_loopw [6, 7] (fun i _ wr => ∃ K : Nat, K ≤ 51 ∧ i = .int .i64 K ∧ Below w.heap.size w wr) (fun i _ _ => 51 - (intOf i).toNat)
      case atStart => exact ⟨0, by omega, rfl, c2⟩
      case round =>
        obtain ⟨K, hK, rfl, hbw⟩ := hrel
        by_cases hK2 : K ≤ 50
        · have h1 := F.out K
          rw [Int.natCast_add] at h1
          generalize hN : Pl.nextI ((X : Int) + (K : Int)) s k = N at *
          have HN := Lib.hid hN
          clear hN
          generalize hXi : (X : Int) = XI at *
          have hK3 : (K : Int) ≤ 50 := by omega
          go_wp2_with fail
          refine (implNextOf _ _ _ _).mono ?_
          rintro e w4 ⟨rfl, hb4⟩
          rw [HN.out]
          go_wp2_with fail
          go_roundw
          case rel => exact ⟨K + 1, by omega, by simp, hbw.trans (hb4.mono hbw.size)⟩
          case measure => simp [intOf]; omega
        · have hK3 : ¬ (K : Int) ≤ 50 := by omega
          go_wp2_with (go_at_call 16; refine (alive _).mono ?_; rintro e w' ⟨rfl, rfl⟩)
          go_ret
          exact ⟨rfl, hbw⟩
    · rw [Pl.stayI_no hok]
      go_wp2_with (go_at_call 16; refine (alive _).mono ?_; rintro e w' ⟨rfl, rfl⟩)
      go_ret
      exact ⟨rfl, c2⟩

end Go.Proofs.Ythpimanfkbeanaa
