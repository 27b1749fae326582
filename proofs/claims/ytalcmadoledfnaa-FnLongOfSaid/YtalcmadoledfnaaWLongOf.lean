/-
  The walk of the law of LongOf: greater numbers have no fewer digits.
-/
import Derived.Test.YtalcmadoledfnaaDigitsOf
import Derived.Test.YtalcmadoledfnaaMathLen
import Derived.Test.YtalcmadoledfnaaDraws
namespace Go.Proofs.Ytalcmadoledfnaa
open Go.RowKit

set_option maxHeartbeats 1000000 in
theorem FnLongOf_walk (a0 : Option Addr) (len0 cap0 : Nat) (z0 : List Int) (w : World) (w0 : IsRow .u8 w a0 len0 cap0 z0) :
    Calls Try.prog 6 #[.slice a0 len0 cap0] w fun e w' => e = .returned (.bool true) ∧ Below w.heap.size w w' := by
  by_cases hl : 1048576 < len0
  · go_enter Try.func6, Try.ntmps6
    go_wp2
    go_ret
    exact ⟨rfl, Below.refl _ _⟩
  · go_enter Try.func6, Try.ntmps6
    go_wp2_with fail
    refine (drawLongOf _ _ _ _ _ w0).mono ?_
    rintro e w1 ⟨n, b, rfl, ⟨n1, n2⟩, ⟨b1, b2⟩, hb1⟩
    clear w0
    go_wp2_with fail
    refine (implLongOf _ _ _).mono ?_
    rintro e w2 ⟨rfl, hb2⟩
    go_wp2_with fail
    refine (specLongOf _ _ _).mono ?_
    rintro e w3 ⟨rfl, hb3⟩
    have c3 : Below w.heap.size w w3 := (hb1.trans (hb2.mono hb1.size)).trans (hb3.mono (Nat.le_trans hb1.size hb2.size))
    by_cases hok : Pl.okB n b = true
    · obtain ⟨x, k, rfl, rfl, k1, k2, hx⟩ := Pl.okB_nat hok
      rw [longI_nat x k hok]
      have hpos := Pl.digsR_pos k x
      have h30 := Pl.digsR_len30 k1 hx
      have hA : (Pl.digA x k).length = (Pl.digsR k x).length := by rw [Pl.digA_yes x k hok, Pl.digI_len]
      have hN : longI ((x : Int) + 1) k < 0 ∨ longI ((x : Int) + 1) k = ((Pl.digsR k x).length : Int) ∨ longI ((x : Int) + 1) k = ((Pl.digsR k x).length : Int) + 1 := by
        by_cases ho : Pl.okB ((x + 1 : Nat) : Int) k = true
        · rw [show ((x : Int) + 1) = ((x + 1 : Nat) : Int) from rfl, longI_nat _ k ho]
          rcases Pl.len_succ k1 x with h | h <;> rw [h]
          · exact .inr (.inl rfl)
          · exact .inr (.inr rfl)
        · left
          rw [show ((x : Int) + 1) = ((x + 1 : Nat) : Int) from rfl, longI, if_neg ho]; decide
      have hT : x = 0 ∨ longI ((x : Int) * k) k < 0 ∨ longI ((x : Int) * k) k = ((Pl.digsR k x).length : Int) + 1 := by
        by_cases h0 : x = 0
        · exact .inl h0
        · by_cases ho : Pl.okB ((x * k : Nat) : Int) k = true
          · right; right
            rw [show ((x : Int) * k) = ((x * k : Nat) : Int) from rfl, longI_nat _ k ho, Pl.len_mul k1 (by omega)]; rfl
          · right; left
            rw [show ((x : Int) * k) = ((x * k : Nat) : Int) from rfl, longI, if_neg ho]; decide
      have hm0 : 0 ≤ (x : Int) * (k : Int) := Int.mul_nonneg (by omega) (by omega)
      have hm1 : (x : Int) * (k : Int) ≤ 16000000000 := by
        have : (x : Int) * (k : Int) ≤ 1000000000 * 16 := Int.mul_le_mul (by omega) (by omega) (by omega) (by omega)
        omega
      have H1 := Lib.hid (implLongOf ((x : Int) + 1) k)
      have H2 := Lib.hid (implLongOf ((x : Int) * k) k)
      have H3 := Lib.hid (implDigitsOf x k)
      have HA := Lib.hid hA
      clear hA hok hl
      generalize longI ((x : Int) + 1) k = N at *
      generalize longI ((x : Int) * k) k = T at *
      generalize (Pl.digsR k x).length = L at *
      generalize Pl.digA x k = D at *
      go_wp2_with fail
      refine (H1.out _).mono ?_
      rintro e w4 ⟨rfl, hb4⟩
      go_wp2_with fail
      refine (H2.out _).mono ?_
      rintro e w5 ⟨rfl, hb5⟩
      go_wp2_with fail
      refine (H3.out _).mono ?_
      rintro e w6 ⟨v, rfl, hr, hb6⟩
      obtain ⟨a', cap', rfl⟩ := hr.shape
      rw [HA.out]
      have c4 := c3.trans (hb4.mono c3.size)
      have c5 := c4.trans (hb5.mono c4.size)
      have c6 := c5.trans (hb6.mono c5.size)
      clear hr
      have hL : 0 ≤ (L : Int) := by omega
      have hL' : (L : Int) ≤ 30 := by omega
      rcases hT with rfl | hT | rfl
      all_goals
        rcases hN with hN | rfl | rfl
        all_goals
          go_wp2
          all_goals
            go_ret
            first
              | exact ⟨rfl, c6⟩
              | exact ⟨ret_bool (by simp), c6⟩
    · rw [show longI n b = -1 from by rw [longI, if_neg hok]]
      go_wp2_with (go_at_call 22; refine (alive _).mono ?_; rintro e w' ⟨rfl, rfl⟩)
      go_ret
      exact ⟨rfl, c3⟩

end Go.Proofs.Ytalcmadoledfnaa
