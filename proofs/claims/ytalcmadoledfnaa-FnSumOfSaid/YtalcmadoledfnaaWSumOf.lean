/-
  The walk of the law of SumOf: sums of digits are smaller.
-/
import Derived.Test.YtalcmadoledfnaaDigitsOf
import Derived.Test.YtalcmadoledfnaaDraws
namespace Go.Proofs.Ytalcmadoledfnaa
open Go.RowKit

set_option maxHeartbeats 1000000 in
theorem FnSumOf_walk (a0 : Option Addr) (len0 cap0 : Nat) (z0 : List Int) (w : World) (w0 : IsRow .u8 w a0 len0 cap0 z0) :
    Calls Try.prog 8 #[.slice a0 len0 cap0] w fun e w' => e = .returned (.bool true) ∧ Below w.heap.size w w' := by
  by_cases hl : 1048576 < len0
  · go_enter Try.func8, Try.ntmps8
    go_wp2
    go_ret
    exact ⟨rfl, Below.refl _ _⟩
  · go_enter Try.func8, Try.ntmps8
    go_wp2_with fail
    refine (drawSumOf _ _ _ _ _ w0).mono ?_
    rintro e w1 ⟨n, b, rfl, ⟨n1, n2⟩, ⟨b1, b2⟩, hb1⟩
    clear w0
    by_cases hok : Pl.okB n b = true
    · obtain ⟨x, k, rfl, rfl, k1, k2, hx⟩ := Pl.okB_nat hok
      go_wp2_with fail
      refine (implSumOf _ _ _).mono ?_
      rintro e w2 ⟨rfl, hb2⟩
      go_wp2_with fail
      refine (specSumOf _ _ _).mono ?_
      rintro e w3 ⟨rfl, rfl⟩
      rw [Pl.sumI_yes x k hok]
      have hS := Pl.sumD_le k1 x
      go_wp2_with fail
      refine (implSumOf _ _ _).mono ?_
      rintro e w4 ⟨rfl, hb4⟩
      have hN : x % k = k - 1 ∨ Pl.sumI ((x : Int) + 1) k < 0 ∨ Pl.sumI ((x : Int) + 1) k = (Pl.sumD k x : Int) + 1 := by
        by_cases hm : x % k = k - 1
        · exact .inl hm
        · by_cases ho : Pl.okB ((x + 1 : Nat) : Int) k = true
          · right; right
            have := Pl.sumI_yes (x + 1) k ho
            rw [show ((x : Int) + 1) = ((x + 1 : Nat) : Int) from rfl, this, Pl.sumD_succ k1 hm]; rfl
          · right; left
            rw [show ((x : Int) + 1) = ((x + 1 : Nat) : Int) from rfl, Pl.sumI_no ho]; decide
      have hbelow : Below w.heap.size w w4 := (hb1.trans (hb2.mono hb1.size)).trans (hb4.mono (Nat.le_trans hb1.size hb2.size))
      have HL := Lib.hid (longI_nat x k hok)
      have h1 := Pl.len_one (n := x) k1
      have hpos := Pl.digsR_pos k x
      have hless : k ≤ x → Pl.sumD k x < x := Pl.sumD_less k1
      have hlt : x < k → Pl.sumD k x = x := Pl.sumD_lt
      generalize Pl.sumI ((x : Int) + 1) k = N at *
      generalize Pl.sumD k x = S at *
      generalize (Pl.digsR k x).length = L at *
      have hk0 : ((k : Int) == 0) = false := by simp; omega
      have hx0 : 0 ≤ (x : Int) := by omega
      have hS0 : 0 ≤ (S : Int) := by omega
      have hM : ((x : Int) % (k : Int) == (k : Int) - 1) = true ∨ (((x : Int) % (k : Int) == (k : Int) - 1) = false ∧ (N < 0 ∨ N = (S : Int) + 1)) := by
        have e : (x : Int) % (k : Int) = ((x % k : Nat) : Int) := rfl
        rw [e]
        by_cases hm : x % k = k - 1
        · left; rw [hm]; simp; omega
        · right
          exact ⟨by simp; omega, hN.resolve_left hm⟩
      clear hN hok hl
      rcases Nat.lt_or_ge x k with hk | hk
      · obtain rfl : x = S := (hlt hk).symm
        obtain rfl : L = 1 := h1.2 hk
        clear hlt hless h1 hpos
        rcases hM with hM | ⟨hM, hN | rfl⟩
        all_goals
          go_wp2_with (first | (go_at_call 27; refine (implLongOf _ _ _).mono ?_; rintro e w5 ⟨rfl, hb5⟩; rw [HL.out]) | (go_at_call 22; refine (alive _).mono ?_; rintro e w' ⟨rfl, rfl⟩))
          go_ret
          exact ⟨rfl, hbelow.trans (hb5.mono hbelow.size)⟩
      · have e1 : ((S : Int) == (x : Int)) = false := by have := hless hk; simp; omega
        have e2 : ((L : Int) == 1) = false := by
          have : ¬ L = 1 := fun h => by have := h1.1 h; omega
          simp; omega
        clear hlt hless h1 hpos
        rcases hM with hM | ⟨hM, hN | rfl⟩
        all_goals
          go_wp2_with (first | (go_at_call 27; refine (implLongOf _ _ _).mono ?_; rintro e w5 ⟨rfl, hb5⟩; rw [HL.out]) | (go_at_call 22; refine (alive _).mono ?_; rintro e w' ⟨rfl, rfl⟩))
          go_ret
          exact ⟨rfl, hbelow.trans (hb5.mono hbelow.size)⟩
    · go_wp2_with fail
      refine (implSumOf _ _ _).mono ?_
      rintro e w2 ⟨rfl, hb2⟩
      go_wp2_with fail
      refine (specSumOf _ _ _).mono ?_
      rintro e w3 ⟨rfl, rfl⟩
      rw [Pl.sumI_no hok]
      go_wp2_with (go_at_call 22; refine (alive _).mono ?_; rintro e w' ⟨rfl, rfl⟩)
      go_ret
      exact ⟨rfl, hb1.trans (hb2.mono hb1.size)⟩

end Go.Proofs.Ytalcmadoledfnaa
