/-
  The walk of the law of CarriesOf.
-/
import Derived.Test.YtcepbhmnbfaoeaaDraws11
import Derived.Test.YtcepbhmnbfaoeaaSpecCarry
import Derived.Test.YtcepbhmnbfaoeaaSumOf
import Derived.Test.YtcepbhmnbfaoeaaCarry
namespace Go.Proofs.Ytcepbhmnbfaoeaa
open Go.RowKit

/-- Carries, by sums of digits. -/
theorem Pl.carry_facts {b n m : Nat} (hb : 2 ≤ b) (hn : n ≤ 1000000000) (hm : m ≤ 1000000000) :
    ((Pl.carN b n m : Nat) : Int) * ((b : Int) - 1) = ((Pl.sumD b n : Nat) : Int) + ((Pl.sumD b m : Nat) : Int) - ((Pl.sumD b (n + m) : Nat) : Int) ∧ Pl.carN b m n = Pl.carN b n m ∧ Pl.carN b n 0 = 0 := by
  refine ⟨?_, Pl.carK_sym b 30 m n 0, Pl.carK_none hb 30 n⟩
  have h4 := Pl.carK_sum hb 30 n m 0 (by omega) (by omega) (by omega)
  rw [Nat.add_zero, Nat.add_zero] at h4
  show ((Pl.carK b 30 n m 0 : Nat) : Int) * ((b : Int) - 1) = _
  generalize Pl.carK b 30 n m 0 = C at *
  rw [show (b : Int) - 1 = ((b - 1 : Nat) : Int) by omega, ← Int.natCast_mul, Nat.mul_comm C]
  omega

set_option maxRecDepth 100000 in
set_option maxHeartbeats 1000000 in
theorem FnCarriesOf_walk (a0 : Option Addr) (len0 cap0 : Nat) (z0 : List Int) (w : World) (w0 : IsRow .u8 w a0 len0 cap0 z0) :
    Calls Try.prog 3 #[.slice a0 len0 cap0] w fun e w' => e = .returned (.bool true) ∧ Below w.heap.size w w' := by
  by_cases hl : 1048576 < len0
  · go_enter Try.func3, Try.ntmps3
    go_wp2
    go_ret
    exact ⟨rfl, Below.refl _ _⟩
  · go_enter Try.func3, Try.ntmps3
    go_wp2_with fail
    refine (drawCarriesOf _ _ _ _ _ w0).mono ?_
    rintro e w1 ⟨n, m, b, rfl, ⟨n1, n2⟩, ⟨m1, m2⟩, ⟨b1, b2⟩, hb1⟩
    clear w0 hl
    have HI := Lib.hid (implCarriesOf n m b)
    have HS := Lib.hid (specCarriesOf n m b)
    by_cases hok : Pl.okB n b = true ∧ Pl.okB m b = true
    · obtain ⟨x, k, rfl, rfl, k1, k2, hx⟩ := Pl.okB_nat hok.1
      obtain ⟨y, k', rfl, ek, _, _, hy⟩ := Pl.okB_nat hok.2
      rw [Pl.carI_yes hok.1 hok.2] at HI HS
      have hok0 : Pl.okB ((0 : Nat) : Int) k = true := by rw [Pl.okB_iff]; omega
      obtain ⟨f1, f2, f3⟩ := Pl.carry_facts (b := k) (n := x) (m := y) k1 hx hy
      have HI2 := Lib.hid (implCarriesOf (y : Int) (x : Int) k)
      have HI3 := Lib.hid (implCarriesOf (x : Int) 0 k)
      rw [Pl.carI_yes hok.2 hok.1, f2] at HI2
      rw [show (0 : Int) = ((0 : Nat) : Int) from rfl, Pl.carI_yes hok.1 hok0, f3] at HI3
      replace HI3 : Hid (∀ W, Calls Try.prog 16 #[.int .i64 x, .int .i64 0, .int .i64 k] W fun e W' => e = .returned (.int .i64 0) ∧ Below W.heap.size W W') := HI3
      have HA := Lib.hid (implSumOf (x : Int) k)
      have HB := Lib.hid (implSumOf (y : Int) k)
      have HN := Lib.hid (implSumOf ((x : Int) + (y : Int)) k)
      rw [Pl.sumI_yes x k hok.1] at HA
      rw [Pl.sumI_yes y k hok.2] at HB
      have s1 := Pl.sumD_le k1 x
      have s2 := Pl.sumD_le k1 y
      have s3 := Pl.sumD_le k1 (x + y)
      have HNS : Hid (Pl.sumI ((x : Int) + (y : Int)) k < 0 ∨ Pl.sumI ((x : Int) + (y : Int)) k = ((Pl.sumD k (x + y) : Nat) : Int)) := Lib.hid (by
        by_cases h : x + y ≤ 1000000000
        · right
          have hk : Pl.okB ((x + y : Nat) : Int) k = true := by rw [Pl.okB_iff]; omega
          have := Pl.sumI_yes (x + y) k hk
          rw [← this, show (x : Int) + (y : Int) = ((x + y : Nat) : Int) by omega]
        · left
          rw [Pl.sumI_no (by rw [Pl.okB_iff]; omega)]; omega)
      clear hok hok0 f2 f3 ek
      generalize Pl.sumI ((x : Int) + (y : Int)) k = NS at *
      generalize Pl.carN k x y = C at *
      generalize Pl.sumD k x = A at *
      generalize Pl.sumD k y = B at *
      generalize Pl.sumD k (x + y) = S at *
      obtain ⟨X, hX⟩ : ∃ X : Int, (x : Int) = X := ⟨_, rfl⟩
      obtain ⟨Y, hY⟩ : ∃ Y : Int, (y : Int) = Y := ⟨_, rfl⟩
      obtain ⟨cA, hcA⟩ : ∃ cA : Int, (A : Int) = cA := ⟨_, rfl⟩
      obtain ⟨cB, hcB⟩ : ∃ cB : Int, (B : Int) = cB := ⟨_, rfl⟩
      obtain ⟨cS, hcS⟩ : ∃ cS : Int, (S : Int) = cS := ⟨_, rfl⟩
      obtain ⟨cC, hcC⟩ : ∃ cC : Int, (C : Int) = cC := ⟨_, rfl⟩
      have x1 : 0 ≤ X ∧ X ≤ 1000000000 := by omega
      have y1 : 0 ≤ Y ∧ Y ≤ 1000000000 := by omega
      have q1 : 0 ≤ cA ∧ cA ≤ 1000000000 := by omega
      have q2 : 0 ≤ cB ∧ cB ≤ 1000000000 := by omega
      have q3 : 0 ≤ cS ∧ cS ≤ 2000000000 := by omega
      have q4 : ¬ cC < 0 := by omega
      rw [hX, hY] at HN
      rw [hX] at HI HS HI2 HI3 HA n1 n2
      rw [hY] at HI HS HI2 HB m1 m2
      rw [hcA] at HA f1
      rw [hcB] at HB f1
      rw [hcS] at f1 HNS
      rw [hcC] at HI HS HI2 f1
      rw [hX, hY]
      clear hX hY hcA hcB hcS hcC s1 s2 s3 hx hy
      have wXY : IntKind.i64.wrap (X + Y) = X + Y := IntWalk.i64_in _ (by omega)
      have wAB : IntKind.i64.wrap (cA + cB) = cA + cB := IntWalk.i64_in _ (by omega)
      have wABS : IntKind.i64.wrap (cA + cB - cS) = cA + cB - cS := IntWalk.i64_in _ (by omega)
      have wC : IntKind.i64.wrap (cC * ((k : Int) - 1)) = cA + cB - cS := by rw [f1]; exact wABS
      clear f1
      rcases HNS.out with hns | rfl
      all_goals
        try (have hns : ¬ NS < 0 := by omega)
        clear HNS
        go_wp2_with fail
        refine (HI.out _).mono ?_
        rintro e w2 ⟨rfl, hb2⟩
        have hbc := hb1.trans (hb2.mono hb1.size)
        go_wp2_with fail
        refine (HS.out _).mono ?_
        rintro e w3 ⟨rfl, hb3⟩
        replace hbc := hbc.trans (hb3.mono hbc.size)
        go_wp2_with fail
        refine (HN.out _).mono ?_
        rintro e w4 ⟨rfl, hb4⟩
        replace hbc := hbc.trans (hb4.mono hbc.size)
        clear hb1 hb2 hb3 hb4
        go_wp2_with fail
      · refine (HI2.out _).mono ?_
        rintro e w5 ⟨rfl, hb5⟩
        replace hbc := hbc.trans (hb5.mono hbc.size)
        go_wp2_with fail
        refine (HI3.out _).mono ?_
        rintro e w6 ⟨rfl, hb6⟩
        replace hbc := hbc.trans (hb6.mono hbc.size)
        go_wp2
        go_ret
        exact ⟨rfl, hbc⟩
      · refine (HA.out _).mono ?_
        rintro e w5 ⟨rfl, hb5⟩
        replace hbc := hbc.trans (hb5.mono hbc.size)
        go_wp2_with fail
        refine (HB.out _).mono ?_
        rintro e w6 ⟨rfl, hb6⟩
        replace hbc := hbc.trans (hb6.mono hbc.size)
        go_wp2_with fail
        refine (HI2.out _).mono ?_
        rintro e w7 ⟨rfl, hb7⟩
        replace hbc := hbc.trans (hb7.mono hbc.size)
        go_wp2_with fail
        refine (HI3.out _).mono ?_
        rintro e w8 ⟨rfl, hb8⟩
        replace hbc := hbc.trans (hb8.mono hbc.size)
        go_wp2
        go_ret
        exact ⟨rfl, hbc⟩
    · rw [Pl.carI_no hok] at HI HS
      clear hok
      go_wp2_with fail
      refine (HI.out _).mono ?_
      rintro e w2 ⟨rfl, hb2⟩
      have hbc := hb1.trans (hb2.mono hb1.size)
      go_wp2_with fail
      refine (HS.out _).mono ?_
      rintro e w3 ⟨rfl, hb3⟩
      replace hbc := hbc.trans (hb3.mono hbc.size)
      go_wp2_with (go_at_call 18; refine (alive _).mono ?_; rintro e w' ⟨rfl, rfl⟩)
      go_ret
      exact ⟨rfl, hbc⟩

end Go.Proofs.Ytcepbhmnbfaoeaa
