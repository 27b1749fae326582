/-
  The walks of the laws of NoughtsAtEnd and ChoiceOften.
-/
import Derived.Test.YtcepbhmnbfaoeaaDraws11
import Derived.Test.YtcepbhmnbfaoeaaSpecNoughts
import Derived.Test.YtcepbhmnbfaoeaaSpecRest
import Derived.Test.YtcepbhmnbfaoeaaCarry
namespace Go.Proofs.Ytcepbhmnbfaoeaa
open Go.RowKit

set_option maxRecDepth 100000 in
set_option maxHeartbeats 1000000 in
theorem FnNoughtsAtEnd_walk (a0 : Option Addr) (len0 cap0 : Nat) (z0 : List Int) (w : World) (w0 : IsRow .u8 w a0 len0 cap0 z0) :
    Calls Try.prog 8 #[.slice a0 len0 cap0] w fun e w' => e = .returned (.bool true) ∧ Below w.heap.size w w' := by
  by_cases hl : 1048576 < len0
  · go_enter Try.func8, Try.ntmps8
    go_wp2
    go_ret
    exact ⟨rfl, Below.refl _ _⟩
  · go_enter Try.func8, Try.ntmps8
    go_wp2_with fail
    refine (drawNoughtsAtEnd _ _ _ _ _ w0).mono ?_
    rintro e w1 ⟨n, b, rfl, ⟨n1, n2⟩, ⟨b1, b2⟩, hb1⟩
    clear w0 hl
    have HI := Lib.hid (implNoughtsAtEnd n b)
    have HS := Lib.hid (specNoughtsAtEnd n b)
    by_cases hok : Pl.okB n b = true
    · obtain ⟨x, k, rfl, rfl, k1, k2, hx⟩ := Pl.okB_nat hok
      rw [Pl.nouI_yes hok] at HI HS
      obtain ⟨Z, hZ⟩ : ∃ Z, Pl.nouT (fun p => Pl.oftN p x) k = Z := ⟨_, rfl⟩
      have HNX : Hid (Pl.nouI ((x : Int) + 1) k < 0 ∨ (Z : Int) ≤ Pl.nouI ((x : Int) + 1) k) := Lib.hid (by
        by_cases h : x + 1 ≤ 1000000000
        · have hok1 : Pl.okB ((x + 1 : Nat) : Int) k = true := by rw [Pl.okB_iff]; omega
          have h1 := Pl.nouI_yes hok1
          have h2 := Pl.nou_next x k
          rw [hZ] at h2
          right
          rw [show (x : Int) + 1 = ((x + 1 : Nat) : Int) by omega, h1]
          omega
        · left
          rw [Pl.nouI_no (by rw [Pl.okB_iff]; omega)]
          omega)
      have HP : Hid (Pl.primeB k = true → Pl.oftI x k = (Z : Int)) := Lib.hid fun h => by
        obtain ⟨q, hq, hm⟩ := Pl.primeB_nat h
        obtain rfl : k = q := by omega
        rw [Pl.oftI, if_pos ⟨by omega, h⟩, ← hZ, Pl.nou_prime _ hm]; rfl
      have H10 : Hid ((k : Int) = 10 → Pl.oftI x 5 = (Z : Int)) := Lib.hid fun h => by
        obtain rfl : k = 10 := by omega
        rw [Pl.oftI, if_pos ⟨by omega, rfl⟩, ← hZ, Pl.nou_ten]; rfl
      rw [hZ] at HI HS
      have HI1 := Lib.hid (implNoughtsAtEnd ((x : Int) + 1) k)
      have HPR := Lib.hid (implPrimeBaseOk k)
      have HO1 := Lib.hid (implProductOften x k)
      have HO5 := Lib.hid (implProductOften x 5)
      clear hok hZ
      generalize Pl.nouI ((x : Int) + 1) k = NX at *
      generalize hpb : Pl.primeB k = PB at *
      generalize Pl.oftI x k = O1 at *
      generalize Pl.oftI x 5 = O5 at *
      have hz0 : ¬ (Z : Int) < 0 := by omega
      go_wp2_with fail
      refine (HI.out _).mono ?_
      rintro e w2 ⟨rfl, hb2⟩
      go_wp2_with fail
      refine (HS.out _).mono ?_
      rintro e w3 ⟨rfl, rfl⟩
      have hbc := hb1.trans (hb2.mono hb1.size)
      go_wp2_with fail
      refine (HI1.out _).mono ?_
      rintro e w4 ⟨rfl, hb4⟩
      replace hbc := hbc.trans (hb4.mono hbc.size)
      clear hb1 hb2 hb4
      have HNO : Hid (PB = true → ¬ (k : Int) = 10) := Lib.hid (by rintro rfl h; rw [h] at hpb; exact absurd hpb (by decide))
      clear hpb
      cases PB
      · clear HP HNO HO1
        by_cases h10 : (k : Int) = 10
        · have e5 := H10.out h10
          rw [e5] at HO5
          have HK := Lib.hid h10
          clear H10 h10 e5
          by_cases hn : NX < 0
          all_goals
            try (replace HNX : (Z : Int) ≤ NX := by have := HNX.out; omega)
            go_wp2_with fail
            refine (HPR.out _).mono ?_
            rintro e w5 ⟨rfl, hb5⟩
            replace hbc := hbc.trans (hb5.mono hbc.size)
            clear hb5
            go_wp2_with fail
            all_goals first
              | (exact absurd HK.out (by assumption))
              | (refine (HO5.out _).mono ?_
                 rintro e w6 ⟨rfl, hb5⟩
                 replace hbc := hbc.trans (hb5.mono hbc.size)
                 clear hb5
                 go_wp2_with (go_at_call 18; refine (alive _).mono ?_; rintro e w' ⟨rfl, rfl⟩)
                 go_ret
                 exact ⟨rfl, hbc⟩)
        · clear H10
          by_cases hn : NX < 0
          all_goals
            try (replace HNX : (Z : Int) ≤ NX := by have := HNX.out; omega)
            go_wp2_with fail
            refine (HPR.out _).mono ?_
            rintro e w5 ⟨rfl, hb5⟩
            replace hbc := hbc.trans (hb5.mono hbc.size)
            clear hb5
            go_wp2_with (go_at_call 18; refine (alive _).mono ?_; rintro e w' ⟨rfl, rfl⟩)
            go_ret
            exact ⟨rfl, hbc⟩
      · have e1 := HP.out rfl
        rw [e1] at HO1
        have t10 : ¬ (k : Int) = 10 := HNO.out rfl
        clear HP e1 HO5 H10 HNO
        by_cases hn : NX < 0
        all_goals
          try (replace HNX : (Z : Int) ≤ NX := by have := HNX.out; omega)
          go_wp2_with fail
          refine (HPR.out _).mono ?_
          rintro e w5 ⟨rfl, hb5⟩
          replace hbc := hbc.trans (hb5.mono hbc.size)
          clear hb5
          go_wp2_with fail
          refine (HO1.out _).mono ?_
          rintro e w6 ⟨rfl, hb5⟩
          replace hbc := hbc.trans (hb5.mono hbc.size)
          clear hb5
          go_wp2_with (go_at_call 18; refine (alive _).mono ?_; rintro e w' ⟨rfl, rfl⟩)
          go_ret
          exact ⟨rfl, hbc⟩
    · rw [Pl.nouI_no hok] at HI HS
      clear hok
      go_wp2_with fail
      refine (HI.out _).mono ?_
      rintro e w2 ⟨rfl, hb2⟩
      go_wp2_with fail
      refine (HS.out _).mono ?_
      rintro e w3 ⟨rfl, rfl⟩
      go_wp2_with (go_at_call 18; refine (alive _).mono ?_; rintro e w' ⟨rfl, rfl⟩)
      go_ret
      exact ⟨rfl, hb1.trans (hb2.mono hb1.size)⟩

/-- Carries count primes of choices. -/
theorem Pl.choice_facts {p n k : Nat} (hp : p ∈ Pl.primes6) (hn : n ≤ 200) (hk : k ≤ n) :
    ((Pl.carN p k (n - k) : Nat) : Int) = ((Pl.oftN p n : Nat) : Int) - ((Pl.oftN p k : Nat) : Int) - ((Pl.oftN p (n - k) : Nat) : Int) ∧ (Pl.carN p k (n - k) = 0 ↔ Pl.cr p n k ≠ 0) ∧ Pl.carN p (n - k) (n - (n - k)) = Pl.carN p k (n - k) := by
  have hp2 := Pl.primes6_ge hp
  refine ⟨?_, Pl.kummer hp 30 n k (by omega) hk, ?_⟩
  · have h1 := Pl.oftK_sum hp2.1 30 n (by omega)
    have h2 := Pl.oftK_sum hp2.1 30 k (by omega)
    have h3 := Pl.oftK_sum hp2.1 30 (n - k) (by omega)
    have h4 := Pl.carK_sum hp2.1 30 k (n - k) 0 (by omega) (by omega) (by omega)
    rw [show k + (n - k) + 0 = n by omega] at h4
    show ((Pl.carK p 30 k (n - k) 0 : Nat) : Int) = ((Pl.oftK p 30 n : Nat) : Int) - ((Pl.oftK p 30 k : Nat) : Int) - ((Pl.oftK p 30 (n - k) : Nat) : Int)
    generalize Pl.carK p 30 k (n - k) 0 = C at *
    generalize Pl.oftK p 30 n = A at *
    generalize Pl.oftK p 30 k = B at *
    generalize Pl.oftK p 30 (n - k) = D at *
    have e : (p - 1) * (B + D + C) = (p - 1) * A := by
      rw [Nat.mul_comm A] at h1
      rw [Nat.mul_comm B] at h2
      rw [Nat.mul_comm D] at h3
      rw [Nat.mul_add, Nat.mul_add]
      omega
    have := Nat.eq_of_mul_eq_mul_left (show 0 < p - 1 by omega) e
    omega
  · rw [show n - (n - k) = k by omega]
    exact Pl.carK_sym p 30 (n - k) k 0

theorem Pl.oftI_nat {p n : Nat} (hp : Pl.primeB p = true) (hn : n ≤ 1000000000) : Pl.oftI (n : Int) (p : Int) = ((Pl.oftN p n : Nat) : Int) := by
  rw [Pl.oftI, if_pos ⟨by omega, hp⟩]; rfl
theorem Pl.choI_nat {p n k : Nat} (hp : Pl.primeB p = true) (hn : n ≤ 200) (hk : k ≤ n) : Pl.choI (n : Int) (k : Int) (p : Int) = ((Pl.carN p k (n - k) : Nat) : Int) := by
  rw [Pl.choI, if_pos ⟨by omega, hp⟩]; rfl
theorem Pl.resI_nat {p n k : Nat} (hp : Pl.primeB p = true) (hn : n ≤ 200) (hk : k ≤ n) : Pl.resI (n : Int) (k : Int) (p : Int) = ((Pl.cr p n k : Nat) : Int) := by
  rw [Pl.resI, if_pos ⟨by omega, hp⟩]; rfl

set_option maxRecDepth 100000 in
set_option maxHeartbeats 1000000 in
theorem FnChoiceOften_walk (a0 : Option Addr) (len0 cap0 : Nat) (z0 : List Int) (w : World) (w0 : IsRow .u8 w a0 len0 cap0 z0) :
    Calls Try.prog 6 #[.slice a0 len0 cap0] w fun e w' => e = .returned (.bool true) ∧ Below w.heap.size w w' := by
  by_cases hl : 1048576 < len0
  · go_enter Try.func6, Try.ntmps6
    go_wp2
    go_ret
    exact ⟨rfl, Below.refl _ _⟩
  · go_enter Try.func6, Try.ntmps6
    go_wp2_with fail
    refine (drawChoiceOften _ _ _ _ _ w0).mono ?_
    rintro e w1 ⟨n, k, p, rfl, ⟨n1, n2⟩, ⟨k1, k2⟩, ⟨p1, p2⟩, hb1⟩
    clear w0 hl
    have HI := Lib.hid (implChoiceOften n k p)
    have HS := Lib.hid (specChoiceOften n k p)
    by_cases hok : ((0 ≤ n ∧ n ≤ 200) ∧ 0 ≤ k ∧ k ≤ n) ∧ Pl.primeB p = true
    · obtain ⟨⟨g1, g2⟩, hp⟩ := hok
      obtain ⟨q, rfl, hq⟩ := Pl.primeB_nat hp
      obtain ⟨x, rfl⟩ : ∃ x : Nat, n = (x : Int) := ⟨n.toNat, by omega⟩
      obtain ⟨y, rfl⟩ : ∃ y : Nat, k = (y : Int) := ⟨k.toNat, by omega⟩
      have f1 := Pl.choI_nat hp (show x ≤ 200 by omega) (show y ≤ x by omega)
      have f2 := Pl.choI_nat hp (show x ≤ 200 by omega) (show x - y ≤ x by omega)
      have f3 := Pl.oftI_nat hp (show x ≤ 1000000000 by omega)
      have f4 := Pl.oftI_nat hp (show y ≤ 1000000000 by omega)
      have f5 := Pl.oftI_nat hp (show x - y ≤ 1000000000 by omega)
      have f6 := Pl.resI_nat hp (show x ≤ 200 by omega) (show y ≤ x by omega)
      obtain ⟨m1, m2, m3⟩ := Pl.choice_facts hq (show x ≤ 200 by omega) (show y ≤ x by omega)
      rw [m3] at f2
      have hxy : ((x - y : Nat) : Int) = (x : Int) - (y : Int) := by omega
      rw [hxy] at f2 f5
      have o1 := Pl.oftN_le (Pl.primes6_ge hq).1 (show x ≤ 1000000000 by omega)
      have o2 := Pl.oftN_le (Pl.primes6_ge hq).1 (show y ≤ 1000000000 by omega)
      have o3 := Pl.oftN_le (Pl.primes6_ge hq).1 (show x - y ≤ 1000000000 by omega)
      rw [f1] at HI HS
      have HI2 := Lib.hid (implChoiceOften (x : Int) ((x : Int) - (y : Int)) q)
      have HA := Lib.hid (implProductOften (x : Int) q)
      have HB := Lib.hid (implProductOften (y : Int) q)
      have HD := Lib.hid (implProductOften ((x : Int) - (y : Int)) q)
      have HR := Lib.hid (implChoiceRest (x : Int) (y : Int) q)
      rw [f2] at HI2
      rw [f3] at HA
      rw [f4] at HB
      rw [f5] at HD
      rw [f6] at HR
      have hz : (((Pl.carN q y (x - y) : Nat) : Int) == 0) = !(((Pl.cr q x y : Nat) : Int) == 0) := by
        rw [Bool.eq_iff_iff, beq_iff_eq, Bool.not_eq_true', beq_eq_false_iff_ne]; omega
      have HZ := Lib.hid hz
      clear f1 f2 f3 f4 f5 f6 m2 m3 hz hq hp hxy
      generalize Pl.carN q y (x - y) = C at *
      generalize Pl.oftN q x = A at *
      generalize Pl.oftN q y = B at *
      generalize Pl.oftN q (x - y) = D at *
      generalize Pl.cr q x y = R at *
      obtain ⟨cA, hcA⟩ : ∃ cA : Int, (A : Int) = cA := ⟨_, rfl⟩
      obtain ⟨cB, hcB⟩ : ∃ cB : Int, (B : Int) = cB := ⟨_, rfl⟩
      obtain ⟨cD, hcD⟩ : ∃ cD : Int, (D : Int) = cD := ⟨_, rfl⟩
      have q1 : 0 ≤ cA ∧ cA ≤ 200 := by omega
      have q2 : 0 ≤ cB ∧ cB ≤ 200 := by omega
      have q3 : 0 ≤ cD ∧ cD ≤ 200 := by omega
      rw [hcA] at HA m1
      rw [hcB] at HB m1
      rw [hcD] at HD m1
      have hC0 : ¬ (C : Int) < 0 := by omega
      obtain ⟨cC, hcC⟩ : ∃ cC : Int, (C : Int) = cC := ⟨_, rfl⟩
      rw [hcC] at HI HS HI2 HZ m1 hC0
      obtain ⟨cR, hcR⟩ : ∃ cR : Int, (R : Int) = cR := ⟨_, rfl⟩
      rw [hcR] at HR HZ
      clear hcA hcB hcD hcC hcR o1 o2 o3
      have wk : IntKind.i64.wrap ((x : Int) - (y : Int)) = (x : Int) - (y : Int) := IntWalk.i64_in _ (by omega)
      have we : cC == cA - cB - cD := by rw [beq_iff_eq]; exact m1
      have wd : IntKind.i64.wrap (cA - cB) = cA - cB := IntWalk.i64_in _ (by omega)
      have wd2 : IntKind.i64.wrap (cA - cB - cD) = cA - cB - cD := IntWalk.i64_in _ (by omega)
      clear m1
      rcases (show (cR = 0 ∧ (cC == 0) = false) ∨ (¬ cR = 0 ∧ (cC == 0) = true) by
        by_cases hr0 : cR = 0
        · exact .inl ⟨hr0, by rw [HZ.out, hr0]; rfl⟩
        · exact .inr ⟨hr0, by rw [HZ.out, beq_eq_false_iff_ne.2 hr0]; rfl⟩) with ⟨rfl, hcz⟩ | ⟨hr0, hcz⟩
      all_goals
        clear HZ
        go_wp2_with fail
        refine (HI.out _).mono ?_
        rintro e w2 ⟨rfl, hb2⟩
        have hbc := hb1.trans (hb2.mono hb1.size)
        go_wp2_with fail
        refine (HS.out _).mono ?_
        rintro e w3 ⟨rfl, hb3⟩
        replace hbc := hbc.trans (hb3.mono hbc.size)
        clear hb1 hb2 hb3
        go_wp2_with fail
        refine (HA.out _).mono ?_
        rintro e w5 ⟨rfl, hb5⟩
        replace hbc := hbc.trans (hb5.mono hbc.size)
        clear hb5
        go_wp2_with fail
        refine (HB.out _).mono ?_
        rintro e w5 ⟨rfl, hb5⟩
        replace hbc := hbc.trans (hb5.mono hbc.size)
        clear hb5
        go_wp2_with fail
        refine (HD.out _).mono ?_
        rintro e w5 ⟨rfl, hb5⟩
        replace hbc := hbc.trans (hb5.mono hbc.size)
        clear hb5
        go_wp2_with fail
        refine (HR.out _).mono ?_
        rintro e w5 ⟨rfl, hb5⟩
        replace hbc := hbc.trans (hb5.mono hbc.size)
        clear hb5
        go_wp2_with fail
        refine (HI2.out _).mono ?_
        rintro e w5 ⟨rfl, hb5⟩
        replace hbc := hbc.trans (hb5.mono hbc.size)
        clear hb5
        go_wp2
        go_ret
        first
          | exact ⟨rfl, hbc⟩
          | exact ⟨ret_bool (by simp [hr0]), hbc⟩
    · have e : Pl.choI n k p = -1 := by rw [Pl.choI, if_neg hok]
      rw [e] at HI HS
      clear hok e
      go_wp2_with fail
      refine (HI.out _).mono ?_
      rintro e w2 ⟨rfl, hb2⟩
      have hbc := hb1.trans (hb2.mono hb1.size)
      go_wp2_with fail
      refine (HS.out _).mono ?_
      rintro e w3 ⟨rfl, hb3⟩
      replace hbc := hbc.trans (hb3.mono hbc.size)
      go_wp2_with (go_at_call 18; refine (alive _).mono ?_; rintro e w' ⟨rfl, rfl⟩)
      go_ret
      exact ⟨rfl, hbc⟩

end Go.Proofs.Ytcepbhmnbfaoeaa
