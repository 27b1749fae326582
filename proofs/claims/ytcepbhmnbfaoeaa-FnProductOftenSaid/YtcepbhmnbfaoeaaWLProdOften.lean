/-
  The walk of the law of ProductOften.
-/
import Derived.Test.YtcepbhmnbfaoeaaDraws11
import Derived.Test.YtcepbhmnbfaoeaaSpecCarry
import Derived.Test.YtcepbhmnbfaoeaaSumOf
import Derived.Test.YtcepbhmnbfaoeaaCarry
namespace Go.Proofs.Ytcepbhmnbfaoeaa
open Go.RowKit

set_option maxRecDepth 100000 in
set_option maxHeartbeats 1000000 in
theorem FnProductOften_walk (a0 : Option Addr) (len0 cap0 : Nat) (z0 : List Int) (w : World) (w0 : IsRow .u8 w a0 len0 cap0 z0) :
    Calls Try.prog 5 #[.slice a0 len0 cap0] w fun e w' => e = .returned (.bool true) ∧ Below w.heap.size w w' := by
  by_cases hl : 1048576 < len0
  · go_enter Try.func5, Try.ntmps5
    go_wp2
    go_ret
    exact ⟨rfl, Below.refl _ _⟩
  · go_enter Try.func5, Try.ntmps5
    go_wp2_with fail
    refine (drawProductOften _ _ _ _ _ w0).mono ?_
    rintro e w1 ⟨n, p, rfl, ⟨n1, n2⟩, ⟨p1, p2⟩, hb1⟩
    clear w0 hl
    have HI := Lib.hid (implProductOften n p)
    have HS := Lib.hid (specProductOften n p)
    by_cases hok : (0 ≤ n ∧ n ≤ 1000000000) ∧ Pl.primeB p = true
    · obtain ⟨g1, hp⟩ := hok
      obtain ⟨q, rfl, hq⟩ := Pl.primeB_nat hp
      obtain ⟨x, rfl⟩ : ∃ x : Nat, n = (x : Int) := ⟨n.toNat, by omega⟩
      have hq2 := (Pl.primes6_ge hq).1
      have f0 : Pl.oftI (x : Int) (q : Int) = ((Pl.oftN q x : Nat) : Int) := by rw [Pl.oftI, if_pos ⟨g1, hp⟩]; rfl
      rw [f0] at HI HS
      have HN := Lib.hid (implProductOften ((x : Int) + 1) q)
      have HA := Lib.hid (implSumOf (x : Int) q)
      rw [Pl.sumI_yes x q (by rw [Pl.okB_iff]; omega)] at HA
      have hsum := Pl.oftK_sum hq2 30 x (by omega)
      have hnext := Pl.oft_next hq2 30 x (by omega)
      have HNS : Hid (Pl.oftI ((x : Int) + 1) q < 0 ∨ Pl.oftI ((x : Int) + 1) q = ((Pl.oftN q x : Nat) : Int) + ((Pl.valK q 30 (x + 1) : Nat) : Int)) := Lib.hid (by
        by_cases h : x + 1 ≤ 1000000000
        · right
          rw [Pl.oftI, if_pos ⟨by omega, hp⟩, show ((x : Int) + 1).toNat = x + 1 by omega, Int.toNat_natCast]
          show ((Pl.oftK q 30 (x + 1) : Nat) : Int) = ((Pl.oftK q 30 x : Nat) : Int) + _
          omega
        · left
          rw [Pl.oftI, if_neg (by omega)]; omega)
      have hmul : ((Pl.oftN q x : Nat) : Int) * ((q : Int) - 1) = (x : Int) - ((Pl.sumD q x : Nat) : Int) := by
        show ((Pl.oftK q 30 x : Nat) : Int) * ((q : Int) - 1) = _
        rw [show (q : Int) - 1 = ((q - 1 : Nat) : Int) by omega, ← Int.natCast_mul]
        omega
      have s1 := Pl.sumD_le hq2 x
      have o1 := Pl.oftN_le hq2 (show x ≤ 1000000000 by omega)
      obtain ⟨V, hV⟩ : ∃ V, Pl.valK q 30 (x + 1) = V := ⟨_, rfl⟩
      rw [hV] at HNS
      have HV := Lib.hid hV
      clear hnext hsum f0 hp hq hV
      generalize Pl.oftI ((x : Int) + 1) q = NX at *
      generalize Pl.oftN q x = K at *
      generalize Pl.sumD q x = A at *
      obtain ⟨cK, hcK⟩ : ∃ cK : Int, (K : Int) = cK := ⟨_, rfl⟩
      obtain ⟨cA, hcA⟩ : ∃ cA : Int, (A : Int) = cA := ⟨_, rfl⟩
      have q1 : 0 ≤ cK ∧ cK ≤ 1000000000 := by omega
      have q2 : 0 ≤ cA ∧ cA ≤ (x : Int) := by omega
      have q4 : ¬ cK < 0 := by omega
      rw [hcK] at HI HS HNS hmul
      rw [hcA] at HA hmul
      clear hcK hcA s1 o1
      have wA : IntKind.i64.wrap ((x : Int) - cA) = (x : Int) - cA := IntWalk.i64_in _ (by omega)
      have wC : IntKind.i64.wrap (cK * ((q : Int) - 1)) = (x : Int) - cA := by rw [hmul]; exact wA
      have hq0 : ((q : Int) == 0) = false := by rw [beq_eq_false_iff_ne]; omega
      clear hmul
      go_wp2_with fail
      refine (HI.out _).mono ?_
      rintro e w2 ⟨rfl, hb2⟩
      have hbc := hb1.trans (hb2.mono hb1.size)
      go_wp2_with fail
      refine (HS.out _).mono ?_
      rintro e w3 ⟨rfl, rfl⟩
      go_wp2_with fail
      refine (HN.out _).mono ?_
      rintro e w4 ⟨rfl, hb4⟩
      replace hbc := hbc.trans (hb4.mono hbc.size)
      clear hb1 hb2 hb4
      go_wp2_with fail
      go_loop [7, 8] (fun mv lv => ∃ (t L g : Nat), mv = .int .i64 t ∧ lv = .int .i64 L ∧ 1 ≤ L ∧ L ≤ 1000000001 ∧ L < 2 ^ g ∧ t + g ≤ 30 ∧ t + Pl.valK q g L = V) (fun _ lv => (intOf lv).toNat)
      case atStart => exact ⟨0, x + 1, 30, rfl, by go_num, by omega, by omega, by omega, by omega, by rw [Nat.zero_add]; exact HV.out⟩
      case round =>
        obtain ⟨t, L, g, rfl, rfl, hL1, hL2, hLg, htg, hval⟩ := hrel
        obtain ⟨G, rfl⟩ : ∃ G, g = G + 1 := ⟨g - 1, by
          have : g ≠ 0 := fun e => by rw [e] at hLg; simp at hLg; omega
          omega⟩
        rw [Pl.valK] at hval
        by_cases hz : L % q = 0
        · rw [if_pos hz] at hval
          have htq : ((L : Int) % (q : Int) == 0) = true := by
            have e : (L : Int) % (q : Int) = ((L % q : Nat) : Int) := rfl
            rw [e, hz]; rfl
          have hd1 := Nat.div_add_mod L q
          have hdq : 1 ≤ L / q := Classical.byContradiction fun hno => by
            rw [Nat.eq_zero_of_not_pos hno, hz] at hd1; omega
          have hd2 : L / q < L := Nat.div_lt_self (by omega) (by omega)
          have hd3 : L / q < 2 ^ G := by
            have g1 : L / q ≤ L / 2 := Nat.div_le_div_left hq2 (by omega)
            rw [Nat.pow_succ] at hLg; omega
          have e1 : ((L : Int)).tdiv (q : Int) = ((L / q : Nat) : Int) := rfl
          have HVAL := Lib.hid hval
          have HD3 := Lib.hid hd3
          clear hval hz hd1 hLg hd3
          generalize L / q = D at *
          have e2 : IntKind.i64.wrap (D : Int) = (D : Int) := IntWalk.i64_in _ (by omega)
          go_wp2_with fail
          go_round
          case rel => exact ⟨t + 1, D, G, by go_num, rfl, hdq, by omega, HD3.out, by omega, by have := HVAL.out; omega⟩
          case measure => simp [intOf]; omega
        · rw [if_neg hz, Nat.add_zero] at hval
          have htq : ((L : Int) % (q : Int) == 0) = false := by
            have e : (L : Int) % (q : Int) = ((L % q : Nat) : Int) := rfl
            rw [e, beq_eq_false_iff_ne]; omega
          subst hval
          have wKt : IntKind.i64.wrap (cK + (t : Int)) = cK + (t : Int) := IntWalk.i64_in _ (by omega)
          clear hz hLg HV
          rcases HNS.out with hns | hns
          · go_wp2_with fail
            refine (HA.out _).mono ?_
            rintro e w5 ⟨rfl, hb5⟩
            replace hbc := hbc.trans (hb5.mono hbc.size)
            go_wp2
            go_ret
            exact ⟨rfl, hbc⟩
          · have hnn : ¬ NX < 0 := by omega
            subst hns
            go_wp2_with fail
            refine (HA.out _).mono ?_
            rintro e w5 ⟨rfl, hb5⟩
            replace hbc := hbc.trans (hb5.mono hbc.size)
            go_wp2
            go_ret
            exact ⟨rfl, hbc⟩
    · have e : Pl.oftI n p = -1 := by rw [Pl.oftI, if_neg hok]
      rw [e] at HI HS
      clear hok e
      go_wp2_with fail
      refine (HI.out _).mono ?_
      rintro e w2 ⟨rfl, hb2⟩
      have hbc := hb1.trans (hb2.mono hb1.size)
      go_wp2_with fail
      refine (HS.out _).mono ?_
      rintro e w3 ⟨rfl, rfl⟩
      go_wp2_with (go_at_call 18; refine (alive _).mono ?_; rintro e w' ⟨rfl, rfl⟩)
      go_ret
      exact ⟨rfl, hbc⟩

end Go.Proofs.Ytcepbhmnbfaoeaa
