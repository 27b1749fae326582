/-
  The walk of the law of AlikeOk: digits all alike are multiples of ones.
-/
import Derived.Test.YtepkneeedkmaoaaAlike
import Derived.Test.YtepkneeedkmaoaaDraws6
namespace Go.Proofs.Ytepkneeedkmaoaa
open Go.RowKit

theorem Pl.ones_le {b w : Nat} (hb : 2 ≤ b) (hb' : b ≤ 16) (hw : w ≤ 6) : Pl.ones b w ≤ 16777216 := by
  have h1 := Pl.ones_pow hb w
  have h2 := Pl.pow_le24 (b := b) (w := w) hb' hw
  have h3 : Pl.ones b w ≤ Pl.ones b w * (b - 1) := Nat.le_mul_of_pos_right _ (by omega)
  omega

set_option maxRecDepth 100000 in
set_option maxHeartbeats 2000000 in
theorem FnAlikeOk_walk (a0 : Option Addr) (len0 cap0 : Nat) (z0 : List Int) (w : World) (w0 : IsRow .u8 w a0 len0 cap0 z0) :
    Calls Try.prog 8 #[.slice a0 len0 cap0] w fun e w' => e = .returned (.bool true) ∧ Below w.heap.size w w' := by
  by_cases hl : 1048576 < len0
  · go_enter Try.func8, Try.ntmps8
    go_wp2
    go_ret
    exact ⟨rfl, Below.refl _ _⟩
  · go_enter Try.func8, Try.ntmps8
    go_wp2_with fail
    refine (drawAlikeOk _ _ _ _ _ w0).mono ?_
    rintro e w1 ⟨n, t, b, rfl, ⟨n1, n2⟩, ⟨t1, t2⟩, ⟨b1, b2⟩, hb1⟩
    clear w0 hl
    have HI := Lib.hid (implAlikeOk n t b)
    have HS := Lib.hid (specAlikeOk n t b)
    by_cases hok : Pl.wideB n t b = true
    · obtain ⟨x, v, k, rfl, rfl, rfl, h1, h2, h3, h4, h5⟩ := Pl.wideB_nat hok
      have hO1 := Pl.ones_pos (b := k) (w := v) (by omega)
      have hO2 := Pl.ones_le h1 h2 h4
      have hO3 := Pl.ones_lt h1 (w := v) (d := k - 1) (by omega)
      have hp := Pl.pow_le24 (b := k) (w := v) h2 h4
      have hx0 : Pl.wideB ((0 : Nat) : Int) v k = true := Pl.wideB_of h1 h2 h3 h4 (Nat.pow_pos (by omega))
      have HZ : Hid (Pl.alikeB 0 (v : Int) k = true) := Lib.hid (by
        have h := Pl.alike_of_digit h1 (w := v) (d := 0) (by omega)
        rw [Nat.zero_mul] at h
        exact (Pl.alikeB_iff 0 v k hx0).2 h)
      have HT : Hid (Pl.alikeB ((Pl.ones k v * (k - 1) : Nat) : Int) (v : Int) k = true) := Lib.hid (by
        refine (Pl.alikeB_iff _ v k (Pl.wideB_of h1 h2 h3 h4 hO3)).2 ?_
        rw [Nat.mul_comm]
        exact Pl.alike_of_digit h1 (by omega))
      have hA : ((x : Int) % ((Pl.ones k v : Nat) : Int) == 0) = Pl.alikeB x v k := by
        rw [Bool.eq_iff_iff, Pl.alikeB_iff x v k hok, Pl.alike_ones h1 (by omega) h5, beq_iff_eq]
        have e : (x : Int) % ((Pl.ones k v : Nat) : Int) = ((x % Pl.ones k v : Nat) : Int) := rfl
        rw [e]; omega
      have hmul : ((Pl.ones k v : Nat) : Int) * ((k : Int) - 1) = ((Pl.ones k v * (k - 1) : Nat) : Int) := by
        rw [Int.natCast_mul]; congr 1; omega
      have hPle : Pl.ones k v * (k - 1) ≤ 16777216 := by omega
      obtain ⟨P, hP⟩ : ∃ P : Int, ((Pl.ones k v * (k - 1) : Nat) : Int) = P := ⟨_, rfl⟩
      have hW : IntKind.i64.wrap (((Pl.ones k v : Nat) : Int) * ((k : Int) - 1)) = P := by rw [hmul, IntWalk.i64_in _ (by omega), hP]
      rw [hP] at HT
      have HO : Hid (∀ K, K ≤ 6 → Pl.ones k K ≤ 16777216) := Lib.hid fun K hK => Pl.ones_le h1 h2 hK
      obtain ⟨O, hOO⟩ : ∃ O, Pl.ones k v = O := ⟨_, rfl⟩
      rw [hOO] at hA hW hO1 hO2
      have HOO := Lib.hid hOO
      obtain ⟨A, hAe⟩ : ∃ A, Pl.alikeB x v k = A := ⟨_, rfl⟩
      rw [hAe] at HI HS hA
      clear hAe hOO hP hPle hmul h5 hO3 hp hx0
      have hOne : ((O : Int) == 0) = false := by simp; omega
      have hO0 : (0 : Int) ≤ (O : Int) := by omega
      have hOp : (1 : Int) ≤ (O : Int) := by omega
      have hXp : (0 : Int) ≤ (x : Int) := by omega
      go_wp2_with fail
      refine (HI.out _).mono ?_
      rintro e w2 ⟨rfl, hb2⟩
      go_wp2_with fail
      refine (HS.out _).mono ?_
      rintro e w3 ⟨rfl, hb3⟩
      have c2 := hb1.trans (hb2.mono hb1.size)
      have c3 : Below w.heap.size w w3 := c2.trans (hb3.mono c2.size)
      clear hb1 hb2 hb3 c2 HI HS
      have hAA : (A != A) = false := by simp
      go_wp2_with (go_at_call 17; refine (specWideOk _ _ _ _).mono ?_; rintro e w' ⟨rfl, rfl⟩; rw [hok])
      go_loop [7, 8] (fun ov kv => ∃ K : Nat, K ≤ v ∧ kv = .int .i64 K ∧ ov = .int .i64 ((Pl.ones k K : Nat) : Int)) (fun _ kv => v - (intOf kv).toNat)
      case atStart => exact ⟨0, by omega, rfl, rfl⟩
      case round =>
        obtain ⟨K, hK, rfl, rfl⟩ := hrel
        by_cases hlt : K < v
        · have hi : (K : Int) < (v : Int) := by omega
          have hn := HO.out (K + 1) (by omega)
          have hst : Pl.ones k (K + 1) = Pl.ones k K * k + 1 := rfl
          rw [hst] at hn
          have HST := Lib.hid hst
          clear hst
          generalize Pl.ones k K = Q at *
          have hm : (Q : Int) * (k : Int) = ((Q * k : Nat) : Int) := by rw [Int.natCast_mul]
          obtain ⟨R, hR⟩ : ∃ R : Int, ((Q * k : Nat) : Int) = R := ⟨_, rfl⟩
          have e : IntKind.i64.wrap ((Q : Int) * (k : Int)) = R := by rw [hm, IntWalk.i64_in _ (by omega), hR]
          have e1 : 0 ≤ R := by omega
          have e2 : R ≤ 16777216 := by omega
          have HR := Lib.hid hR
          clear hm hR hn
          go_wp2_with fail
          go_round
          case rel => exact ⟨K + 1, by omega, by simp, by rw [HST.out, ← HR.out]; simp⟩
          case measure => simp [intOf]; omega
        · obtain rfl : K = v := by omega
          have hi : ¬ (K : Int) < (K : Int) := by omega
          rw [HOO.out]
          have hBB : (A == A) = true := by simp
          clear HO HOO
          go_wp2_with fail
          refine (implAlikeOk _ _ _ _).mono ?_
          rintro e w4 ⟨rfl, hb4⟩
          rw [HZ.out]
          have c4 : Below w.heap.size w w4 := c3.trans (hb4.mono c3.size)
          go_wp2_with fail
          refine (implAlikeOk _ _ _ _).mono ?_
          rintro e w5 ⟨rfl, hb5⟩
          rw [HT.out]
          go_wp2
          go_ret
          exact ⟨rfl, c4.trans (hb5.mono c4.size)⟩
    · have hok' : Pl.wideB n t b = false := by simpa using hok
      rw [Pl.alikeB_no hok] at HI HS
      clear hok
      go_wp2_with fail
      refine (HI.out _).mono ?_
      rintro e w2 ⟨rfl, hb2⟩
      go_wp2_with fail
      refine (HS.out _).mono ?_
      rintro e w3 ⟨rfl, hb3⟩
      have c2 := hb1.trans (hb2.mono hb1.size)
      have c3 : Below w.heap.size w w3 := c2.trans (hb3.mono c2.size)
      go_wp2_with (first | (go_at_call 17; refine (specWideOk _ _ _ _).mono ?_; rintro e w' ⟨rfl, rfl⟩; rw [hok']) | (go_at_call 18; refine (alive _).mono ?_; rintro e w' ⟨rfl, rfl⟩))
      go_ret
      exact ⟨rfl, c3⟩

end Go.Proofs.Ytepkneeedkmaoaa
