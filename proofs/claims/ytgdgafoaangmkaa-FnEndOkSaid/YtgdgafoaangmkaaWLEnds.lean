/-
  The walks of the laws of EndOk, OtherEnd, LongerEnd and PrimesOf.
-/
import Derived.Test.YtgdgafoaangmkaaDraws8
import Derived.Test.YtgdgafoaangmkaaEnds
namespace Go.Proofs.Ytgdgafoaangmkaa
open Go.RowKit

namespace Pl

theorem endB_pow {x L k : Nat} (h : endB x L k = true) : (1 ≤ L ∧ L ≤ 4) ∧ (2 ≤ k ∧ k ≤ 16) ∧ Idem (k ^ L) x := (endB_iff x L k).1 h

theorem pow_step {k I L : Nat} (hk1 : 1 ≤ k) (hk : k ≤ 16) (hI : I < L) (hL : L ≤ 4) : k ^ I * k = k ^ (I + 1) ∧ k ^ I * k ≤ 65536 ∧ k ^ I ≤ 65536 ∧ 1 ≤ k ^ I := by
  have h1 : k ^ I * k = k ^ (I + 1) := (Nat.pow_succ ..).symm
  have h2 := pow_le16 (b := k) (L := I + 1) hk (by omega)
  have h3 := pow_le16 (b := k) (L := I) hk (by omega)
  have h4 : 1 ≤ k ^ I := Nat.pow_pos (by omega)
  exact ⟨h1, by omega, h3, h4⟩

end Pl

set_option maxRecDepth 100000 in
set_option maxHeartbeats 2000000 in
theorem FnEndOk_walk (a0 : Option Addr) (len0 cap0 : Nat) (z0 : List Int) (w : World) (w0 : IsRow .u8 w a0 len0 cap0 z0) :
    Calls Try.prog 3 #[.slice a0 len0 cap0] w fun e w' => e = .returned (.bool true) ∧ Below w.heap.size w w' := by
  by_cases hl : 1048576 < len0
  · go_enter Try.func3, Try.ntmps3
    go_wp2
    go_ret
    exact ⟨rfl, Below.refl _ _⟩
  · go_enter Try.func3, Try.ntmps3
    go_wp2_with fail
    refine (drawEndOk _ _ _ _ _ w0).mono ?_
    rintro e w1 ⟨n, t, b, rfl, ⟨n1, n2⟩, ⟨t1, t2⟩, ⟨b1, b2⟩, hb1⟩
    clear w0 hl
    by_cases hok : Pl.endB n t b = true
    · have HOK := Lib.hid hok
      obtain ⟨x, L, k, rfl, rfl, rfl, h1, h2, h3, h4, h5⟩ := Pl.endB_nat hok
      have hP := Pl.pow_le16 (b := k) (L := L) h4 h2
      have hP1 : 1 ≤ k ^ L := Nat.pow_pos (by omega)
      have hP2 : k ≤ k ^ L := by
        have := Nat.pow_le_pow_right (show 0 < k by omega) h1
        rwa [Nat.pow_one] at this
      have hxP := h5.1
      have hsq := h5.2
      have HZ : Hid (Pl.endB 0 (L : Int) k = true) := Lib.hid ((Pl.endB_iff 0 L k).2 ⟨⟨h1, h2⟩, ⟨h3, h4⟩, Pl.idem_zero hP1⟩)
      have HO : Hid (Pl.endB 1 (L : Int) k = true) := Lib.hid ((Pl.endB_iff 1 L k).2 ⟨⟨h1, h2⟩, ⟨h3, h4⟩, Pl.idem_one (by omega)⟩)
      have HR : Hid (2 ≤ L → Pl.endB ((x % k ^ (L - 1) : Nat) : Int) ((L : Int) - 1) k = true) := Lib.hid fun h => by
        obtain ⟨M, rfl⟩ : ∃ M, L = M + 1 := ⟨L - 1, by omega⟩
        have := Pl.idem_rest (b := k) (L := M) (n := x) (by omega) h5
        have e : ((M + 1 : Nat) : Int) - 1 = (M : Int) := by omega
        rw [e, Nat.add_sub_cancel]
        exact (Pl.endB_iff _ M k).2 ⟨by omega, by omega, this⟩
      have HQ : Hid (2 ≤ L → k ^ L / k = k ^ (L - 1) ∧ 1 ≤ k ^ (L - 1) ∧ k ^ (L - 1) ≤ 65536) := Lib.hid fun h => by
        obtain ⟨M, rfl⟩ : ∃ M, L = M + 1 := ⟨L - 1, by omega⟩
        have g1 := Pl.pow_le16 (b := k) (L := M) h4 (by omega)
        have g2 : 1 ≤ k ^ M := Nat.pow_pos (by omega)
        refine ⟨?_, by simpa using g2, by simpa using g1⟩
        rw [Nat.pow_succ, Nat.mul_div_cancel _ (by omega), Nat.add_sub_cancel]
      have hxx : x * x ≤ 65536 * 65536 := Nat.mul_le_mul (by omega) (by omega)
      have e1 : IntKind.i64.wrap ((x : Int) * (x : Int)) = ((x * x : Nat) : Int) := by
        rw [← Int.natCast_mul]; exact IntWalk.i64_in _ (by omega)
      clear hok h5
      go_wp2_with fail
      refine (implEndOk _ _ _ _).mono ?_
      rintro e w2 ⟨rfl, hb2⟩
      rw [HOK.out]
      go_wp2_with fail
      refine (specEndOk _ _ _ _).mono ?_
      rintro e w3 ⟨rfl, rfl⟩
      rw [HOK.out]
      have c2 : Below w.heap.size w w2 := hb1.trans (hb2.mono hb1.size)
      clear hb1 hb2
      go_wp2_with fail
      go_loop [7, 8] (fun pv iv => ∃ I : Nat, I ≤ L ∧ iv = .int .i64 I ∧ pv = .int .i64 ((k ^ I : Nat) : Int)) (fun _ iv => L - (intOf iv).toNat)
      case atStart => exact ⟨0, by omega, rfl, by simp⟩
      case round =>
        obtain ⟨I, hI, rfl, rfl⟩ := hrel
        by_cases hlt : I < L
        · have i2 : (I : Int) < (L : Int) := by omega
          obtain ⟨p1, p2, p3, p4⟩ := Pl.pow_step (k := k) (I := I) (L := L) (by omega) h4 hlt h2
          have HP1 := Lib.hid p1
          have e6 : IntKind.i64.wrap (((k ^ I : Nat) : Int) * (k : Int)) = ((k ^ I * k : Nat) : Int) := by rw [← Int.natCast_mul]; exact IntWalk.i64_in _ (by omega)
          clear p1 e1 hsq hxx hxP hP hP1 hP2
          generalize hF : k ^ I = F at *
          clear hF
          generalize F * k = FK at *
          go_wp2_with fail
          go_round
          case rel => exact ⟨I + 1, by omega, by go_num, by rw [HP1.out]⟩
          case measure => simp [intOf]; omega
        · obtain rfl : I = L := by omega
          have i2 : ¬ (I : Int) < (I : Int) := by omega
          have hP0 : (((k ^ I : Nat) : Int) == 0) = false := by rw [beq_eq_false_iff_ne]; omega
          by_cases hL1 : I = 1
          · have ht : ((I : Int) == 1) = true := by rw [hL1]; rfl
            clear HQ HR hL1
            generalize k ^ I = P at *
            generalize x * x = X at *
            have e2 : ((X : Int)).tmod (P : Int) = (x : Int) := by rw [show ((X : Int)).tmod (P : Int) = ((X % P : Nat) : Int) from rfl, hsq]
            have e3 : ((X : Int)) % (P : Int) = (x : Int) := by rw [show ((X : Int)) % (P : Int) = ((X % P : Nat) : Int) from rfl, hsq]
            clear hsq
            go_wp2_with fail
            refine (implEndOk _ _ _ _).mono ?_
            rintro e w4 ⟨rfl, hb4⟩
            rw [HZ.out]
            go_wp2_with fail
            refine (implEndOk _ _ _ _).mono ?_
            rintro e w5 ⟨rfl, hb5⟩
            rw [HO.out]
            go_wp2
            go_ret
            have c4 := c2.trans (hb4.mono c2.size)
            exact ⟨rfl, c4.trans (hb5.mono c4.size)⟩
          · have ht : ((I : Int) == 1) = false := by rw [beq_eq_false_iff_ne]; omega
            obtain ⟨q1, q2, q3⟩ := HQ.out (by omega)
            have HR2 := Lib.hid (HR.out (by omega))
            clear HQ HR hL1
            generalize k ^ (I - 1) = Q at *
            generalize k ^ I = P at *
            generalize x * x = X at *
            have e2 : ((X : Int)).tmod (P : Int) = (x : Int) := by rw [show ((X : Int)).tmod (P : Int) = ((X % P : Nat) : Int) from rfl, hsq]
            have e3 : ((X : Int)) % (P : Int) = (x : Int) := by rw [show ((X : Int)) % (P : Int) = ((X % P : Nat) : Int) from rfl, hsq]
            have e4 : ((P : Int)).tdiv (k : Int) = (Q : Int) := by rw [show ((P : Int)).tdiv (k : Int) = ((P / k : Nat) : Int) from rfl, q1]
            have e5 : ((P : Int)) / (k : Int) = (Q : Int) := by rw [show ((P : Int)) / (k : Int) = ((P / k : Nat) : Int) from rfl, q1]
            have e6 : ((x : Int)).tmod (Q : Int) = ((x % Q : Nat) : Int) := rfl
            have e7 : ((x : Int)) % (Q : Int) = ((x % Q : Nat) : Int) := rfl
            have hQ0 : ((Q : Int) == 0) = false := by simp; omega
            have hk0 : ((k : Int) == 0) = false := by simp; omega
            have e8 : IntKind.i64.wrap (Q : Int) = (Q : Int) := IntWalk.i64_in _ (by omega)
            clear hsq q1
            generalize x % Q = R at *
            go_wp2_with fail
            refine (implEndOk _ _ _ _).mono ?_
            rintro e w4 ⟨rfl, hb4⟩
            rw [HZ.out]
            go_wp2_with fail
            refine (implEndOk _ _ _ _).mono ?_
            rintro e w5 ⟨rfl, hb5⟩
            rw [HO.out]
            have c4 := c2.trans (hb4.mono c2.size)
            have c5 : Below w.heap.size w w5 := c4.trans (hb5.mono c4.size)
            go_wp2_with fail
            refine (implEndOk _ _ _ _).mono ?_
            rintro e w6 ⟨rfl, hb6⟩
            rw [HR2.out]
            go_wp2
            go_ret
            exact ⟨rfl, c5.trans (hb6.mono c5.size)⟩
    · have HN : Hid (Pl.endB n t b = false) := Lib.hid (by simpa using hok)
      clear hok
      go_wp2_with fail
      refine (implEndOk _ _ _ _).mono ?_
      rintro e w2 ⟨rfl, hb2⟩
      rw [HN.out]
      go_wp2_with fail
      refine (specEndOk _ _ _ _).mono ?_
      rintro e w3 ⟨rfl, rfl⟩
      rw [HN.out]
      go_wp2_with (go_at_call 16; refine (alive _).mono ?_; rintro e w' ⟨rfl, rfl⟩)
      go_ret
      exact ⟨rfl, hb1.trans (hb2.mono hb1.size)⟩

set_option maxRecDepth 100000 in
set_option maxHeartbeats 2000000 in
theorem FnOtherEnd_walk (a0 : Option Addr) (len0 cap0 : Nat) (z0 : List Int) (w : World) (w0 : IsRow .u8 w a0 len0 cap0 z0) :
    Calls Try.prog 5 #[.slice a0 len0 cap0] w fun e w' => e = .returned (.bool true) ∧ Below w.heap.size w w' := by
  by_cases hl : 1048576 < len0
  · go_enter Try.func5, Try.ntmps5
    go_wp2
    go_ret
    exact ⟨rfl, Below.refl _ _⟩
  · go_enter Try.func5, Try.ntmps5
    go_wp2_with fail
    refine (drawOtherEnd _ _ _ _ _ w0).mono ?_
    rintro e w1 ⟨n, t, b, rfl, ⟨n1, n2⟩, ⟨t1, t2⟩, ⟨b1, b2⟩, hb1⟩
    clear w0 hl
    by_cases hok : Pl.endB n t b = true
    · obtain ⟨x, L, k, rfl, rfl, rfl, h1, h2, h3, h4, h5⟩ := Pl.endB_nat hok
      have hP := Pl.pow_le16 (b := k) (L := L) h4 h2
      have hP2 : 2 ≤ k ^ L := by
        have := Nat.pow_le_pow_right (show 0 < k by omega) h1
        rw [Nat.pow_one] at this; omega
      obtain ⟨o1, o2, o3⟩ := Pl.other_facts hP2 h5
      have HOM := Lib.hid (Pl.otherI_yes hok)
      have hokM : Pl.endB ((Pl.otherN (k ^ L) x : Nat) : Int) L k = true := (Pl.endB_iff _ L k).2 ⟨⟨h1, h2⟩, ⟨h3, h4⟩, o1⟩
      have HOB : Hid (Pl.otherI ((Pl.otherN (k ^ L) x : Nat) : Int) L k = (x : Int)) := Lib.hid (by rw [Pl.otherI_yes hokM, o2])
      have HOK := Lib.hid hokM
      have hm := o1.1
      have hxP := h5.1
      clear hok h5 o1 o2 hokM
      generalize Pl.otherN (k ^ L) x = M at *
      have hxm : x * M ≤ 65536 * 65536 := Nat.mul_le_mul (by omega) (by omega)
      have e1 : IntKind.i64.wrap ((x : Int) * (M : Int)) = ((x * M : Nat) : Int) := by
        rw [← Int.natCast_mul]; exact IntWalk.i64_in _ (by omega)
      go_wp2_with fail
      refine (implOtherEnd _ _ _ _).mono ?_
      rintro e w2 ⟨rfl, hb2⟩
      rw [HOM.out]
      go_wp2_with fail
      refine (specOtherEnd _ _ _ _).mono ?_
      rintro e w3 ⟨rfl, rfl⟩
      rw [HOM.out]
      have c2 : Below w.heap.size w w2 := hb1.trans (hb2.mono hb1.size)
      clear hb1 hb2
      go_wp2_with fail
      go_loop [7, 8] (fun pv iv => ∃ I : Nat, I ≤ L ∧ iv = .int .i64 I ∧ pv = .int .i64 ((k ^ I : Nat) : Int)) (fun _ iv => L - (intOf iv).toNat)
      case atStart => exact ⟨0, by omega, rfl, by simp⟩
      case round =>
        obtain ⟨I, hI, rfl, rfl⟩ := hrel
        by_cases hlt : I < L
        · have i2 : (I : Int) < (L : Int) := by omega
          obtain ⟨p1, p2, p3, p4⟩ := Pl.pow_step (k := k) (I := I) (L := L) (by omega) h4 hlt h2
          have HP1 := Lib.hid p1
          have e6 : IntKind.i64.wrap (((k ^ I : Nat) : Int) * (k : Int)) = ((k ^ I * k : Nat) : Int) := by rw [← Int.natCast_mul]; exact IntWalk.i64_in _ (by omega)
          clear p1 e1 o3 hxm hm hxP hP hP2
          generalize hF : k ^ I = F at *
          clear hF
          generalize F * k = FK at *
          go_wp2_with fail
          go_round
          case rel => exact ⟨I + 1, by omega, by go_num, by rw [HP1.out]⟩
          case measure => simp [intOf]; omega
        · obtain rfl : I = L := by omega
          have i2 : ¬ (I : Int) < (I : Int) := by omega
          have hP0 : (((k ^ I : Nat) : Int) == 0) = false := by rw [beq_eq_false_iff_ne]; omega
          generalize k ^ I = P at *
          generalize x * M = X at *
          have e2 : ((X : Int)).tmod (P : Int) = 0 := by rw [show ((X : Int)).tmod (P : Int) = ((X % P : Nat) : Int) from rfl, o3]; rfl
          have e3 : ((X : Int)) % (P : Int) = 0 := by rw [show ((X : Int)) % (P : Int) = ((X % P : Nat) : Int) from rfl, o3]; rfl
          clear o3
          go_wp2_with fail
          refine (implEndOk _ _ _ _).mono ?_
          rintro e w4 ⟨rfl, hb4⟩
          rw [HOK.out]
          go_wp2_with fail
          refine (implOtherEnd _ _ _ _).mono ?_
          rintro e w5 ⟨rfl, hb5⟩
          rw [HOB.out]
          go_wp2
          go_ret
          have c4 := c2.trans (hb4.mono c2.size)
          exact ⟨rfl, c4.trans (hb5.mono c4.size)⟩
    · have HN : Hid (Pl.endB n t b = false) := Lib.hid (by simpa using hok)
      have HO := Lib.hid (Pl.otherI_no hok)
      clear hok
      go_wp2_with fail
      refine (implOtherEnd _ _ _ _).mono ?_
      rintro e w2 ⟨rfl, hb2⟩
      rw [HO.out]
      go_wp2_with fail
      refine (specOtherEnd _ _ _ _).mono ?_
      rintro e w3 ⟨rfl, rfl⟩
      rw [HO.out]
      have c2 : Below w.heap.size w w2 := hb1.trans (hb2.mono hb1.size)
      go_wp2_with (first | (go_at_call 14; refine (implEndOk _ _ _ _).mono ?_; rintro e w4 ⟨rfl, hb4⟩; rw [HN.out]) | (go_at_call 16; refine (alive _).mono ?_; rintro e w' ⟨rfl, rfl⟩))
      go_ret
      exact ⟨rfl, c2.trans (hb4.mono c2.size)⟩

set_option maxRecDepth 100000 in
set_option maxHeartbeats 2000000 in
theorem FnPrimesOf_walk (a0 : Option Addr) (len0 cap0 : Nat) (z0 : List Int) (w : World) (w0 : IsRow .u8 w a0 len0 cap0 z0) :
    Calls Try.prog 7 #[.slice a0 len0 cap0] w fun e w' => e = .returned (.bool true) ∧ Below w.heap.size w w' := by
  by_cases hl : 1048576 < len0
  · go_enter Try.func7, Try.ntmps7
    go_wp2
    go_ret
    exact ⟨rfl, Below.refl _ _⟩
  · go_enter Try.func7, Try.ntmps7
    go_wp2_with fail
    refine (drawPrimesOf _ _ _ _ _ w0).mono ?_
    rintro e w1 ⟨b, rfl, ⟨b1, b2⟩, hb1⟩
    clear w0 hl
    by_cases hB : Pl.baseB b = true
    · obtain ⟨k, rfl, h1, h2⟩ : ∃ k : Nat, b = (k : Int) ∧ 2 ≤ k ∧ k ≤ 16 := by
        rw [Pl.baseB_iff] at hB; exact ⟨b.toNat, by omega, by omega, by omega⟩
      have HP := Lib.hid (Pl.primesI_yes h1 h2)
      have hlen : (Pl.endsA 1 (k : Int)).length = 2 ^ Pl.primesT k := by
        have e := Pl.endsA_yes (L := 1) (k := k) (Pl.endsOk_of (by omega) (by omega) h1 h2)
        have e' : Pl.endsA 1 (k : Int) = Pl.endsA ((1 : Nat) : Int) (k : Int) := rfl
        rw [e', e, List.length_map, Pl.endsF_len h1 h2 (by omega) (by omega)]
      have hpt : Pl.primesT k = 1 ∨ Pl.primesT k = 2 := by unfold Pl.primesT; split <;> simp
      have HL := Lib.hid hlen
      have HI := Lib.hid (implEndsI 1 (k : Int))
      generalize Pl.endsA 1 (k : Int) = E at *
      generalize Pl.primesT k = T at *
      clear hlen hB
      rcases hpt with rfl | rfl
      all_goals
        go_wp2_with fail
        refine (implPrimesOf _ _).mono ?_
        rintro e w2 ⟨rfl, hb2⟩
        rw [HP.out]
        go_wp2_with fail
        refine (specPrimesOf _ _).mono ?_
        rintro e w3 ⟨rfl, rfl⟩
        rw [HP.out]
        have c2 : Below w.heap.size w w2 := hb1.trans (hb2.mono hb1.size)
        go_wp2_with fail
        refine (HI.out _).mono ?_
        rintro e w4 ⟨v, rfl, hv, hb4⟩
        obtain ⟨a', cap', rfl, _⟩ := hv
        rw [HL.out]
        go_wp2
        go_ret
        exact ⟨rfl, c2.trans (hb4.mono c2.size)⟩
    · have HP := Lib.hid (Pl.primesI_no hB)
      have hB' : Pl.baseB b = false := by simpa using hB
      clear hB
      go_wp2_with fail
      refine (implPrimesOf _ _).mono ?_
      rintro e w2 ⟨rfl, hb2⟩
      rw [HP.out]
      go_wp2_with fail
      refine (specPrimesOf _ _).mono ?_
      rintro e w3 ⟨rfl, rfl⟩
      rw [HP.out]
      go_wp2_with (first | (go_at_call 32; refine (implBaseOk _ _).mono ?_; rintro e w' ⟨rfl, rfl⟩; rw [hB']) | (go_at_call 16; refine (alive _).mono ?_; rintro e w' ⟨rfl, rfl⟩))
      go_ret
      exact ⟨rfl, hb1.trans (hb2.mono hb1.size)⟩

end Go.Proofs.Ytgdgafoaangmkaa
