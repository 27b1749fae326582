/-
  The walk of the law of BehindOf: behind each other digits are multiplied.
-/
import Derived.Test.YtalcmadoledfnaaBehind
import Derived.Test.YtalcmadoledfnaaMathRow
import Derived.Test.YtalcmadoledfnaaDraws2
namespace Go.Proofs.Ytalcmadoledfnaa
open Go.RowKit

theorem behind_some {n m b : Int} {y : Nat} (h : behindO n m b = some y) : ∃ p q k : Nat, n = (p : Int) ∧ m = (q : Int) ∧ b = (k : Int) ∧ 2 ≤ k ∧ k ≤ 16 ∧ p ≤ 1000000000 ∧ q ≤ 1000000000 ∧ y ≤ 1000000000 ∧
    Pl.okB (p : Int) (k : Int) = true ∧ Pl.okB (q : Int) (k : Int) = true ∧ y = p * k ^ (Pl.digsR k q).length + q := by
  unfold behindO at h
  split at h
  · rename_i hc
    obtain ⟨p, k, rfl, rfl, h1, h2, h3⟩ := Pl.okB_nat hc.1
    obtain ⟨q, k', rfl, hk, _, _, h4⟩ := Pl.okB_nat hc.2
    obtain rfl : k = k' := Int.ofNat.inj hk
    rw [Pl.digA_yes p k hc.1, Pl.digA_yes q k hc.2] at h
    obtain ⟨k', hk, _, _, _, h5, h6⟩ := Pl.whole_some h
    obtain rfl : k = k' := Int.ofNat.inj hk
    exact ⟨p, q, k, rfl, rfl, rfl, h1, h2, h3, h4, h6, hc.1, hc.2, Pl.behind_val h1 h3 h4 h5⟩
  · cases h

theorem ok_of_le {y k : Nat} (h1 : 2 ≤ k) (h2 : k ≤ 16) (h : y ≤ 1000000000) : Pl.okB (y : Int) (k : Int) = true := by rw [Pl.okB_iff]; omega

set_option maxHeartbeats 2000000 in
theorem FnBehindOf_walk (a0 : Option Addr) (len0 cap0 : Nat) (z0 : List Int) (w : World) (w0 : IsRow .u8 w a0 len0 cap0 z0) :
    Calls Try.prog 7 #[.slice a0 len0 cap0] w fun e w' => e = .returned (.bool true) ∧ Below w.heap.size w w' := by
  by_cases hl : 1048576 < len0
  · go_enter Try.func7, Try.ntmps7
    go_wp2
    go_ret
    exact ⟨rfl, Below.refl _ _⟩
  · go_enter Try.func7, Try.ntmps7
    go_wp2_with fail
    refine (drawBehindOf _ _ _ _ _ w0).mono ?_
    rintro e w1 ⟨n, m, b, rfl, ⟨n1, n2⟩, ⟨m1, m2⟩, ⟨b1, b2⟩, hb1⟩
    clear w0
    go_wp2_with fail
    refine (implBehindOf _ _ _ _).mono ?_
    rintro e w2 ⟨rfl, hb2⟩
    go_wp2_with fail
    refine (specBehindOf _ _ _ _).mono ?_
    rintro e w3 ⟨rfl, hb3⟩
    have c3 : Below w.heap.size w w3 := (hb1.trans (hb2.mono hb1.size)).trans (hb3.mono (Nat.le_trans hb1.size hb2.size))
    clear hb1 hb2 hb3
    cases hR : behindO n m b with
    | none =>
      rw [show Pl.wV none = -1 from rfl, show Pl.wB none = false from rfl]
      clear hR
      go_wp2_with (go_at_call 22; refine (alive _).mono ?_; rintro e w' ⟨rfl, rfl⟩)
      go_ret
      exact ⟨rfl, c3⟩
    | some y =>
      rw [show Pl.wV (some y) = (y : Int) from rfl, show Pl.wB (some y) = true from rfl]
      obtain ⟨p, q, k, rfl, rfl, rfl, k1, k2, hp, hq, hy, hok1, hok2, hval⟩ := behind_some hR
      have hle : ∀ t, t ≤ (Pl.digsR k q).length → p * k ^ t ≤ 1000000000 := fun t ht => by
        have h1 : k ^ t ≤ k ^ (Pl.digsR k q).length := Nat.pow_le_pow_right (by omega) ht
        have h2 := Nat.mul_le_mul_left p h1
        omega
      have hsum : Pl.sumI (y : Int) k = Pl.sumI (p : Int) k + Pl.sumI (q : Int) k := by
        rw [Pl.sumI_yes y k (ok_of_le k1 k2 hy), Pl.sumI_yes p k hok1, Pl.sumI_yes q k hok2, hval, Pl.sumD_behind k1 p _ q (Pl.lt_pow_len k1 q)]; rfl
      have hlong := longI_nat q k hok2
      have h30 := Pl.digsR_len30 k1 hq
      have hs1 : 0 ≤ Pl.sumI (p : Int) k ∧ Pl.sumI (p : Int) k ≤ 1000000000 := by rw [Pl.sumI_yes p k hok1]; have := Pl.sumD_le k1 p; omega
      have hs2 : 0 ≤ Pl.sumI (q : Int) k ∧ Pl.sumI (q : Int) k ≤ 1000000000 := by rw [Pl.sumI_yes q k hok2]; have := Pl.sumD_le k1 q; omega
      have H1 := Lib.hid (implSumOf (y : Int) k)
      have H2 := Lib.hid (implSumOf (p : Int) k)
      have H3 := Lib.hid (implSumOf (q : Int) k)
      have HL := Lib.hid (fun W => specLongOf (q : Int) k W)
      rw [hlong] at HL
      rw [hsum] at H1
      generalize Pl.sumI (p : Int) k = s1 at *
      generalize Pl.sumI (q : Int) k = s2 at *
      generalize (Pl.digsR k q).length = L at *
      obtain ⟨g1, g2⟩ := hs1
      obtain ⟨g3, g4⟩ := hs2
      have HV := Lib.hid hval
      have HLE := Lib.hid hle
      clear hval hle hsum hlong hR hok1 hok2 hl
      go_wp2_with fail
      go_loopw [10, 11] (fun wt i wr => ∃ t v : Nat, t ≤ L ∧ i = .int .i64 t ∧ wt = .int .i64 v ∧ Hid (v = p * k ^ t) ∧ Below w.heap.size w wr) (fun _ i _ => L - (intOf i).toNat)
      case atStart => exact ⟨0, p, Nat.zero_le _, rfl, rfl, Lib.hid (by simp), c3⟩
      case round =>
        obtain ⟨t, v, ht, rfl, rfl, hv, hbl⟩ := hrel
        have hv1 : v ≤ 1000000000 := by rw [hv.out]; exact HLE.out t ht
        have hm0 : 0 ≤ (v : Int) * (k : Int) := Int.mul_nonneg (by omega) (by omega)
        have hm1 : (v : Int) * (k : Int) ≤ 16000000000 := by
          have : (v : Int) * (k : Int) ≤ 1000000000 * 16 := Int.mul_le_mul (by omega) (by omega) (by omega) (by omega)
          omega
        by_cases hlt : t < L
        · go_wp2_with (go_at_call 28; refine (HL.out _).mono ?_; rintro e w4 ⟨rfl, hb4⟩)
          go_roundw
          case rel => exact ⟨t + 1, v * k, by omega, by go_num, by go_num, Lib.hid (by rw [hv.out, Nat.pow_succ, Nat.mul_assoc]), hbl.trans (hb4.mono hbl.size)⟩
          case measure => simp [intOf]; omega
        · obtain rfl : t = L := by omega
          have hyv : ((y : Int) == (v : Int) + (q : Int)) = true := by
            have h1 := HV.out; have h2 := hv.out
            simp; omega
          go_wp2_with (go_at_call 28; refine (HL.out _).mono ?_; rintro e w4 ⟨rfl, hb4⟩)
          refine (H1.out _).mono ?_
          rintro e w5 ⟨rfl, hb5⟩
          go_wp2_with fail
          refine (H2.out _).mono ?_
          rintro e w6 ⟨rfl, hb6⟩
          go_wp2_with fail
          refine (H3.out _).mono ?_
          rintro e w7 ⟨rfl, hb7⟩
          have c4 := hbl.trans (hb4.mono hbl.size)
          have c5 := c4.trans (hb5.mono c4.size)
          have c6 := c5.trans (hb6.mono c5.size)
          have c7 := c6.trans (hb7.mono c6.size)
          go_wp2
          go_ret
          exact ⟨rfl, c7⟩

end Go.Proofs.Ytalcmadoledfnaa
