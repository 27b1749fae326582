/-
  The walk of the law of RootOf: roots of sums are roots of roots.
-/
import Derived.Test.YtggeemkjgpjahaaWLRoot
import Derived.Test.YtggeemkjgpjahaaBytes
namespace Go.Proofs.Ytggeemkjgpjahaa
open Go.RowKit

set_option maxRecDepth 100000 in
set_option maxHeartbeats 4000000 in
theorem FnRootOf_walk (a0 : Option Addr) (len0 cap0 : Nat) (z0 : List Int) (a1 : Option Addr) (len1 cap1 : Nat) (z1 : List Int) (w : World) (w0 : IsRow .u8 w a0 len0 cap0 z0) (w1 : IsRow .u8 w a1 len1 cap1 z1) :
    Calls Try.prog 3 #[.slice a0 len0 cap0, .slice a1 len1 cap1] w fun e w' => e = .returned (.bool true) ∧ Below w.heap.size w w' := by
  by_cases hl : 1048576 < len0
  · go_enter Try.func3, Try.ntmps3
    go_wp2
    go_ret
    exact ⟨rfl, Below.refl _ _⟩
  · by_cases hl1 : 1048576 < len1
    · go_enter Try.func3, Try.ntmps3
      go_wp2
      go_ret
      exact ⟨rfl, Below.refl _ _⟩
    go_enter Try.func3, Try.ntmps3
    go_wp2_with fail
    refine (drawRootOf _ _ _ _ _ w0).mono ?_
    rintro e w2 ⟨n, b, rfl, ⟨n1, n2⟩, ⟨b1, b2⟩, hb1⟩
    clear w0
    go_wp2_with fail
    refine (implRootOf _ _ _).mono ?_
    rintro e w3 ⟨rfl, hb2⟩
    go_wp2_with fail
    refine (specRootOf _ _ _).mono ?_
    rintro e w4 ⟨rfl, rfl⟩
    have c2 : Below w.heap.size w w3 := hb1.trans (hb2.mono hb1.size)
    by_cases hok : Pl.okB n b = true
    · obtain ⟨x, k, rfl, rfl, k1, k2, hx⟩ := Pl.okB_nat hok
      rw [Pl.rootI_yes x k hok]
      have hpos : 0 ≤ (Pl.rootN k x : Int) := by omega
      have hdig := Pl.rootN_digit k1 x
      have hZ : (x = 0 ∧ Pl.rootN k x = 0) ∨ (1 ≤ x ∧ 1 ≤ Pl.rootN k x ∧ (Pl.rootN k x : Int) = 1 + ((x : Int) - 1) % ((k : Int) - 1)) := by
        by_cases h0 : x = 0
        · exact .inl ⟨h0, (Pl.rootN_zero k1 x).2 h0⟩
        · right
          have e := Pl.rootN_eq k1 (n := x) (by omega)
          refine ⟨by omega, by omega, ?_⟩
          rw [e, show (x : Int) - 1 = ((x - 1 : Nat) : Int) by omega, show (k : Int) - 1 = ((k - 1 : Nat) : Int) by omega]; rfl
      have hN : ∀ M : Nat, M < 8000000 → Pl.rootI M k = (Pl.rootN k M : Int) ∧ Pl.rootN k M < k ∧
          (Pl.rootI ((x : Int) + (M : Int)) k < 0 ∨ (0 ≤ Pl.rootI ((x : Int) + (M : Int)) k ∧ Pl.rootI ((x : Int) + (M : Int)) k = Pl.rootI ((Pl.rootN k x : Int) + (Pl.rootN k M : Int)) k)) := fun M hM => by
        have hM' : Pl.okB M k = true := by rw [Pl.okB_iff]; omega
        have dM := Pl.rootN_digit k1 M
        refine ⟨Pl.rootI_yes M k hM', dM, ?_⟩
        by_cases ho : Pl.okB ((x + M : Nat) : Int) k = true
        · right
          have e1 := Pl.rootI_yes (x + M) k ho
          have e2 := Pl.rootI_yes (Pl.rootN k x + Pl.rootN k M) k (by rw [Pl.okB_iff]; omega)
          rw [show (x : Int) + (M : Int) = ((x + M : Nat) : Int) from rfl, show (Pl.rootN k x : Int) + (Pl.rootN k M : Int) = ((Pl.rootN k x + Pl.rootN k M : Nat) : Int) from rfl, e1, e2, Pl.rootN_add k1]
          exact ⟨by omega, rfl⟩
        · left
          rw [show (x : Int) + (M : Int) = ((x + M : Nat) : Int) from rfl, Pl.rootI_no ho]; decide
      have hdig' : (Pl.rootN k x : Int) < (k : Int) := by omega
      have HX : Hid ((x : Int) ≤ 1000000000 ∧ 0 ≤ (x : Int)) := Lib.hid (by omega)
      have hZ : (((x : Int) == 0) = true ∧ ((Pl.rootN k x : Int) == 0) = true) ∨ (((x : Int) == 0) = false ∧ ((Pl.rootN k x : Int) == 0) = false ∧ (1 + ((x : Int) - 1) % ((k : Int) - 1) = (Pl.rootN k x : Int) ∧ 1 ≤ (x : Int))) := by
        rcases hZ with ⟨h1, h2⟩ | ⟨h1, h2, h3⟩
        · left; exact ⟨by simp [h1], by rw [h2]; rfl⟩
        · right; exact ⟨by simp; omega, by simp; omega, h3.symm, by omega⟩
      have hk : 2 ≤ (k : Int) ∧ (k : Int) ≤ 16 := by omega
      have hmx : max ((k : Int) - 1) 1 = (k : Int) - 1 := by omega
      have hne : ((k : Int) - 1 == 0) = false := by simp; omega
      have HN := Lib.hid hN
      have HB : Hid (¬ len1 = 0 → ∃ b off, a1 = some ⟨b, off, none⟩ ∧ ∀ i, i < len1 → w3.cell? ⟨b, off + i, none⟩ = some (.int .u8 (z1.getD i 0)) ∧ 0 ≤ z1.getD i 0 ∧ z1.getD i 0 ≤ 255) := Lib.hid fun h => by
        obtain ⟨b, off, rfl, hlt, hb⟩ := IsRow.bytes w1 h
        exact ⟨b, off, rfl, fun i hi => ⟨Below.cell c2 (p := ⟨b, off + i, none⟩) hlt (hb i hi).1, (hb i hi).2⟩⟩
      rename_i hZ0
      clear hN hok w1 hZ0 hdig hx
      have hX := HX.out
      clear HX
      generalize (Pl.rootN k x : Int) = RI at *
      generalize (x : Int) = X at *
      go_wp2_with fail
      go_loop [8, 9] (fun m j => ∃ M J : Nat, J ≤ len1 ∧ J ≤ 3 ∧ ((J = 0 ∧ M = 0) ∨ (J = 1 ∧ M < 200) ∨ (J = 2 ∧ M < 40000) ∨ (J = 3 ∧ M < 8000000)) ∧ m = .int .i64 M ∧ j = .int .i64 J) (fun _ j => 3 - (intOf j).toNat)
      case atStart => exact ⟨0, 0, by omega, by omega, .inl ⟨rfl, rfl⟩, rfl, rfl⟩
      case round =>
        obtain ⟨M, J, hJ, hJ3, hM, rfl, rfl⟩ := hrel
        by_cases hj1 : J < len1
        · by_cases hj3 : J < 3
          · obtain ⟨b, off, rfl, hc⟩ := HB.out (by omega)
            obtain ⟨hc0, hz0, hz1⟩ := hc J hj1
            generalize z1.getD J 0 = z at *
            obtain ⟨Z, rfl⟩ := Int.eq_ofNat_of_zero_le hz0
            have hM' : (M : Int) < 40000 := by omega
            clear hZ HN hc
            have hm2 : (Z : Int) % 200 = ((Z % 200 : Nat) : Int) := rfl
            have hlt := Nat.mod_lt Z (show 0 < 200 by omega)
            generalize Z % 200 = Y at *
            have i1 : (J : Int) < (len1 : Int) := by omega
            have i3 : (J : Int) < 3 := by omega
            have HM := Lib.hid hM
            have HJ := Lib.hid (And.intro hj1 hj3)
            clear hj1 hj3 hJ hJ3 hM
            go_wp2
            go_round
            case rel => exact ⟨M * 200 + Y, J + 1, by have := HJ.out; omega, by have := HJ.out; omega, by have := HJ.out; have := HM.out; omega, by simp, by simp⟩
            case measure => have := HJ.out; simp [intOf]; omega
          · obtain ⟨e1, dM, hS⟩ := HN.out M (by omega)
            have E1 := Lib.hid e1
            have hM0 : 0 ≤ (M : Int) ∧ (M : Int) < 8000000 := by omega
            have hr0 : 0 ≤ (Pl.rootN k M : Int) ∧ (Pl.rootN k M : Int) ≤ 16 := by omega
            have i1 : (J : Int) < (len1 : Int) := by omega
            have i3 : 3 ≤ (J : Int) := by omega
            generalize (Pl.rootN k M : Int) = rI at *
            generalize (M : Int) = mI at *
            generalize hs : Pl.rootI (X + mI) k = s at *
            generalize hs2 : Pl.rootI (RI + rI) k = s2 at *
            have HS := Lib.hid hs
            have HS2 := Lib.hid hs2
            clear HN HB e1 hM hs hs2 hJ hj1 hj3 hJ3 dM
            rcases hZ with ⟨hz1, hz2⟩ | ⟨hz1, hz2, hz3⟩
            all_goals
              go_wp2_with fail
              refine (implRootOf _ _ _).mono ?_
              rintro e w5 ⟨rfl, hb5⟩
              rw [HS.out]
              have c5 := c2.trans (hb5.mono c2.size)
              rcases hS with hs | ⟨hs, rfl⟩
              · go_wp2_with fail
                go_ret
                exact ⟨rfl, c5⟩
              · go_wp2_with fail
                refine (implRootOf _ _ _).mono ?_
                rintro e w6 ⟨rfl, hb6⟩
                rw [E1.out]
                go_wp2_with fail
                refine (implRootOf _ _ _).mono ?_
                rintro e w7 ⟨rfl, hb7⟩
                rw [HS2.out]
                go_wp2_with fail
                go_ret
                exact ⟨rfl, (c5.trans (hb6.mono c5.size)).trans (hb7.mono (Nat.le_trans c5.size hb6.size))⟩
        · obtain ⟨e1, dM, hS⟩ := HN.out M (by omega)
          have E1 := Lib.hid e1
          have hM0 : 0 ≤ (M : Int) ∧ (M : Int) < 8000000 := by omega
          have hr0 : 0 ≤ (Pl.rootN k M : Int) ∧ (Pl.rootN k M : Int) ≤ 16 := by omega
          have i1 : (len1 : Int) ≤ (J : Int) := by omega
          generalize (Pl.rootN k M : Int) = rI at *
          generalize (M : Int) = mI at *
          generalize hs : Pl.rootI (X + mI) k = s at *
          generalize hs2 : Pl.rootI (RI + rI) k = s2 at *
          have HS := Lib.hid hs
          have HS2 := Lib.hid hs2
          clear HN HB e1 hM hs hs2 hJ hj1 hJ3 dM
          rcases hZ with ⟨hz1, hz2⟩ | ⟨hz1, hz2, hz3⟩
          all_goals
            go_wp2_with fail
            refine (implRootOf _ _ _).mono ?_
            rintro e w5 ⟨rfl, hb5⟩
            rw [HS.out]
            have c5 := c2.trans (hb5.mono c2.size)
            rcases hS with hs | ⟨hs, rfl⟩
            · go_wp2_with fail
              go_ret
              exact ⟨rfl, c5⟩
            · go_wp2_with fail
              refine (implRootOf _ _ _).mono ?_
              rintro e w6 ⟨rfl, hb6⟩
              rw [E1.out]
              go_wp2_with fail
              refine (implRootOf _ _ _).mono ?_
              rintro e w7 ⟨rfl, hb7⟩
              rw [HS2.out]
              go_wp2_with fail
              go_ret
              exact ⟨rfl, (c5.trans (hb6.mono c5.size)).trans (hb7.mono (Nat.le_trans c5.size hb6.size))⟩
    · rw [Pl.rootI_no hok]
      go_wp2_with (go_at_call 14; refine (alive _).mono ?_; rintro e w' ⟨rfl, rfl⟩)
      go_ret
      exact ⟨rfl, c2⟩

end Go.Proofs.Ytggeemkjgpjahaa
