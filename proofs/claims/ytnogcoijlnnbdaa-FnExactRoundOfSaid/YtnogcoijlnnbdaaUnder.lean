/-
  impl.commonDivisor, impl.UnderOk: what they answer.
-/
import Derived.Test.YtnogcoijlnnbdaaSpecPeriod
namespace Go.Proofs.Ytnogcoijlnnbdaa
open Go.RowKit Go.Shelf

set_option maxHeartbeats 800000 in
theorem implCommon (u b : Nat) (hu : u ≤ 1000000000) (hb : b ≤ 1000000000) (w : World) :
    Calls Try.prog 43 #[.int .i64 u, .int .i64 b] w fun e w' => e = .returned (.int .i64 ((Nat.gcd u b : Nat) : Int)) ∧ Below w.heap.size w w' := by
  obtain ⟨G, hG⟩ : ∃ G, Nat.gcd u b = G := ⟨_, rfl⟩
  have HG := Lib.hid hG
  rw [hG]
  clear hG
  go_enter Try.func43, Try.ntmps43
  go_wp2
  go_loopw [0, 1] (fun av bv wr => ∃ A B : Nat, av = .int .i64 A ∧ bv = .int .i64 B ∧ A ≤ 1000000000 ∧ B ≤ 1000000000 ∧ Nat.gcd A B = G ∧ Below w.heap.size w wr) (fun _ bv _ => (intOf bv).toNat)
  case atStart => exact ⟨u, b, rfl, rfl, hu, hb, HG.out, Below.refl _ _⟩
  case round =>
    clear HG hu hb
    obtain ⟨A, B, rfl, rfl, hA, hB, hg, hbl⟩ := hrel
    have HBL := Lib.hid hbl
    clear hbl
    by_cases h0 : 0 < B
    · have hi : (0 : Int) < (B : Int) := by omega
      have hb0 : ((B : Int) == 0) = false := by rw [beq_eq_false_iff_ne]; omega
      have hb1 : ¬ B = 0 := by omega
      have hlt := Nat.mod_lt A h0
      have e1 := tmod_nat A B
      have HN : Hid (Nat.gcd B (A % B) = G) := Lib.hid (by rw [← hg, Nat.gcd_comm A B, Nat.gcd_rec B A, Nat.gcd_comm])
      clear hg
      generalize A % B = R at *
      go_wp2_with fail
      go_big_quiet (fail)
      go_wp2_with fail
      go_roundw
      case rel => exact ⟨B, R, rfl, rfl, hB, by omega, HN.out, HBL.out.trans ((drewN_below wr nq).mono HBL.out.size)⟩
      case measure => simp [intOf]; omega
    · obtain rfl : B = 0 := by omega
      rw [Nat.gcd_zero_right] at hg
      have HA := Lib.hid hg
      clear hg
      go_wp2_with fail
      go_ret
      exact ⟨ret_int (by rw [HA.out]), HBL.out⟩

set_option maxHeartbeats 400000 in
theorem implUnderOk (u b : Int) (w : World) :
    Calls Try.prog 16 #[.int .i64 u, .int .i64 b] w fun e w' => e = .returned (.bool (Pl.underB u b)) ∧ Below w.heap.size w w' := by
  by_cases h2 : Pl.baseB b = true
  · by_cases h1 : 1 ≤ u
    · by_cases h3 : u ≤ 200
      · have h2' := (Pl.baseB_iff b).1 h2
        obtain ⟨v, rfl⟩ : ∃ v : Nat, u = (v : Int) := ⟨u.toNat, by omega⟩
        obtain ⟨k, rfl⟩ : ∃ k : Nat, b = (k : Int) := ⟨b.toNat, by omega⟩
        have HC := Lib.hid (implCommon v k (by omega) (by omega))
        have hE : Pl.underB v k = (((Nat.gcd v k : Nat) : Int) == 1) := by
          rw [Bool.eq_iff_iff, Pl.underB_iff, beq_iff_eq]
          unfold Nat.Coprime
          omega
        rw [hE]
        clear hE h2'
        generalize ((Nat.gcd v k : Nat) : Int) = G at *
        go_enter Try.func16, Try.ntmps16
        go_wp2_with (first | (go_at_call 42; refine (implBaseOk _ _).mono ?_; rintro e w' ⟨rfl, rfl⟩; rw [h2]) | (go_at_call 43; refine (HC.out _).mono ?_; rintro e w' ⟨rfl, hb⟩))
        go_ret
        exact ⟨rfl, hb⟩
      · have hE : Pl.underB u b = false := by simp [Pl.underB, h3]
        rw [hE]
        clear hE
        go_enter Try.func16, Try.ntmps16
        go_wp2_with (first | (go_at_call 42; refine (implBaseOk _ _).mono ?_; rintro e w' ⟨rfl, rfl⟩; rw [h2]))
        go_ret
        exact ⟨rfl, Below.refl _ _⟩
    · have hE : Pl.underB u b = false := by simp [Pl.underB, h1]
      rw [hE]
      clear hE
      go_enter Try.func16, Try.ntmps16
      go_wp2_with (first | (go_at_call 42; refine (implBaseOk _ _).mono ?_; rintro e w' ⟨rfl, rfl⟩; rw [h2]))
      go_ret
      exact ⟨rfl, Below.refl _ _⟩
  · have h2' : Pl.baseB b = false := by simpa using h2
    have hE : Pl.underB u b = false := by simp [Pl.underB, h2']
    rw [hE]
    clear hE h2
    go_enter Try.func16, Try.ntmps16
    go_wp2_with (first | (go_at_call 42; refine (implBaseOk _ _).mono ?_; rintro e w' ⟨rfl, rfl⟩; rw [h2']))
    go_ret
    exact ⟨rfl, Below.refl _ _⟩

end Go.Proofs.Ytnogcoijlnnbdaa
