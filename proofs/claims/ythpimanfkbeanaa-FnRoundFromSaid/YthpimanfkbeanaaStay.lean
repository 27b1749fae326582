/-
  impl.GreatestStay, spec.GreatestStay: what they answer; the exact law.
-/
import Derived.Test.YthpimanfkbeanaaNextOf
import Derived.Deep.LoopGhost
namespace Go.Proofs.Ythpimanfkbeanaa
open Go.RowKit

namespace Pl
/-- The greatest stay as the functions answer: -1 for others. -/
def stayI (t b : Int) : Int := if ruleB t b = true then ((b.toNat ^ stayL t.toNat b.toNat - 1 : Nat) : Int) else -1
theorem stayI_yes (t b : Nat) (h : ruleB t b = true) : stayI t b = ((b ^ stayL t b - 1 : Nat) : Int) := by rw [stayI, if_pos h]; rfl
theorem stayI_no {t b : Int} (h : ¬ ruleB t b = true) : stayI t b = -1 := by rw [stayI, if_neg h]
theorem ruleB_nat {t b : Int} (h : ruleB t b = true) : ∃ s k : Nat, t = (s : Int) ∧ b = (k : Int) ∧ RuleOk s k := by
  rw [ruleB_iff] at h
  exact ⟨t.toNat, b.toNat, by omega, by omega, ⟨by omega, by omega, by omega, by omega⟩⟩

theorem pow_step {b : Nat} (hb : 2 ≤ b) (L : Nat) : b ^ (L + 1) - 1 = (b ^ L - 1) * b + (b - 1) := by
  have h1 : 1 ≤ b ^ L := Nat.one_le_pow _ _ (by omega)
  have h2 : b ≤ b ^ L * b := Nat.le_mul_of_pos_left _ (by omega)
  rw [Nat.pow_succ, Nat.sub_mul, Nat.one_mul]; omega

theorem nextN_nines {t b : Nat} (ht : 1 ≤ t) (hb : 2 ≤ b) : ∀ L, 1 ≤ L → nextN t b (b ^ L - 1) = L * (b - 1) ^ t := by
  intro L
  induction L with
  | zero => intro h; omega
  | succ L ih =>
    intro _
    rw [pow_step hb]
    have h1 := nextN_behind ht hb (b ^ L - 1) 1 (b - 1) (by rw [Nat.pow_one]; omega)
    rw [Nat.pow_one] at h1
    rw [h1, nextN_lt (show b - 1 < b by omega)]
    by_cases hL : L = 0
    · subst hL; rw [Nat.pow_zero, Nat.sub_self, nextN_zero ht hb]; omega
    · rw [ih (by omega), Nat.add_mul, Nat.one_mul]
end Pl

set_option maxHeartbeats 1000000 in
theorem implGreatestStay (t b : Int) (w : World) :
    Calls Try.prog 23 #[.int .i64 t, .int .i64 b] w fun e W' => e = .returned (.int .i64 (Pl.stayI t b)) ∧ Below w.heap.size w W' := by
  by_cases g1 : Pl.ruleB t b = true
  · obtain ⟨s, k, rfl, rfl, hR⟩ := Pl.ruleB_nat g1
    rw [Pl.stayI_yes s k g1]
    obtain ⟨⟨S1, S2⟩, S3, S4, S5⟩ := Pl.stay_spec hR.t1 hR.t2 hR.b1 hR.b2
    have hb := hR.b1
    have hb' := hR.b2
    generalize Pl.stayL s k = M at *
    go_enter Try.func23, Try.ntmps23
    go_wp2_with fail
    refine (ruleOk _ _ _).mono ?_
    rintro e w1 ⟨rfl, hb1⟩
    obtain ⟨c0, c1, hB, hlt⟩ := rule_box hb1
    clear hb1
    have HS := Lib.hid (And.intro S2 (And.intro S5 S3))
    clear S2 S5 S3
    go_wp2_with fail
    go_loopg [6] (M - 1) (fun g v wr => ∃ L : Nat, 1 ≤ L ∧ L + g = M ∧ v = .int .i64 ((k ^ L - 1 : Nat) : Int) ∧ Below (w.heap.size + 1) w1 wr)
    case atStart => exact ⟨1, by omega, by omega, by rw [Nat.pow_one, show ((k - 1 : Nat) : Int) = (k : Int) - 1 by omega], Below.refl _ _⟩
    case round =>
      obtain ⟨L, hL1, hLg, rfl, hbw⟩ := hrel
      have d0 := hbw.cell (p := ⟨w.heap.size, 0, none⟩) (by simp)
      have d1 := hbw.cell (p := ⟨w.heap.size, 1, none⟩) (by simp)
      rw [c0] at d0
      rw [c1] at d1
      obtain ⟨S2, S5, S3⟩ := HS.out
      have hP : k ^ L ≤ k ^ M := Nat.pow_le_pow_right (by omega) (by omega)
      have HN := Lib.hid (Pl.nextN_nines hR.t1 hb L hL1)
      have hx : k ^ L - 1 ≤ 1000000000 := by omega
      have HP := Lib.hid (Pl.pow_step hb L)
      by_cases hLM : L = M
      · subst hLM
        have hlt3 : ((L * (k - 1) ^ s : Nat) : Int) < ((k ^ L - 1 : Nat) : Int) := by omega
        clear S2 S5 S3 HP
        obtain ⟨X, hX⟩ : ∃ X, k ^ L - 1 = X := ⟨_, rfl⟩
        have HX := Lib.hid hX
        rw [hX] at HN hlt3 hx ⊢
        clear hX
        generalize L * (k - 1) ^ s = Y at *
        go_wp2_with fail
        refine (ruleNext s k X hR hx _).mono ?_
        rintro e w2 ⟨rfl, hb2⟩
        rw [HN.out]
        go_wp2_with fail
        go_ret
        have hb3 := hbw.trans (hb2.mono (Nat.le_trans (by omega) hbw.size))
        exact ⟨ret_int (by rw [HX.out]), hB.trans (hb3.mono (by omega))⟩
      · have hle3 : ((k ^ L - 1 : Nat) : Int) ≤ ((L * (k - 1) ^ s : Nat) : Int) := by
          have := S5 L hL1 (by omega); omega
        have hP2 : k ^ (L + 1) ≤ k ^ M := Nat.pow_le_pow_right (by omega) (by omega)
        have hx2 : (k ^ L - 1) * k ≤ 1000000000 := by
          have := HP.out; omega
        have e1 : IntKind.i64.wrap (((k ^ L - 1 : Nat) : Int) * (k : Int)) = (((k ^ L - 1) * k : Nat) : Int) := by
          rw [← Int.natCast_mul]; exact IntWalk.i64_in _ (by omega)
        clear S2 S5 S3 hP hP2
        obtain ⟨Z, hZ⟩ : ∃ Z, k ^ (L + 1) - 1 = Z := ⟨_, rfl⟩
        have HZ := Lib.hid hZ
        rw [hZ] at HP
        clear hZ
        generalize k ^ L - 1 = X at *
        generalize L * (k - 1) ^ s = Y at *
        generalize X * k = XK at *
        go_wp2_with fail
        refine (ruleNext s k X hR hx _).mono ?_
        rintro e w2 ⟨rfl, hb2⟩
        rw [HN.out]
        have hb3 := hbw.trans (hb2.mono (Nat.le_trans (by omega) hbw.size))
        go_wp2_with fail
        go_roundg (M - (L + 1))
        case measure => omega
        case rel => exact ⟨L + 1, by omega, by omega, by rw [HZ.out, HP.out, show ((XK + (k - 1) : Nat) : Int) = (XK : Int) + (k : Int) - 1 by omega], hb3⟩
  · have g1' : Pl.ruleB t b = false := by simpa using g1
    rw [Pl.stayI_no g1]
    clear g1
    go_enter Try.func23, Try.ntmps23
    go_wp2_with fail
    refine (ruleOk _ _ _).mono ?_
    rintro e w1 ⟨rfl, hb1⟩
    obtain ⟨c0, c1, hB, hlt⟩ := rule_box hb1
    clear hb1
    go_wp2_with fail
    go_ret
    exact ⟨rfl, hB⟩

theorem ruleB_halves (t b : Int) : Pl.ruleB t b = ((decide (1 ≤ t) && decide (t ≤ 5)) && Pl.baseB b) := by rw [Pl.ruleB, Bool.and_comm]

set_option maxHeartbeats 1000000 in
theorem specGreatestStay (t b : Int) (w : World) :
    Calls Try.prog 30 #[.int .i64 t, .int .i64 b] w fun e w' => e = .returned (.int .i64 (Pl.stayI t b)) ∧ w = w' := by
  by_cases g1 : Pl.ruleB t b = true
  · have g2 := g1
    rw [ruleB_halves] at g2
    obtain ⟨g3, g4⟩ := Bool.and_eq_true_iff.1 g2
    obtain ⟨s, k, rfl, rfl, hR⟩ := Pl.ruleB_nat g1
    rw [Pl.stayI_yes s k g1]
    obtain ⟨⟨S1, S2⟩, S3, S4, S5⟩ := Pl.stay_spec hR.t1 hR.t2 hR.b1 hR.b2
    have hb := hR.b1
    have hb' := hR.b2
    have ht2 := hR.t2
    generalize Pl.stayL s k = M at *
    have HS := Lib.hid (And.intro S2 (And.intro S5 S3))
    clear S2 S5 S3 g1 g2
    go_enter Try.func30, Try.ntmps30
    go_wp2_with (first | (go_at_call 44; refine (specIn _ _ _ _).mono ?_; rintro e w' ⟨rfl, rfl⟩) | (go_at_call 28; refine (specBaseOk _ _).mono ?_; rintro e w' ⟨rfl, rfl⟩))
    go_loop [5, 6] (fun p i => ∃ P I : Nat, I ≤ s ∧ P ≤ 759375 ∧ P = (k - 1) ^ I ∧ p = .int .i64 P ∧ i = .int .i64 I) (fun _ i => s - (intOf i).toNat)
    case atStart => exact ⟨1, 0, by omega, by omega, by simp, rfl, rfl⟩
    case round =>
      obtain ⟨P, I, hI, hP, hPe, rfl, rfl⟩ := hrel
      by_cases hlt : I < s
      · have hq : P * (k - 1) = (k - 1) ^ (I + 1) := by rw [hPe, Nat.pow_succ]
        have hq2 : P * (k - 1) ≤ 759375 := by rw [hq]; exact Pl.pow_dg (by omega) (by omega)
        have HQ := Lib.hid hq
        have e : IntKind.i64.wrap ((P : Int) * ((k : Int) - 1)) = ((P * (k - 1) : Nat) : Int) := by
          rw [show (k : Int) - 1 = ((k - 1 : Nat) : Int) by omega, ← Int.natCast_mul]; exact IntWalk.i64_in _ (by omega)
        have hi : (I : Int) < (s : Int) := by omega
        clear hq hPe
        generalize P * (k - 1) = Q at *
        go_wp2
        go_round
        case rel => exact ⟨Q, I + 1, by omega, hq2, HQ.out, rfl, by simp⟩
        case measure => simp [intOf]; omega
      · obtain rfl : I = s := by omega
        rw [← hPe] at HS
        have HP := Lib.hid hPe
        clear hPe hlt
        go_wp2_with fail
        go_loopg [7, 8] (M - 1) (fun g l a wr => ∃ L : Nat, 1 ≤ L ∧ L + g = M ∧ l = .int .i64 L ∧ a = .int .i64 ((k ^ L : Nat) : Int) ∧ w = wr)
        case atStart => exact ⟨1, by omega, by omega, rfl, by rw [Nat.pow_one], rfl⟩
        case round =>
          obtain ⟨L, hL1, hLg, rfl, rfl, rfl⟩ := hrel
          obtain ⟨S2, S5, S3⟩ := HS.out
          have hP : k ^ L ≤ k ^ M := Nat.pow_le_pow_right (by omega) (by omega)
          have h1P : 1 ≤ k ^ L := Nat.one_le_pow _ _ (by omega)
          have hLP : L * P ≤ 12 * 759375 := Nat.mul_le_mul (by omega) (by omega)
          have e2 : IntKind.i64.wrap ((L : Int) * (P : Int)) = ((L * P : Nat) : Int) := by
            rw [← Int.natCast_mul]; exact IntWalk.i64_in _ (by omega)
          by_cases hLM : L = M
          · subst hLM
            have hlt3 : ((L * P : Nat) : Int) < ((k ^ L : Nat) : Int) - 1 := by omega
            have hx : ((k ^ L : Nat) : Int) ≤ 1000000000 := by omega
            clear S2 S5 S3 hLP hP
            obtain ⟨X, hX⟩ : ∃ X, k ^ L = X := ⟨_, rfl⟩
            have HX := Lib.hid hX
            rw [hX] at hlt3 hx h1P ⊢
            clear hX
            generalize L * P = Y at *
            go_wp2_with fail
            go_ret
            exact ⟨ret_int (by rw [HX.out]; omega), rfl⟩
          · have hle3 : ((k ^ L : Nat) : Int) - 1 ≤ ((L * P : Nat) : Int) := by
              have := S5 L hL1 (by omega); omega
            have hx : ((k ^ L : Nat) : Int) ≤ 1000000000 := by omega
            have hP2 : k ^ (L + 1) ≤ k ^ M := Nat.pow_le_pow_right (by omega) (by omega)
            have hs2 : k ^ (L + 1) = k ^ L * k := Nat.pow_succ k L
            have hx2 : k ^ L * k ≤ 1000000000 := by rw [← hs2]; omega
            have e1 : IntKind.i64.wrap (((k ^ L : Nat) : Int) * (k : Int)) = ((k ^ L * k : Nat) : Int) := by
              rw [← Int.natCast_mul]; exact IntWalk.i64_in _ (by omega)
            have HZ := Lib.hid hs2
            clear S2 S5 S3 hP hP2 hLP hs2
            generalize k ^ L * k = XK at *
            generalize k ^ L = X at *
            generalize L * P = Y at *
            go_wp2_with fail
            go_roundg (M - (L + 1))
            case measure => omega
            case rel => exact ⟨L + 1, by omega, by omega, by simp, by rw [HZ.out], rfl⟩
  · rw [Pl.stayI_no g1]
    rw [ruleB_halves] at g1
    by_cases g3 : (decide (1 ≤ t) && decide (t ≤ 5)) = true
    · have g4 : Pl.baseB b = false := by rw [g3] at g1; simpa using g1
      clear g1
      go_enter Try.func30, Try.ntmps30
      go_wp2_with (first | (go_at_call 44; refine (specIn _ _ _ _).mono ?_; rintro e w' ⟨rfl, rfl⟩) | (go_at_call 28; refine (specBaseOk _ _).mono ?_; rintro e w' ⟨rfl, rfl⟩))
      go_ret
      exact ⟨rfl, rfl⟩
    · have g4 : (decide (1 ≤ t) && decide (t ≤ 5)) = false := by simpa using g3
      clear g1 g3
      go_enter Try.func30, Try.ntmps30
      go_wp2_with (first | (go_at_call 44; refine (specIn _ _ _ _).mono ?_; rintro e w' ⟨rfl, rfl⟩) | (go_at_call 28; refine (specBaseOk _ _).mono ?_; rintro e w' ⟨rfl, rfl⟩))
      go_ret
      exact ⟨rfl, rfl⟩

set_option maxHeartbeats 400000 in
theorem FnExactGreatestStay_walk (a0 : Int) (a1 : Int) (w : World) (_w0 : (Lit.int .i64 a0).wf = true) (_w1 : (Lit.int .i64 a1).wf = true) :
    Calls Try.prog 11 #[.int .i64 a0, .int .i64 a1] w fun e w' => e = .returned (.bool true) ∧ Below w.heap.size w w' := by
  go_enter Try.func11, Try.ntmps11
  go_wp2_with (first | (go_at_call 30; refine (specGreatestStay _ _ _).mono ?_; rintro e w' ⟨rfl, rfl⟩) | (go_at_call 23; refine (implGreatestStay _ _ _).mono ?_; rintro e w1 ⟨rfl, hb⟩))
  go_ret
  exact ⟨rfl, hb⟩

end Go.Proofs.Ythpimanfkbeanaa
