/-
  impl.NextOf; spec.l3Next, spec.NextOf: what they answer; the exact law.
-/
import Derived.Test.YthpimanfkbeanaaNext
import Derived.Test.YthpimanfkbeanaaCalm
namespace Go.Proofs.Ythpimanfkbeanaa
open Go.RowKit Go.Shelf

/-- The box in which a rule lies, behind what writes nothing of before. -/
theorem rule_box {w w1 : World} {t b : Int} (h : Below (w.alloc (.cells #[.int .i64 t, .int .i64 b] 47)).heap.size (w.alloc (.cells #[.int .i64 t, .int .i64 b] 47)) w1) :
    w1.cell? ⟨w.heap.size, 0, none⟩ = some (.int .i64 t) ∧ w1.cell? ⟨w.heap.size, 1, none⟩ = some (.int .i64 b) ∧ Below w.heap.size w w1 ∧ w.heap.size < w1.heap.size :=
  ⟨(Below.cell h (p := ⟨w.heap.size, 0, none⟩) (v := .int .i64 t) (by simp) (by rw [World.cell?_alloc_new]; rfl)), (Below.cell h (p := ⟨w.heap.size, 1, none⟩) (v := .int .i64 b) (by simp) (by rw [World.cell?_alloc_new]; rfl)),
    ((Below.refl _ w).alloc (Nat.le_refl _) _).trans (h.mono (by simp)), by have := h.size; simp at this; omega⟩

set_option maxHeartbeats 400000 in
theorem implNextOf (n t b : Int) (w : World) :
    Calls Try.prog 14 #[.int .i64 n, .int .i64 t, .int .i64 b] w fun e W' => e = .returned (.int .i64 (Pl.nextI n t b)) ∧ Below w.heap.size w W' := by
  by_cases g1 : Pl.ruleB t b = true
  · by_cases g2 : Pl.okB n b = true
    · have h : Pl.okT n t b = true := by rw [Pl.okT, g1, g2]; rfl
      obtain ⟨x, s, k, rfl, rfl, rfl, hR, hx⟩ := Pl.okT_nat h
      rw [Pl.nextI_yes x s k h]
      go_enter Try.func14, Try.ntmps14
      go_wp2_with fail
      refine (ruleOk _ _ _).mono ?_
      rintro e w1 ⟨rfl, hb1⟩
      obtain ⟨c0, c1, hB, hlt⟩ := rule_box hb1
      clear hb1
      go_wp2_with (go_at_call 42; refine (hasDigits _ _ _).mono ?_; rintro e w' ⟨rfl, rfl⟩)
      refine (ruleNext s k x hR hx _).mono ?_
      rintro e w2 ⟨rfl, hb2⟩
      go_wp2
      go_ret
      exact ⟨rfl, hB.trans (hb2.mono hB.size)⟩
    · have h : ¬ Pl.okT n t b = true := by rw [Pl.okT, g1]; simpa using g2
      have g2' : Pl.okB n b = false := by simpa using g2
      rw [Pl.nextI_no h]
      clear h g2
      go_enter Try.func14, Try.ntmps14
      go_wp2_with fail
      refine (ruleOk _ _ _).mono ?_
      rintro e w1 ⟨rfl, hb1⟩
      obtain ⟨c0, c1, hB, hlt⟩ := rule_box hb1
      clear hb1
      go_wp2_with (go_at_call 42; refine (hasDigits _ _ _).mono ?_; rintro e w' ⟨rfl, rfl⟩)
      go_ret
      exact ⟨rfl, hB⟩
  · have h : ¬ Pl.okT n t b = true := by rw [Pl.okT]; simp [g1]
    have g1' : Pl.ruleB t b = false := by simpa using g1
    rw [Pl.nextI_no h]
    clear h g1
    go_enter Try.func14, Try.ntmps14
    go_wp2_with fail
    refine (ruleOk _ _ _).mono ?_
    rintro e w1 ⟨rfl, hb1⟩
    obtain ⟨c0, c1, hB, hlt⟩ := rule_box hb1
    clear hb1
    go_wp2_with fail
    go_ret
    exact ⟨rfl, hB⟩

set_option maxHeartbeats 1000000 in
theorem l3Next (t b x : Nat) (hR : Pl.RuleOk t b) (hx : x ≤ 1000000000) (w : World) :
    Calls Try.prog 45 #[.int .i64 x, .int .i64 t, .int .i64 b] w fun e w' => e = .returned (.int .i64 (Pl.nextN t b x)) ∧ w = w' := by
  have htop := Pl.next_le hR hx
  obtain ⟨ht1, ht2, hb, hb'⟩ := hR
  have hne : ((b : Int) == 0) = false := by simp; omega
  go_enter Try.func45, Try.ntmps45
  go_wp2
  go_loop [7, 8, 9, 10] (fun s l _ _ => ∃ (T left : Nat), T + Pl.nextN t b left = Pl.nextN t b x ∧ left ≤ x ∧ s = .int .i64 T ∧ l = .int .i64 left) (fun _ l _ _ => (intOf l).toNat)
  case atStart => exact ⟨0, x, by omega, by omega, rfl, rfl⟩
  case round =>
    obtain ⟨T, left, hT, hl, rfl, rfl⟩ := hrel
    have h0 : 0 ≤ (left : Int) / (b : Int) := Int.ediv_nonneg (by omega) (by omega)
    have h0' : 0 ≤ (left : Int) % (b : Int) := Int.emod_nonneg _ (by omega)
    by_cases hlt : 0 < left
    · have hst := Pl.nextN_step ht1 hb left
      have h1 : (left : Int) / (b : Int) < (left : Int) := show ((left / b : Nat) : Int) < (left : Int) from Int.ofNat_lt.2 (Nat.div_lt_self (by omega) (by omega))
      have hd : left % b < 16 := Nat.lt_of_lt_of_le (Nat.mod_lt _ (by omega)) hb'
      have hTt : T + (left % b) ^ t ≤ 22781250 := by omega
      have HT := Lib.hid hT
      have HM := Lib.hid hst
      clear hT hst
      go_wp2
      go_loop [9, 10] (fun p i => ∃ P I : Nat, I ≤ t ∧ P ≤ 759375 ∧ P = (left % b) ^ I ∧ p = .int .i64 P ∧ i = .int .i64 I) (fun _ i => t - (intOf i).toNat)
      case atStart => exact ⟨1, 0, by omega, by omega, by simp, rfl, rfl⟩
      case round =>
        obtain ⟨P, I, hI, hP, hPe, rfl, rfl⟩ := hrel
        by_cases hlt' : I < t
        · have hq : P * (left % b) = (left % b) ^ (I + 1) := by rw [hPe, Nat.pow_succ]
          have hq2 : P * (left % b) ≤ 759375 := by rw [hq]; exact Pl.pow_dg hd (by omega)
          have HQ := Lib.hid hq
          have HP := Lib.hid hPe
          have e : (P : Int) * ((left : Int) % (b : Int)) = ((P * (left % b) : Nat) : Int) := by rw [Int.natCast_mul]; rfl
          have e' : IntKind.i64.wrap ((P : Int) * ((left : Int) % (b : Int))) = ((P * (left % b) : Nat) : Int) := by
            rw [e]; exact IntWalk.i64_in _ (by omega)
          have hi : (I : Int) < (t : Int) := by omega
          clear hq hPe e hTt hd
          generalize P * (left % b) = Q at *
          go_wp2
          go_round
          case rel => exact ⟨Q, I + 1, by omega, hq2, HQ.out, rfl, by simp⟩
          case measure => simp [intOf]; omega
        · obtain rfl : I = t := by omega
          have HP := Lib.hid hPe
          rw [← hPe] at hTt
          clear hPe
          go_wp2
          go_round
          case rel => exact ⟨T + P, left / b, by rw [← HT.out, HM.out, HP.out]; omega, Nat.le_trans (Nat.div_le_self _ _) hl, by simp, rfl⟩
          case measure =>
            have := Nat.div_lt_self (n := left) (k := b) (by omega) (by omega)
            simp [intOf]; omega
    · obtain rfl : left = 0 := by omega
      have e0 : Pl.nextN t b 0 = 0 := Pl.nextN_zero ht1 hb
      rw [e0] at hT
      have HT := Lib.hid hT
      clear hT e0 h0 h0'
      go_wp2
      go_ret
      exact ⟨ret_int (by rw [← HT.out]; simp), rfl⟩

/-- What spec asks of a number, a number of times and a base. -/
theorem okT_halves (n t b : Int) : Pl.okT n t b = ((decide (0 ≤ n) && decide (n ≤ 1000000000)) && ((decide (1 ≤ t) && decide (t ≤ 5)) && Pl.baseB b)) := by
  rw [Bool.eq_iff_iff, Pl.okT, Bool.and_eq_true, Pl.ruleB_iff, Pl.okB_iff]
  simp [Pl.baseB_iff]; omega

theorem specTest3 (n t b : Int) (h : ¬ Pl.okT n t b = true) : (decide (0 ≤ n) && decide (n ≤ 1000000000)) = false ∨ ((decide (0 ≤ n) && decide (n ≤ 1000000000)) = true ∧ (decide (1 ≤ t) && decide (t ≤ 5)) = false) ∨
    ((decide (0 ≤ n) && decide (n ≤ 1000000000)) = true ∧ (decide (1 ≤ t) && decide (t ≤ 5)) = true ∧ Pl.baseB b = false) := by
  rw [okT_halves] at h
  generalize (decide (0 ≤ n) && decide (n ≤ 1000000000)) = A at *
  generalize (decide (1 ≤ t) && decide (t ≤ 5)) = B at *
  generalize Pl.baseB b = C at *
  cases A <;> cases B <;> cases C <;> simp_all

set_option maxHeartbeats 400000 in
theorem specNextOf (n t b : Int) (w : World) :
    Calls Try.prog 15 #[.int .i64 n, .int .i64 t, .int .i64 b] w fun e w' => e = .returned (.int .i64 (Pl.nextI n t b)) ∧ w = w' := by
  by_cases h : Pl.okT n t b = true
  · have hh := h
    rw [okT_halves] at hh
    obtain ⟨g1, g23⟩ := Bool.and_eq_true_iff.1 hh
    obtain ⟨g2, g3⟩ := Bool.and_eq_true_iff.1 g23
    clear hh g23
    obtain ⟨x, s, k, rfl, rfl, rfl, hR, hx⟩ := Pl.okT_nat h
    rw [Pl.nextI_yes x s k h]
    clear h
    go_enter Try.func15, Try.ntmps15
    go_wp2_with (first | (go_at_call 44; refine (specIn _ _ _ _).mono ?_; rintro e w' ⟨rfl, rfl⟩) | (go_at_call 28; refine (specBaseOk _ _).mono ?_; rintro e w' ⟨rfl, rfl⟩) | (go_at_call 45; refine (l3Next s k x hR hx _).mono ?_; rintro e w' ⟨rfl, rfl⟩))
    go_ret
    exact ⟨rfl, rfl⟩
  · rw [Pl.nextI_no h]
    rcases specTest3 n t b h with g1 | ⟨g1, g2⟩ | ⟨g1, g2, g3⟩
    all_goals
      clear h
      go_enter Try.func15, Try.ntmps15
      go_wp2_with (first | (go_at_call 44; refine (specIn _ _ _ _).mono ?_; rintro e w' ⟨rfl, rfl⟩) | (go_at_call 28; refine (specBaseOk _ _).mono ?_; rintro e w' ⟨rfl, rfl⟩))
      all_goals
        go_ret
        exact ⟨rfl, rfl⟩

set_option maxHeartbeats 400000 in
theorem FnExactNextOf_walk (a0 : Int) (a1 : Int) (a2 : Int) (w : World) (_w0 : (Lit.int .i64 a0).wf = true) (_w1 : (Lit.int .i64 a1).wf = true) (_w2 : (Lit.int .i64 a2).wf = true) :
    Calls Try.prog 8 #[.int .i64 a0, .int .i64 a1, .int .i64 a2] w fun e w' => e = .returned (.bool true) ∧ Below w.heap.size w w' := by
  go_enter Try.func8, Try.ntmps8
  go_wp2_with (first | (go_at_call 15; refine (specNextOf _ _ _ _).mono ?_; rintro e w' ⟨rfl, rfl⟩) | (go_at_call 14; refine (implNextOf _ _ _ _).mono ?_; rintro e w1 ⟨rfl, hb⟩))
  go_ret
  exact ⟨rfl, hb⟩

end Go.Proofs.Ythpimanfkbeanaa
