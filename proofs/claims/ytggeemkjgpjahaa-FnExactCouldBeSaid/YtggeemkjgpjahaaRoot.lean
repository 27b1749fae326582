/-
  Roots of digits: impl.rootAfter, RootOf, RootSteps; spec.l2Root, RootOf, RootSteps: what they answer.
-/
import Derived.Test.YtggeemkjgpjahaaSumOf
import Derived.Test.YtggeemkjgpjahaaMathRoot
namespace Go.Proofs.Ytggeemkjgpjahaa
open Go.RowKit Go.Shelf

namespace Pl
/-- The root as the functions answer: -1 for others. -/
def rootI (n b : Int) : Int := if okB n b = true then (rootN b.toNat n.toNat : Int) else -1
theorem rootI_yes (n b : Nat) (h : okB n b = true) : rootI n b = (rootN b n : Int) := by rw [rootI, if_pos h]; rfl
theorem rootI_no {n b : Int} (h : ¬ okB n b = true) : rootI n b = -1 := by rw [rootI, if_neg h]
/-- The steps as the functions answer: -1 for others. -/
def stepsI (n b : Int) : Int := if okB n b = true then (stepsN b.toNat n.toNat : Int) else -1
theorem stepsI_yes (n b : Nat) (h : okB n b = true) : stepsI n b = (stepsN b n : Int) := by rw [stepsI, if_pos h]; rfl
theorem stepsI_no {n b : Int} (h : ¬ okB n b = true) : stepsI n b = -1 := by rw [stepsI, if_neg h]
end Pl

set_option maxHeartbeats 400000 in
theorem rootAfter (b : Nat) (hb : 2 ≤ b) (hb' : b ≤ 16) (x : Nat) : x ≤ 1000000000 → ∀ (s : Nat) (w : World), s + Pl.stepsN b x ≤ 100 →
    Calls Try.prog 30 #[.int .i64 x, .int .i64 b, .int .i64 s] w fun e w' => e = .returned (.tuple #[.int .i64 (Pl.rootN b x), .int .i64 ((s : Int) + (Pl.stepsN b x : Int))]) ∧ Below w.heap.size w w' := by
  induction x using Nat.strongRecOn with
  | _ x ih =>
    intro hx s w hs
    by_cases hlt : x < b
    · have h1 := Lib.hid (Pl.rootN_lt hlt)
      have h2 := Lib.hid (Pl.stepsN_lt hlt)
      clear ih hs
      go_enter Try.func30, Try.ntmps30
      go_wp2_with fail
      go_ret2
      exact ⟨by rw [h1.out, h2.out]; simp, Below.refl _ _⟩
    · have hless := Pl.sumD_less hb (n := x) (by omega)
      have hst := Pl.stepsN_ge hb (n := x) (by omega)
      have IH : Hid (∀ (W : World), Calls Try.prog 30 #[.int .i64 (Pl.sumD b x), .int .i64 b, .int .i64 ((s : Int) + 1)] W fun e w' => e = .returned (.tuple #[.int .i64 (Pl.rootN b (Pl.sumD b x)), .int .i64 ((s : Int) + 1 + (Pl.stepsN b (Pl.sumD b x) : Int))]) ∧ Below W.heap.size W w') :=
        Lib.hid fun W => ih (Pl.sumD b x) hless (by omega) (s + 1) W (by omega)
      have h1 := Lib.hid (Pl.rootN_ge hb (n := x) (by omega))
      have h2 := Lib.hid hst
      have hs1 : (s : Int) + 1 ≤ 100 := by omega
      clear ih hs hst hless
      go_enter Try.func30, Try.ntmps30
      go_wp2_with fail
      refine (sumOfYes x b hb hb' hx _).mono ?_
      rintro e w1 ⟨rfl, hb1⟩
      go_wp2_with fail
      refine (IH.out _).mono ?_
      rintro e w2 ⟨rfl, hb2⟩
      go_wp2
      go_ret2
      exact ⟨by rw [h1.out, h2.out]; simp; omega, hb1.trans (hb2.mono hb1.size)⟩

set_option maxHeartbeats 400000 in
theorem implRootOf (n b : Int) (w : World) :
    Calls Try.prog 12 #[.int .i64 n, .int .i64 b] w fun e W' => e = .returned (.int .i64 (Pl.rootI n b)) ∧ Below w.heap.size w W' := by
  by_cases h : Pl.okB n b = true
  · obtain ⟨x, k, rfl, rfl, h1, h2, h3⟩ := Pl.okB_nat h
    have hs := Pl.steps_le h1 h2 h3
    rw [Pl.rootI_yes x k h]
    go_enter Try.func12, Try.ntmps12
    go_wp2_with (go_at_call 29; refine (hasDigits _ _ _).mono ?_; rintro e w' ⟨rfl, rfl⟩)
    refine (rootAfter k h1 h2 x h3 0 _ (by omega)).mono ?_
    rintro e w1 ⟨rfl, hb1⟩
    go_wp2
    go_ret
    exact ⟨rfl, hb1⟩
  · rw [Pl.rootI_no h]
    go_enter Try.func12, Try.ntmps12
    go_wp2_with (go_at_call 29; refine (hasDigits _ _ _).mono ?_; rintro e w' ⟨rfl, rfl⟩)
    go_ret
    exact ⟨rfl, Below.refl _ _⟩

set_option maxHeartbeats 400000 in
theorem implRootSteps (n b : Int) (w : World) :
    Calls Try.prog 16 #[.int .i64 n, .int .i64 b] w fun e W' => e = .returned (.int .i64 (Pl.stepsI n b)) ∧ Below w.heap.size w W' := by
  by_cases h : Pl.okB n b = true
  · obtain ⟨x, k, rfl, rfl, h1, h2, h3⟩ := Pl.okB_nat h
    have hs := Pl.steps_le h1 h2 h3
    rw [Pl.stepsI_yes x k h]
    go_enter Try.func16, Try.ntmps16
    go_wp2_with (go_at_call 29; refine (hasDigits _ _ _).mono ?_; rintro e w' ⟨rfl, rfl⟩)
    refine (rootAfter k h1 h2 x h3 0 _ (by omega)).mono ?_
    rintro e w1 ⟨rfl, hb1⟩
    go_wp2
    go_ret
    exact ⟨ret_int (by omega), hb1⟩
  · rw [Pl.stepsI_no h]
    go_enter Try.func16, Try.ntmps16
    go_wp2_with (go_at_call 29; refine (hasDigits _ _ _).mono ?_; rintro e w' ⟨rfl, rfl⟩)
    go_ret
    exact ⟨rfl, Below.refl _ _⟩

set_option maxHeartbeats 1000000 in
theorem l2Root (b : Nat) (hb : 2 ≤ b) (hb' : b ≤ 16) (x : Nat) (hx : x ≤ 1000000000) (w : World) :
    Calls Try.prog 32 #[.int .i64 x, .int .i64 b] w fun e w' => e = .returned (.int .i64 (Pl.rootN b x)) ∧ w = w' := by
  have hne : ((b : Int) == 0) = false := by simp; omega
  go_enter Try.func32, Try.ntmps32
  go_wp2
  go_loop [0, 5, 6] (fun n _ _ => ∃ y : Nat, y ≤ 1000000000 ∧ Pl.rootN b y = Pl.rootN b x ∧ n = .int .i64 y) (fun n _ _ => (intOf n).toNat)
  case atStart => exact ⟨x, hx, rfl, rfl⟩
  case round =>
    obtain ⟨y, hy, hr, rfl⟩ := hrel
    by_cases hlt : y < b
    · have h1 := Lib.hid (Pl.rootN_lt hlt)
      have HR := Lib.hid hr
      clear hr
      go_wp2
      go_ret
      exact ⟨ret_int (by rw [← HR.out, h1.out]), rfl⟩
    · have hle := Pl.sumD_le hb y
      have hless := Pl.sumD_less hb (n := y) (by omega)
      have h1 := Lib.hid (Pl.rootN_ge hb (n := y) (by omega))
      have HR := Lib.hid hr
      clear hr
      go_wp2
      go_loop [5, 6] (fun s l => ∃ (t left : Nat), t + Pl.sumD b left = Pl.sumD b y ∧ left ≤ y ∧ s = .int .i64 t ∧ l = .int .i64 left) (fun _ l => (intOf l).toNat)
      case atStart => exact ⟨0, y, by omega, by omega, rfl, rfl⟩
      case round =>
        obtain ⟨t, left, ht, hl, rfl, rfl⟩ := hrel
        have hst := Pl.sumD_step hb left
        have h0 : 0 ≤ (left : Int) / (b : Int) := Int.ediv_nonneg (by omega) (by omega)
        have h0' : 0 ≤ (left : Int) % (b : Int) := Int.emod_nonneg _ (by omega)
        have hm : left % b + Pl.sumD b (left / b) = Pl.sumD b left := hst.symm
        have hm' : (t : Int) + (left : Int) % (b : Int) ≤ 1000000000 := show (t : Int) + ((left % b : Nat) : Int) ≤ 1000000000 by omega
        by_cases hlt' : 0 < left
        · have hq : (left : Int) / (b : Int) < (left : Int) := show ((left / b : Nat) : Int) < (left : Int) from Int.ofNat_lt.2 (Nat.div_lt_self (by omega) (by omega))
          have HT := Lib.hid ht
          have HM := Lib.hid hm
          clear ht hm hst
          go_wp2
          go_round
          case rel => exact ⟨t + left % b, left / b, by rw [← HT.out, ← HM.out]; omega, Nat.le_trans (Nat.div_le_self _ _) hl, by simp, rfl⟩
          case measure =>
            have := Nat.div_lt_self (n := left) (k := b) (by omega) (by omega)
            simp [intOf]; omega
        · obtain rfl : left = 0 := by omega
          have e0 : Pl.sumD b 0 = 0 := Pl.sumD_lt (by omega)
          obtain rfl : t = Pl.sumD b y := by omega
          clear ht hm hst e0 h0 h0' hm'
          go_wp2
          go_round
          case rel => exact ⟨Pl.sumD b y, by omega, by rw [← h1.out, HR.out], rfl⟩
          case measure => simp [intOf]; omega

theorem specTest (n b : Int) (h : ¬ Pl.okB n b = true) : (decide (0 ≤ n) && decide (n ≤ 1000000000)) = false ∨ ((decide (0 ≤ n) && decide (n ≤ 1000000000)) = true ∧ Pl.baseB b = false) := by
  by_cases hn : (decide (0 ≤ n) && decide (n ≤ 1000000000)) = true
  · exact .inr ⟨hn, by cases hb : Pl.baseB b <;> simp_all [Pl.okB]⟩
  · exact .inl (by simpa using hn)

set_option maxHeartbeats 400000 in
theorem specRootOf (n b : Int) (w : World) :
    Calls Try.prog 13 #[.int .i64 n, .int .i64 b] w fun e w' => e = .returned (.int .i64 (Pl.rootI n b)) ∧ w = w' := by
  by_cases h : Pl.okB n b = true
  · obtain ⟨x, k, rfl, rfl, h1, h2, h3⟩ := Pl.okB_nat h
    have hB : Pl.baseB k = true := by rw [Pl.baseB_iff]; omega
    rw [Pl.rootI_yes x k h]
    go_enter Try.func13, Try.ntmps13
    go_wp2_with (first | (go_at_call 31; refine (specIn _ _ _ _).mono ?_; rintro e w' ⟨rfl, rfl⟩) | (go_at_call 26; refine (specBaseOk _ _).mono ?_; rintro e w' ⟨rfl, rfl⟩) | (go_at_call 32; refine (l2Root k h1 h2 x h3 _).mono ?_; rintro e w' ⟨rfl, rfl⟩))
    go_ret
    exact ⟨rfl, rfl⟩
  · rw [Pl.rootI_no h]
    rcases specTest n b h with hn | ⟨hn, hB⟩
    all_goals
      go_enter Try.func13, Try.ntmps13
      go_wp2_with (first | (go_at_call 31; refine (specIn _ _ _ _).mono ?_; rintro e w' ⟨rfl, rfl⟩) | (go_at_call 26; refine (specBaseOk _ _).mono ?_; rintro e w' ⟨rfl, rfl⟩))
      all_goals
        go_ret
        exact ⟨rfl, rfl⟩

set_option maxHeartbeats 1000000 in
theorem specRootSteps (n b : Int) (w : World) :
    Calls Try.prog 17 #[.int .i64 n, .int .i64 b] w fun e w' => e = .returned (.int .i64 (Pl.stepsI n b)) ∧ w = w' := by
  by_cases h : Pl.okB n b = true
  · obtain ⟨x, k, rfl, rfl, hb, hb', hx⟩ := Pl.okB_nat h
    have hB : Pl.baseB k = true := by rw [Pl.baseB_iff]; omega
    have hsx := Pl.steps_le hb hb' hx
    rw [Pl.stepsI_yes x k h]
    clear h
    go_enter Try.func17, Try.ntmps17
    go_wp2_with (first | (go_at_call 31; refine (specIn _ _ _ _).mono ?_; rintro e w' ⟨rfl, rfl⟩) | (go_at_call 26; refine (specBaseOk _ _).mono ?_; rintro e w' ⟨rfl, rfl⟩))
    go_loop [0, 5] (fun n s => ∃ y t : Nat, y ≤ 1000000000 ∧ t + Pl.stepsN k y = Pl.stepsN k x ∧ n = .int .i64 y ∧ s = .int .i64 t) (fun n _ => (intOf n).toNat)
    case atStart => exact ⟨x, 0, hx, by omega, rfl, rfl⟩
    case round =>
      obtain ⟨y, t, hy, hr, rfl, rfl⟩ := hrel
      by_cases hlt : y < k
      · have h1 := Lib.hid (Pl.stepsN_lt hlt)
        have HR := Lib.hid hr
        clear hr
        go_wp2_with fail
        go_ret
        exact ⟨ret_int (by rw [← HR.out, h1.out]; rfl), rfl⟩
      · have hle := Pl.sumD_le hb y
        have hless := Pl.sumD_less hb (n := y) (by omega)
        have hst := Pl.stepsN_ge hb (n := y) (by omega)
        have h1 := Lib.hid hst
        have HR := Lib.hid hr
        have ht : (t : Int) + 1 ≤ 100 := by omega
        clear hr hst
        go_wp2_with fail
        refine (specSumYes y k hb hb' hy _).mono ?_
        rintro e w' ⟨rfl, rfl⟩
        go_wp2
        go_round
        case rel => exact ⟨Pl.sumD k y, t + 1, by omega, by have := h1.out; have := HR.out; omega, rfl, by simp⟩
        case measure => simp [intOf]; omega
  · rw [Pl.stepsI_no h]
    rcases specTest n b h with hn | ⟨hn, hB⟩
    all_goals
      go_enter Try.func17, Try.ntmps17
      go_wp2_with (first | (go_at_call 31; refine (specIn _ _ _ _).mono ?_; rintro e w' ⟨rfl, rfl⟩) | (go_at_call 26; refine (specBaseOk _ _).mono ?_; rintro e w' ⟨rfl, rfl⟩))
      all_goals
        go_ret
        exact ⟨rfl, rfl⟩

set_option maxHeartbeats 400000 in
theorem FnExactRootOf_walk (a0 : Int) (a1 : Int) (w : World) (_w0 : (Lit.int .i64 a0).wf = true) (_w1 : (Lit.int .i64 a1).wf = true) :
    Calls Try.prog 7 #[.int .i64 a0, .int .i64 a1] w fun e w' => e = .returned (.bool true) ∧ Below w.heap.size w w' := by
  go_enter Try.func7, Try.ntmps7
  go_wp2_with (first | (go_at_call 13; refine (specRootOf _ _ _).mono ?_; rintro e w' ⟨rfl, rfl⟩) | (go_at_call 12; refine (implRootOf _ _ _).mono ?_; rintro e w1 ⟨rfl, hb⟩))
  go_ret
  exact ⟨rfl, hb⟩

set_option maxHeartbeats 400000 in
theorem FnExactRootSteps_walk (a0 : Int) (a1 : Int) (w : World) (_w0 : (Lit.int .i64 a0).wf = true) (_w1 : (Lit.int .i64 a1).wf = true) :
    Calls Try.prog 8 #[.int .i64 a0, .int .i64 a1] w fun e w' => e = .returned (.bool true) ∧ Below w.heap.size w w' := by
  go_enter Try.func8, Try.ntmps8
  go_wp2_with (first | (go_at_call 17; refine (specRootSteps _ _ _).mono ?_; rintro e w' ⟨rfl, rfl⟩) | (go_at_call 16; refine (implRootSteps _ _ _).mono ?_; rintro e w1 ⟨rfl, hb⟩))
  go_ret
  exact ⟨rfl, hb⟩

end Go.Proofs.Ytggeemkjgpjahaa
