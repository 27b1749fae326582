/-
  impl.WideOk, spec.WideOk, spec.l4Power at bases: what they answer; the exact law of WideOk.
-/
import Derived.Test.YtepkneeedkmaoaaDigitsOf
import Derived.Test.YtepkneeedkmaoaaMathSort
namespace Go.Proofs.Ytepkneeedkmaoaa
open Go.RowKit Go.Shelf

theorem Pl.len_le_pow {b : Nat} (hb : 2 ≤ b) : ∀ w n, n < b ^ (w + 1) → (Pl.digsR b n).length ≤ w + 1 := by
  intro w
  induction w with
  | zero => intro n h; rw [Pl.len_lt (by simpa using h)]; omega
  | succ w ih =>
    intro n h
    by_cases hn : n < b
    · rw [Pl.len_lt hn]; omega
    · rw [Pl.len_ge hb (by omega)]
      have h1 : n / b < b ^ (w + 1) := by rw [Nat.div_lt_iff_lt_mul (by omega), ← Nat.pow_succ]; exact h
      have := ih _ h1
      omega

theorem Pl.len_iff {b : Nat} (hb : 2 ≤ b) {w : Nat} (hw : 1 ≤ w) (n : Nat) : (Pl.digsR b n).length ≤ w ↔ n < b ^ w := by
  constructor
  · intro h
    exact Nat.lt_of_lt_of_le (Pl.lt_pow_len hb n) (Nat.pow_le_pow_right (by omega) h)
  · intro h
    obtain ⟨v, rfl⟩ : ∃ v, w = v + 1 := ⟨w - 1, by omega⟩
    exact Pl.len_le_pow hb v n h

theorem wideB_long {n w b : Int} (h1 : Pl.okB n b = true) (h2 : 2 ≤ w) (h3 : w ≤ 6) : Pl.wideB n w b = decide (longI n b ≤ w) := by
  obtain ⟨x, k, rfl, rfl, g1, g2, g3⟩ := Pl.okB_nat h1
  obtain ⟨v, rfl⟩ : ∃ v : Nat, w = (v : Int) := ⟨w.toNat, by omega⟩
  rw [Bool.eq_iff_iff, Pl.wideB_iff, longI_nat x k h1]
  have := Pl.len_iff g1 (w := v) (by omega) x
  simp only [decide_eq_true_eq]
  omega

theorem wideB_bad1 {n w b : Int} (h : ¬ Pl.okB n b = true) : Pl.wideB n w b = false := by simp [Pl.wideB, h]
theorem wideB_bad2 {n w b : Int} (h : ¬ 2 ≤ w) : Pl.wideB n w b = false := by simp [Pl.wideB, h]
theorem wideB_bad3 {n w b : Int} (h : ¬ w ≤ 6) : Pl.wideB n w b = false := by simp [Pl.wideB, h]

set_option maxHeartbeats 400000 in
theorem implWideOk (n w b : Int) (W : World) :
    Calls Try.prog 16 #[.int .i64 n, .int .i64 w, .int .i64 b] W fun e W' => e = .returned (.bool (Pl.wideB n w b)) ∧ Below W.heap.size W W' := by
  by_cases h1 : Pl.okB n b = true
  · by_cases h2 : 2 ≤ w
    · by_cases h3 : w ≤ 6
      · rw [wideB_long h1 h2 h3]
        go_enter Try.func16, Try.ntmps16
        go_wp2_with (first | (go_at_call 42; refine (hasDigits _ _ _).mono ?_; rintro e w' ⟨rfl, rfl⟩; rw [h1]) | (go_at_call 19; refine (implLongOf _ _ _).mono ?_; rintro e w1 ⟨rfl, hb1⟩))
        go_ret
        exact ⟨rfl, hb1⟩
      · rw [wideB_bad3 h3]
        go_enter Try.func16, Try.ntmps16
        go_wp2_with (first | (go_at_call 42; refine (hasDigits _ _ _).mono ?_; rintro e w' ⟨rfl, rfl⟩; rw [h1]) | (go_at_call 19; refine (implLongOf _ _ _).mono ?_; rintro e w1 ⟨rfl, hb1⟩))
        go_ret
        exact ⟨rfl, Below.refl _ _⟩
    · rw [wideB_bad2 h2]
      go_enter Try.func16, Try.ntmps16
      go_wp2_with (first | (go_at_call 42; refine (hasDigits _ _ _).mono ?_; rintro e w' ⟨rfl, rfl⟩; rw [h1]) | (go_at_call 19; refine (implLongOf _ _ _).mono ?_; rintro e w1 ⟨rfl, hb1⟩))
      go_ret
      exact ⟨rfl, Below.refl _ _⟩
  · rw [wideB_bad1 h1]
    have h1' : Pl.okB n b = false := by simpa using h1
    clear h1
    go_enter Try.func16, Try.ntmps16
    go_wp2_with (first | (go_at_call 42; refine (hasDigits _ _ _).mono ?_; rintro e w' ⟨rfl, rfl⟩; rw [h1']) | (go_at_call 19; refine (implLongOf _ _ _).mono ?_; rintro e w1 ⟨rfl, hb1⟩))
    go_ret
    exact ⟨rfl, Below.refl _ _⟩

set_option maxHeartbeats 1000000 in
theorem basePower (d t : Nat) (hd : d ≤ 16) (ht : t ≤ 6) (w : World) :
    Calls Try.prog 45 #[.int .i64 d, .int .i64 t] w fun e w' => e = .returned (.int .i64 ((d ^ t : Nat) : Int)) ∧ w = w' := by
  obtain ⟨R, hR⟩ : ∃ R, d ^ t = R := ⟨_, rfl⟩
  rw [hR]
  have HR := Lib.hid hR
  clear hR
  go_enter Try.func45, Try.ntmps45
  go_wp2
  go_loop [5, 6] (fun p i => ∃ P I : Nat, I ≤ t ∧ P ≤ 16777216 ∧ P = d ^ I ∧ p = .int .i64 P ∧ i = .int .i64 I) (fun _ i => t - (intOf i).toNat)
  case atStart => exact ⟨1, 0, by omega, by omega, by simp, rfl, rfl⟩
  case round =>
    obtain ⟨P, I, hI, hP, hPe, rfl, rfl⟩ := hrel
    by_cases hlt : I < t
    · have hq : P * d = d ^ (I + 1) := by rw [hPe, Nat.pow_succ]
      have hq2 : P * d ≤ 16777216 := by rw [hq]; exact Pl.pow_le24 hd (by omega)
      have HQ := Lib.hid hq
      have e : IntKind.i64.wrap ((P : Int) * (d : Int)) = ((P * d : Nat) : Int) := by
        rw [← Int.natCast_mul]; exact IntWalk.i64_in _ (by omega)
      have hi : (I : Int) < (t : Int) := by omega
      clear hq hPe
      generalize P * d = Q at *
      go_wp2
      go_round
      case rel => exact ⟨Q, I + 1, by omega, hq2, HQ.out, rfl, by simp⟩
      case measure => simp [intOf]; omega
    · obtain rfl : I = t := by omega
      have HP := Lib.hid hPe
      clear hPe
      go_wp2
      go_ret
      exact ⟨ret_int (by rw [HP.out, HR.out]), rfl⟩

set_option maxHeartbeats 800000 in
theorem specWideOk (n w b : Int) (W : World) :
    Calls Try.prog 17 #[.int .i64 n, .int .i64 w, .int .i64 b] W fun e W' => e = .returned (.bool (Pl.wideB n w b)) ∧ W = W' := by
  by_cases h1 : (decide (2 ≤ w) && decide (w ≤ 6)) = true
  · by_cases h2 : Pl.baseB b = true
    · by_cases h3 : 0 ≤ n
      · have g1 := h1
        simp at g1
        have g2 := (Pl.baseB_iff b).1 h2
        obtain ⟨x, rfl⟩ : ∃ x : Nat, n = (x : Int) := ⟨n.toNat, by omega⟩
        obtain ⟨v, rfl⟩ : ∃ v : Nat, w = (v : Int) := ⟨w.toNat, by omega⟩
        obtain ⟨k, rfl⟩ : ∃ k : Nat, b = (k : Int) := ⟨b.toNat, by omega⟩
        have hw : Pl.wideB x v k = decide ((x : Int) < ((k ^ v : Nat) : Int)) := by
          rw [Bool.eq_iff_iff, Pl.wideB_iff]
          simp only [decide_eq_true_eq]
          omega
        have HP := Lib.hid (basePower k v (by omega) (by omega))
        rw [hw]
        clear g1 g2 hw
        generalize k ^ v = P at *
        go_enter Try.func17, Try.ntmps17
        go_wp2_with (first | (go_at_call 43; refine (specIn _ _ _ _).mono ?_; rintro e w' ⟨rfl, rfl⟩; rw [h1]) | (go_at_call 44; refine (specBaseOk _ _).mono ?_; rintro e w' ⟨rfl, rfl⟩; rw [h2]) | (go_at_call 45; refine (HP.out _).mono ?_; rintro e w' ⟨rfl, rfl⟩))
        go_ret
        exact ⟨ret_bool (by simp), rfl⟩
      · have hw : Pl.wideB n w b = false := wideB_bad1 (by rw [Pl.okB_iff]; omega)
        rw [hw]
        go_enter Try.func17, Try.ntmps17
        go_wp2_with (first | (go_at_call 43; refine (specIn _ _ _ _).mono ?_; rintro e w' ⟨rfl, rfl⟩; rw [h1]) | (go_at_call 44; refine (specBaseOk _ _).mono ?_; rintro e w' ⟨rfl, rfl⟩; rw [h2]))
        go_ret
        exact ⟨rfl, rfl⟩
    · have hw : Pl.wideB n w b = false := wideB_bad1 (by rw [Pl.okB_iff]; rw [Pl.baseB_iff] at h2; omega)
      have h2' : Pl.baseB b = false := by simpa using h2
      rw [hw]
      clear h2
      go_enter Try.func17, Try.ntmps17
      go_wp2_with (first | (go_at_call 43; refine (specIn _ _ _ _).mono ?_; rintro e w' ⟨rfl, rfl⟩; rw [h1]) | (go_at_call 44; refine (specBaseOk _ _).mono ?_; rintro e w' ⟨rfl, rfl⟩; rw [h2']))
      go_ret
      exact ⟨rfl, rfl⟩
  · have hw : Pl.wideB n w b = false := by
      by_cases h2 : 2 ≤ w
      · by_cases h3 : w ≤ 6
        · simp [h2, h3] at h1
        · exact wideB_bad3 h3
      · exact wideB_bad2 h2
    have h1' : (decide (2 ≤ w) && decide (w ≤ 6)) = false := by simpa using h1
    rw [hw]
    clear h1
    go_enter Try.func17, Try.ntmps17
    go_wp2_with (first | (go_at_call 43; refine (specIn _ _ _ _).mono ?_; rintro e w' ⟨rfl, rfl⟩; rw [h1']))
    go_ret
    exact ⟨rfl, rfl⟩

set_option maxHeartbeats 400000 in
theorem FnExactWideOk_walk (a0 : Int) (a1 : Int) (a2 : Int) (w : World) (_w0 : (Lit.int .i64 a0).wf = true) (_w1 : (Lit.int .i64 a1).wf = true) (_w2 : (Lit.int .i64 a2).wf = true) :
    Calls Try.prog 9 #[.int .i64 a0, .int .i64 a1, .int .i64 a2] w fun e w' => e = .returned (.bool true) ∧ Below w.heap.size w w' := by
  go_enter Try.func9, Try.ntmps9
  go_wp2_with (first | (go_at_call 17; refine (specWideOk _ _ _ _).mono ?_; rintro e w' ⟨rfl, rfl⟩) | (go_at_call 16; refine (implWideOk _ _ _ _).mono ?_; rintro e w1 ⟨rfl, hb⟩))
  all_goals
    go_ret
    exact ⟨rfl, hb⟩

end Go.Proofs.Ytepkneeedkmaoaa
