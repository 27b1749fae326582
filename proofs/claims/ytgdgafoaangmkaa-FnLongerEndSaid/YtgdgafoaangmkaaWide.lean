/-
  impl.WideOk, spec.WideOk, spec.l4Power at bases: what they answer; the exact law of WideOk.
-/
import Derived.Test.YtgdgafoaangmkaaDigitsOf
import Derived.Test.YtgdgafoaangmkaaMathSort
namespace Go.Proofs.Ytgdgafoaangmkaa
open Go.RowKit Go.Shelf

theorem Pl.len_le_pow {b : Nat} (hb : 2 ≤ b) : ∀ w n, n < b ^ (w + 1) → (Pl.digsR b n).length ≤ w + 1 := by
  intro w
  induction w with
  | zero => intro n h; rw [Pl.len_lt (by simpa using h)]; omega
  | succ w ih =>
    intro n h
    by_cases hn : n < b
    · rw [Pl.len_lt hn]; omega
    · rw [Pl.len_ge hb (by omega)]
      have h1 : n / b < b ^ (w + 1) := by rw [Nat.div_lt_iff_lt_mul (by omega), ← Nat.pow_succ]; exact h
      have := ih _ h1
      omega

theorem Pl.len_iff {b : Nat} (hb : 2 ≤ b) {w : Nat} (hw : 1 ≤ w) (n : Nat) : (Pl.digsR b n).length ≤ w ↔ n < b ^ w := by
  constructor
  · intro h
    exact Nat.lt_of_lt_of_le (Pl.lt_pow_len hb n) (Nat.pow_le_pow_right (by omega) h)
  · intro h
    obtain ⟨v, rfl⟩ : ∃ v, w = v + 1 := ⟨w - 1, by omega⟩
    exact Pl.len_le_pow hb v n h

theorem wideB_long {n w b : Int} (h1 : Pl.okB n b = true) (h2 : 2 ≤ w) (h3 : w ≤ 6) : Pl.wideB n w b = decide (longI n b ≤ w) := by
  obtain ⟨x, k, rfl, rfl, g1, g2, g3⟩ := Pl.okB_nat h1
  obtain ⟨v, rfl⟩ : ∃ v : Nat, w = (v : Int) := ⟨w.toNat, by omega⟩
  rw [Bool.eq_iff_iff, Pl.wideB_iff, longI_nat x k h1]
  have := Pl.len_iff g1 (w := v) (by omega) x
  simp only [decide_eq_true_eq]
  omega

theorem wideB_bad1 {n w b : Int} (h : ¬ Pl.okB n b = true) : Pl.wideB n w b = false := by simp [Pl.wideB, h]
theorem wideB_bad2 {n w b : Int} (h : ¬ 2 ≤ w) : Pl.wideB n w b = false := by simp [Pl.wideB, h]
theorem wideB_bad3 {n w b : Int} (h : ¬ w ≤ 6) : Pl.wideB n w b = false := by simp [Pl.wideB, h]

set_option maxHeartbeats 1000000 in
theorem basePower (d t : Nat) (hd : d ≤ 16) (ht : t ≤ 6) (w : World) :
    Calls Try.prog 43 #[.int .i64 d, .int .i64 t] w fun e w' => e = .returned (.int .i64 ((d ^ t : Nat) : Int)) ∧ w = w' := by
  obtain ⟨R, hR⟩ : ∃ R, d ^ t = R := ⟨_, rfl⟩
  rw [hR]
  have HR := Lib.hid hR
  clear hR
  go_enter Try.func43, Try.ntmps43
  go_wp2
  go_loop [5, 6] (fun p i => ∃ P I : Nat, I ≤ t ∧ P ≤ 16777216 ∧ P = d ^ I ∧ p = .int .i64 P ∧ i = .int .i64 I) (fun _ i => t - (intOf i).toNat)
  case atStart => exact ⟨1, 0, by omega, by omega, by simp, rfl, rfl⟩
  case round =>
    obtain ⟨P, I, hI, hP, hPe, rfl, rfl⟩ := hrel
    by_cases hlt : I < t
    · have hq : P * d = d ^ (I + 1) := by rw [hPe, Nat.pow_succ]
      have hq2 : P * d ≤ 16777216 := by rw [hq]; exact Pl.pow_le24 hd (by omega)
      have HQ := Lib.hid hq
      have e : IntKind.i64.wrap ((P : Int) * (d : Int)) = ((P * d : Nat) : Int) := by
        rw [← Int.natCast_mul]; exact IntWalk.i64_in _ (by omega)
      have hi : (I : Int) < (t : Int) := by omega
      clear hq hPe
      generalize P * d = Q at *
      go_wp2
      go_round
      case rel => exact ⟨Q, I + 1, by omega, hq2, HQ.out, rfl, by simp⟩
      case measure => simp [intOf]; omega
    · obtain rfl : I = t := by omega
      have HP := Lib.hid hPe
      clear hPe
      go_wp2
      go_ret
      exact ⟨ret_int (by rw [HP.out, HR.out]), rfl⟩

set_option maxHeartbeats 1000000 in
theorem timesBase (d t : Nat) (hd : d ≤ 16) (ht : t ≤ 6) (w : World) :
    Calls Try.prog 47 #[.int .i64 d, .int .i64 t] w fun e w' => e = .returned (.int .i64 ((d ^ t : Nat) : Int)) ∧ w = w' := by
  obtain ⟨R, hR⟩ : ∃ R, d ^ t = R := ⟨_, rfl⟩
  rw [hR]
  have HR := Lib.hid hR
  clear hR
  go_enter Try.func47, Try.ntmps47
  go_wp2
  go_loop [5, 7] (fun p i => ∃ P I : Nat, I ≤ t ∧ P ≤ 16777216 ∧ P = d ^ I ∧ p = .int .i64 P ∧ i = .int .i64 I) (fun _ i => t - (intOf i).toNat)
  case atStart => exact ⟨1, 0, by omega, by omega, by simp, rfl, rfl⟩
  case round =>
    obtain ⟨P, I, hI, hP, hPe, rfl, rfl⟩ := hrel
    by_cases hlt : I < t
    · have hq : P * d = d ^ (I + 1) := by rw [hPe, Nat.pow_succ]
      have hq2 : P * d ≤ 16777216 := by rw [hq]; exact Pl.pow_le24 hd (by omega)
      have HQ := Lib.hid hq
      have e : IntKind.i64.wrap ((P : Int) * (d : Int)) = ((P * d : Nat) : Int) := by
        rw [← Int.natCast_mul]; exact IntWalk.i64_in _ (by omega)
      have hi : (I : Int) < (t : Int) := by omega
      clear hq hPe
      generalize P * d = Q at *
      go_wp2
      go_round
      case rel => exact ⟨Q, I + 1, by omega, hq2, HQ.out, rfl, by simp⟩
      case measure => simp [intOf]; omega
    · obtain rfl : I = t := by omega
      have HP := Lib.hid hPe
      clear hPe
      go_wp2
      go_ret
      exact ⟨ret_int (by rw [HP.out, HR.out]), rfl⟩

end Go.Proofs.Ytgdgafoaangmkaa
