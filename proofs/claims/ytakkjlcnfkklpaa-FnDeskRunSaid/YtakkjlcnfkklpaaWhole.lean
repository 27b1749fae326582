/-
  WholeOf, of the program and of the model: the number of a row of digits.
-/
import Derived.Test.YtakkjlcnfkklpaaList
namespace Go.Proofs.Ytakkjlcnfkklpaa
open Go.RowKit

theorem ret_whole {a b : Int} {c d : Bool} (h1 : a = b) (h2 : c = d) : Ending.returned (.tuple #[.int .i64 a, .bool c]) = .returned (.tuple #[.int .i64 b, .bool d]) := by rw [h1, h2]

set_option maxHeartbeats 1000000 in
theorem implWholeYes (v : Value) (xs : List Int) (b : Nat) (w : World) (hv : Ints w v xs) (hx : xs.length ≤ 1000000000) (h0 : xs ≠ []) (hb : 2 ≤ b) (hb' : b ≤ 16) :
    Calls Try.prog 79 #[v, .int .i64 b] w fun e w' => e = .returned (.tuple #[.int .i64 (Pl.wV (Pl.wholeO b xs 0)), .bool (Pl.wB (Pl.wholeO b xs 0))]) ∧ w = w' := by
  obtain ⟨a, cap, rfl, ha⟩ := hv
  have hB : Pl.baseB b = true := by rw [Pl.baseB_iff]; omega
  have hpos : 0 < xs.length := by rw [List.length_pos_iff]; exact h0
  obtain ⟨n, hn⟩ : ∃ n, xs.length = n := ⟨_, rfl⟩
  have HN := Lib.hid hn
  rw [hn] at ha hx hpos ⊢
  clear hn h0
  have hne : ((n : Int) == 0) = false := by simp; omega
  have hb0 : ((b : Int) == 0) = false := by simp; omega
  generalize hR : Pl.wholeO b xs 0 = R
  have HR := Lib.hid hR
  clear hR
  go_enter Try.func79, Try.ntmps79
  go_wp2_with (go_at_call 42; refine (implBaseOk _ _).mono ?_; rintro e w' ⟨rfl, rfl⟩)
  go_loop [6, 8, 19] (fun acc _ i => ∃ (k t : Nat), k ≤ n ∧ i = .int .i64 k ∧ acc = .int .i64 t ∧ t ≤ 1000000000 ∧ Pl.wholeO b (xs.drop k) t = R) (fun _ _ i => n - (intOf i).toNat)
  case atStart => exact ⟨0, 0, Nat.zero_le _, rfl, rfl, by omega, HR.out⟩
  case round =>
    obtain ⟨k, t, hk, rfl, rfl, ht, hr⟩ := hrel
    by_cases hlt : k < n
    · obtain ⟨bb, off, rfl, hc⟩ := ha k hlt
      rw [Pl.drop_cons (by have := HN.out; omega)] at hr
      clear ha
      generalize xs[k]?.getD 0 = d at *
      have hi : (k : Int) < (n : Int) := by omega
      by_cases g0 : d < 0
      · rw [Pl.wholeO_bad _ _ _ _ (by omega)] at hr
        have HX := Lib.hid hr
        clear hr
        go_wp2
        go_ret2
        exact ⟨ret_whole (by rw [← HX.out]; rfl) (by rw [← HX.out]; rfl), rfl⟩
      · by_cases g1 : (b : Int) ≤ d
        · rw [Pl.wholeO_bad _ _ _ _ (by omega)] at hr
          have HX := Lib.hid hr
          clear hr
          go_wp2
          go_ret2
          exact ⟨ret_whole (by rw [← HX.out]; rfl) (by rw [← HX.out]; rfl), rfl⟩
        · have hmul0 : 0 ≤ (t : Int) * (b : Int) := Int.mul_nonneg (by omega) (by omega)
          have hmul1 : (t : Int) * (b : Int) ≤ 16000000000 := by
            have : (t : Int) * (b : Int) ≤ 1000000000 * 16 := Int.mul_le_mul (by omega) (by omega) (by omega) (by omega)
            omega
          by_cases g2 : (t : Int) * b + d ≤ 1000000000
          · rw [Pl.wholeO_good _ _ _ _ ⟨⟨by omega, by omega⟩, g2⟩] at hr
            have g3 : ¬ (1000000000 - d) / (b : Int) < (t : Int) := by rw [Int.ediv_lt_iff_lt_mul (by omega)]; omega
            have HX := Lib.hid hr
            clear hr
            go_wp2
            go_round
            case rel => exact ⟨k + 1, t * b + d.toNat, by omega, by go_num, by rw [show ((t * b + d.toNat : Nat) : Int) = (t : Int) * b + d from by rw [Int.natCast_add, Int.natCast_mul, Int.toNat_of_nonneg (by omega)]], by omega, HX.out⟩
            case measure => simp [intOf]; omega
          · rw [Pl.wholeO_bad _ _ _ _ (by omega)] at hr
            have g3 : (1000000000 - d) / (b : Int) < (t : Int) := by rw [Int.ediv_lt_iff_lt_mul (by omega)]; omega
            have HX := Lib.hid hr
            clear hr
            go_wp2
            go_ret2
            exact ⟨ret_whole (by rw [← HX.out]; rfl) (by rw [← HX.out]; rfl), rfl⟩
    · obtain rfl : k = n := by omega
      rw [List.drop_of_length_le (by have := HN.out; omega), Pl.wholeO] at hr
      have HX := Lib.hid hr
      clear ha hr
      go_wp2
      go_ret2
      exact ⟨ret_whole (by rw [← HX.out]; rfl) (by rw [← HX.out]; rfl), rfl⟩

theorem whole_yes {xs : List Int} {b : Nat} (h0 : xs ≠ []) (hb : 2 ≤ b) (hb' : b ≤ 16) : Pl.whole xs b = Pl.wholeO b xs 0 := by
  rw [Pl.whole, if_pos ⟨by rw [Pl.baseB_iff]; omega, h0⟩]; rfl

theorem baseB_nat {b : Int} (h : Pl.baseB b = true) : ∃ k : Nat, b = (k : Int) ∧ 2 ≤ k ∧ k ≤ 16 := by
  rw [Pl.baseB_iff] at h; exact ⟨b.toNat, by omega, by omega, by omega⟩

set_option maxHeartbeats 1000000 in
theorem implWholeOf (v : Value) (xs : List Int) (b : Int) (w : World) (hv : Ints w v xs) (hx : xs.length ≤ 1000000000) :
    Calls Try.prog 79 #[v, .int .i64 b] w fun e w' => e = .returned (.tuple #[.int .i64 (Pl.wV (Pl.whole xs b)), .bool (Pl.wB (Pl.whole xs b))]) ∧ w = w' := by
  by_cases hB : Pl.baseB b = true
  · by_cases h0 : xs = []
    · subst h0
      obtain ⟨a, cap, rfl, ha⟩ := hv
      go_enter Try.func79, Try.ntmps79
      go_wp2_with (go_at_call 42; refine (implBaseOk _ _).mono ?_; rintro e w' ⟨rfl, rfl⟩)
      go_ret2
      exact ⟨ret_whole (by simp [Pl.whole, Pl.wV]) (by simp [Pl.whole, Pl.wB]), rfl⟩
    · obtain ⟨k, rfl, h1, h2⟩ := baseB_nat hB
      rw [whole_yes h0 h1 h2]
      exact implWholeYes v xs k w hv hx h0 h1 h2
  · obtain ⟨a, cap, rfl, ha⟩ := hv
    have hB' : Pl.baseB b = false := by simpa using hB
    have e1 : Pl.whole xs b = none := by rw [Pl.whole, if_neg (by simp [hB'])]
    rw [e1]
    clear hB e1 ha
    go_enter Try.func79, Try.ntmps79
    go_wp2_with (go_at_call 42; refine (implBaseOk _ _).mono ?_; rintro e w' ⟨rfl, rfl⟩)
    go_ret2
    exact ⟨rfl, rfl⟩

end Go.Proofs.Ytakkjlcnfkklpaa
