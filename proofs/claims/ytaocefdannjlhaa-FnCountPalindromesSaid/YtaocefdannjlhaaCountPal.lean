/-
  CountPalindromes, of the program and of the model; its exact law.
-/
import Derived.Test.YtaocefdannjlhaaWide
import Derived.Test.YtaocefdannjlhaaTurned
namespace Go.Proofs.Ytaocefdannjlhaa
open Go.RowKit Go.Shelf

namespace Pl

/-- How many palindromes of so many digits, as the functions answer. -/
def cntI (l b : Int) : Int := if (1 ≤ l ∧ l ≤ 6) ∧ baseB b = true then (((b.toNat - 1) * b.toNat ^ ((l.toNat - 1) / 2) : Nat) : Int) else -1
theorem cntI_yes {l b : Nat} (h1 : 1 ≤ l) (h2 : l ≤ 6) (h3 : 2 ≤ b) (h4 : b ≤ 16) : cntI l b = (((b - 1) * b ^ ((l - 1) / 2) : Nat) : Int) := by
  rw [cntI, if_pos ⟨by omega, by rw [baseB_iff]; omega⟩]; rfl
theorem cntI_no {l b : Int} (h : ¬ ((1 ≤ l ∧ l ≤ 6) ∧ baseB b = true)) : cntI l b = -1 := by rw [cntI, if_neg h]
theorem cnt_le {l b : Nat} (h2 : l ≤ 6) (h4 : b ≤ 16) : b ^ ((l - 1) / 2) ≤ 256 ∧ (b - 1) * b ^ ((l - 1) / 2) ≤ 3840 := by
  have h5 : b ^ ((l - 1) / 2) ≤ 16 ^ ((l - 1) / 2) := Nat.pow_le_pow_left h4 _
  have h6 : (16 : Nat) ^ ((l - 1) / 2) ≤ 16 ^ 2 := Nat.pow_le_pow_right (by omega) (by omega)
  have h7 : b ^ ((l - 1) / 2) ≤ 256 := by omega
  refine ⟨h7, ?_⟩
  have : (b - 1) * b ^ ((l - 1) / 2) ≤ 15 * 256 := Nat.mul_le_mul (by omega) h7
  omega

end Pl

set_option maxHeartbeats 1000000 in
theorem timesBase (d t : Nat) (hd : d ≤ 16) (ht : t ≤ 6) (w : World) :
    Calls Try.prog 51 #[.int .i64 d, .int .i64 t] w fun e w' => e = .returned (.int .i64 ((d ^ t : Nat) : Int)) ∧ w = w' := by
  obtain ⟨R, hR⟩ : ∃ R, d ^ t = R := ⟨_, rfl⟩
  rw [hR]
  have HR := Lib.hid hR
  clear hR
  go_enter Try.func51, Try.ntmps51
  go_wp2
  go_loop [5, 7] (fun p i => ∃ P I : Nat, I ≤ t ∧ P ≤ 16777216 ∧ P = d ^ I ∧ p = .int .i64 P ∧ i = .int .i64 I) (fun _ i => t - (intOf i).toNat)
  case atStart => exact ⟨1, 0, by omega, by omega, by simp, rfl, rfl⟩
  case round =>
    obtain ⟨P, I, hI, hP, hPe, rfl, rfl⟩ := hrel
    by_cases hlt : I < t
    · have hq : P * d = d ^ (I + 1) := by rw [hPe, Nat.pow_succ]
      have hq2 : P * d ≤ 16777216 := by rw [hq]; exact Pl.pow_le24 hd (by omega)
      have HQ := Lib.hid hq
      have e : IntKind.i64.wrap ((P : Int) * (d : Int)) = ((P * d : Nat) : Int) := by
        rw [← Int.natCast_mul]; exact IntWalk.i64_in _ (by omega)
      have hi : (I : Int) < (t : Int) := by omega
      clear hq hPe
      generalize P * d = Q at *
      go_wp2
      go_round
      case rel => exact ⟨Q, I + 1, by omega, hq2, HQ.out, rfl, by simp⟩
      case measure => simp [intOf]; omega
    · obtain rfl : I = t := by omega
      have HP := Lib.hid hPe
      clear hPe
      go_wp2
      go_ret
      exact ⟨ret_int (by rw [HP.out, HR.out]), rfl⟩

set_option maxHeartbeats 1000000 in
theorem implCountPal (l b : Int) (w : World) :
    Calls Try.prog 25 #[.int .i64 l, .int .i64 b] w fun e w' => e = .returned (.int .i64 (Pl.cntI l b)) ∧ w = w' := by
  by_cases hB : Pl.baseB b = true
  · by_cases h1 : 1 ≤ l
    · by_cases h2 : l ≤ 6
      · obtain ⟨k, rfl, hk1, hk2⟩ := baseB_nat hB
        obtain ⟨m, rfl⟩ : ∃ m : Nat, l = (m : Int) := ⟨l.toNat, by omega⟩
        rw [Pl.cntI_yes (by omega) (by omega) hk1 hk2]
        obtain ⟨q1, q2⟩ := Pl.cnt_le (l := m) (b := k) (by omega) hk2
        obtain ⟨t, ht⟩ : ∃ t, (m - 1) / 2 = t := ⟨_, rfl⟩
        have e1 : ((m : Int) - 1).tdiv 2 = (t : Int) := by rw [← ht, show (m : Int) - 1 = ((m - 1 : Nat) : Int) by omega]; rfl
        have e2 : ((m : Int) - 1) / 2 = (t : Int) := by omega
        rw [ht] at q1 q2 ⊢
        have HT := Lib.hid (timesBase k t hk2 (by omega))
        have e3 : ((k : Int) - 1) * ((k ^ t : Nat) : Int) = (((k - 1) * k ^ t : Nat) : Int) := by
          rw [Int.natCast_mul, show ((k - 1 : Nat) : Int) = (k : Int) - 1 by omega]
        clear ht
        generalize k ^ t = P at *
        generalize hV : (k - 1) * P = V at *
        clear hV
        have e4 : IntKind.i64.wrap (((k : Int) - 1) * (P : Int)) = (V : Int) := by rw [e3]; exact IntWalk.i64_in _ (by omega)
        have E3 := Lib.hid e3
        clear e3
        go_enter Try.func25, Try.ntmps25
        go_wp2_with (first | (go_at_call 46; refine (implBaseOk _ _).mono ?_; rintro e w' ⟨rfl, rfl⟩; rw [hB]) | (go_at_call 51; refine (HT.out _).mono ?_; rintro e w' ⟨rfl, rfl⟩))
        go_ret
        exact ⟨ret_int (by first | rfl | exact E3.out | exact e4), rfl⟩
      · rw [Pl.cntI_no (fun hh => h2 hh.1.2)]
        go_enter Try.func25, Try.ntmps25
        go_wp2_with (go_at_call 46; refine (implBaseOk _ _).mono ?_; rintro e w' ⟨rfl, rfl⟩; rw [hB])
        go_ret
        exact ⟨rfl, rfl⟩
    · rw [Pl.cntI_no (fun hh => h1 hh.1.1)]
      go_enter Try.func25, Try.ntmps25
      go_wp2_with (go_at_call 46; refine (implBaseOk _ _).mono ?_; rintro e w' ⟨rfl, rfl⟩; rw [hB])
      go_ret
      exact ⟨rfl, rfl⟩
  · rw [Pl.cntI_no (fun hh => hB hh.2)]
    have hB' : Pl.baseB b = false := by simpa using hB
    clear hB
    go_enter Try.func25, Try.ntmps25
    go_wp2_with (go_at_call 46; refine (implBaseOk _ _).mono ?_; rintro e w' ⟨rfl, rfl⟩; rw [hB'])
    go_ret
    exact ⟨rfl, rfl⟩

set_option maxHeartbeats 1000000 in
theorem specCountPal (l b : Int) (w : World) :
    Calls Try.prog 26 #[.int .i64 l, .int .i64 b] w fun e w' => e = .returned (.int .i64 (Pl.cntI l b)) ∧ w = w' := by
  by_cases hn : (decide (1 ≤ l) && decide (l ≤ 6)) = true
  · have hn2 : 1 ≤ l ∧ l ≤ 6 := by simpa using hn
    by_cases hB : Pl.baseB b = true
    · obtain ⟨k, rfl, hk1, hk2⟩ := baseB_nat hB
      obtain ⟨m, rfl⟩ : ∃ m : Nat, l = (m : Int) := ⟨l.toNat, by omega⟩
      rw [Pl.cntI_yes (by omega) (by omega) hk1 hk2]
      obtain ⟨q1, q2⟩ := Pl.cnt_le (l := m) (b := k) (by omega) hk2
      obtain ⟨t, ht⟩ : ∃ t, (m - 1) / 2 = t := ⟨_, rfl⟩
      have e1 : ((m : Int) - 1).tdiv 2 = (t : Int) := by rw [← ht, show (m : Int) - 1 = ((m - 1 : Nat) : Int) by omega]; rfl
      have e2 : ((m : Int) - 1) / 2 = (t : Int) := by omega
      rw [ht] at q1 q2 ⊢
      have HT := Lib.hid (basePower k t hk2 (by omega))
      have e3 : ((k : Int) - 1) * ((k ^ t : Nat) : Int) = (((k - 1) * k ^ t : Nat) : Int) := by
        rw [Int.natCast_mul, show ((k - 1 : Nat) : Int) = (k : Int) - 1 by omega]
      clear ht
      generalize k ^ t = P at *
      generalize hV : (k - 1) * P = V at *
      clear hV
      have e4 : IntKind.i64.wrap (((k : Int) - 1) * (P : Int)) = (V : Int) := by rw [e3]; exact IntWalk.i64_in _ (by omega)
      have E3 := Lib.hid e3
      clear e3
      go_enter Try.func26, Try.ntmps26
      go_wp2_with (first | (go_at_call 43; refine (specIn _ _ _ _).mono ?_; rintro e w' ⟨rfl, rfl⟩; rw [hn]) | (go_at_call 44; refine (specBaseOk _ _).mono ?_; rintro e w' ⟨rfl, rfl⟩; rw [hB]) | (go_at_call 52; refine (HT.out _).mono ?_; rintro e w' ⟨rfl, rfl⟩))
      go_ret
      exact ⟨ret_int (by first | rfl | exact E3.out | exact e4), rfl⟩
    · rw [Pl.cntI_no (fun hh => hB hh.2)]
      have hB' : Pl.baseB b = false := by simpa using hB
      clear hB
      go_enter Try.func26, Try.ntmps26
      go_wp2_with (first | (go_at_call 43; refine (specIn _ _ _ _).mono ?_; rintro e w' ⟨rfl, rfl⟩; rw [hn]) | (go_at_call 44; refine (specBaseOk _ _).mono ?_; rintro e w' ⟨rfl, rfl⟩; rw [hB']))
      go_ret
      exact ⟨rfl, rfl⟩
  · rw [Pl.cntI_no (fun hh => hn (by simpa using hh.1))]
    have hn' : (decide (1 ≤ l) && decide (l ≤ 6)) = false := by simpa using hn
    clear hn
    go_enter Try.func26, Try.ntmps26
    go_wp2_with (first | (go_at_call 43; refine (specIn _ _ _ _).mono ?_; rintro e w' ⟨rfl, rfl⟩; rw [hn']))
    go_ret
    exact ⟨rfl, rfl⟩

set_option maxHeartbeats 400000 in
theorem FnExactCountPalindromes_walk (a0 : Int) (a1 : Int) (w : World) (_w0 : (Lit.int .i64 a0).wf = true) (_w1 : (Lit.int .i64 a1).wf = true) :
    Calls Try.prog 11 #[.int .i64 a0, .int .i64 a1] w fun e w' => e = .returned (.bool true) ∧ Below w.heap.size w w' := by
  have HS := Lib.hid (specCountPal a0 a1)
  have HI := Lib.hid (implCountPal a0 a1)
  generalize Pl.cntI a0 a1 = C at *
  go_enter Try.func11, Try.ntmps11
  go_wp2_with (first | (go_at_call 26; refine (HS.out _).mono ?_; rintro e w' ⟨rfl, rfl⟩) | (go_at_call 25; refine (HI.out _).mono ?_; rintro e w1 ⟨rfl, rfl⟩))
  go_ret
  exact ⟨rfl, Below.refl _ _⟩

end Go.Proofs.Ytaocefdannjlhaa
