/-
  spec.DigitProduct, spec.PersistsOf, spec.LeastPersisting, spec.NoNought: what they answer.
-/
import Derived.Test.YtakkjlcnfkklpaaDigitsOf
import Derived.Test.YtakkjlcnfkklpaaMathProd2
namespace Go.Proofs.Ytakkjlcnfkklpaa
open Go.RowKit Go.Shelf

namespace Pl

/-- The walk over the digits, the last one first: the product so far and what is left. -/
def ProdAt (b n T left : Nat) : Prop := T ≤ n ∧ T * left ≤ n ∧ ((left = 0 ∧ T = prodD b n) ∨ (1 ≤ left ∧ T * prodD b left = prodD b n))

theorem prodAt_start {b n : Nat} (hb : 2 ≤ b) : ProdAt b n (n % b) (n / b) := by
  have h1 := Nat.div_add_mod n b
  have h2 := Nat.mod_lt n (show 0 < b by omega)
  refine ⟨Nat.mod_le _ _, ?_, ?_⟩
  · have : n % b * (n / b) ≤ b * (n / b) := Nat.mul_le_mul_right _ (by omega)
    omega
  · by_cases h : n < b
    · left; exact ⟨Nat.div_eq_of_lt h, by rw [Nat.mod_eq_of_lt h, prodD_lt h]⟩
    · right; exact ⟨(Nat.one_le_div_iff (by omega)).2 (by omega), (prodD_ge hb (by omega)).symm⟩

theorem prodAt_next {b n T left : Nat} (hb : 2 ≤ b) (h : ProdAt b n T left) (h0 : 0 < left) : ProdAt b n (T * (left % b)) (left / b) ∧ T * (left % b) ≤ n := by
  obtain ⟨h1, h2, h3⟩ := h
  have d1 := Nat.div_add_mod left b
  have d2 := Nat.mod_lt left (show 0 < b by omega)
  have hle : T * (left % b) ≤ n := by
    have : T * (left % b) ≤ T * left := Nat.mul_le_mul_left T (Nat.mod_le _ _)
    omega
  refine ⟨⟨hle, ?_, ?_⟩, hle⟩
  · have g1 : left % b * (left / b) ≤ b * (left / b) := Nat.mul_le_mul_right _ (by omega)
    have g2 : T * (left % b * (left / b)) ≤ T * left := Nat.mul_le_mul_left T (by omega)
    rw [← Nat.mul_assoc] at g2; omega
  · rcases h3 with ⟨h, _⟩ | ⟨_, h4⟩
    · omega
    · by_cases h : left < b
      · rw [prodD_lt h] at h4
        left; exact ⟨Nat.div_eq_of_lt h, by rw [Nat.mod_eq_of_lt h]; exact h4⟩
      · rw [prodD_ge hb (by omega), ← Nat.mul_assoc] at h4
        right; exact ⟨(Nat.one_le_div_iff (by omega)).2 (by omega), h4⟩

theorem prodAt_end {b n T : Nat} (h : ProdAt b n T 0) : T = prodD b n := by
  rcases h.2.2 with ⟨_, h1⟩ | ⟨h1, _⟩
  · exact h1
  · omega

end Pl

set_option maxHeartbeats 1000000 in
theorem l9Product (x b : Nat) (hb : 2 ≤ b) (hb' : b ≤ 16) (hx : x ≤ 1000000000) (w : World) :
    Calls Try.prog 82 #[.int .i64 x, .int .i64 b] w fun e w' => e = .returned (.int .i64 ((Pl.prodD b x : Nat) : Int)) ∧ w = w' := by
  have HS := Lib.hid (Pl.prodAt_start (n := x) hb)
  have hne : ((b : Int) == 0) = false := by rw [beq_eq_false_iff_ne]; omega
  obtain ⟨R, hR⟩ : ∃ R, Pl.prodD b x = R := ⟨_, rfl⟩
  have HR := Lib.hid hR
  rw [hR]
  clear hR
  have e1 : ((x : Int)).tdiv (b : Int) = ((x / b : Nat) : Int) := rfl
  have e2 : ((x : Int)).tmod (b : Int) = ((x % b : Nat) : Int) := rfl
  have hq := Nat.div_le_self x b
  generalize x / b = q at *
  generalize x % b = r at *
  have e3 : IntKind.i64.wrap (q : Int) = (q : Int) := IntWalk.i64_in _ (by omega)
  go_enter Try.func82, Try.ntmps82
  go_wp2
  go_loop [5, 6] (fun t l => ∃ (T left : Nat), left ≤ x ∧ T ≤ 1000000000 ∧ t = .int .i64 T ∧ l = .int .i64 left ∧ Pl.ProdAt b x T left) (fun _ l => (intOf l).toNat)
  case atStart => exact ⟨r, q, by omega, Nat.le_trans HS.out.1 hx, rfl, rfl, HS.out⟩
  case round =>
    clear e1 e2 e3 HS hq
    obtain ⟨T, left, hl, hT, rfl, rfl, hAt⟩ := hrel
    by_cases hlt : 0 < left
    · obtain ⟨hA, hle⟩ := Pl.prodAt_next hb hAt hlt
      have HA := Lib.hid hA
      have hq1 : left / b < left := Nat.div_lt_self hlt (by omega)
      have e1 : ((left : Int)).tdiv (b : Int) = ((left / b : Nat) : Int) := rfl
      have e2 : ((left : Int)).tmod (b : Int) = ((left % b : Nat) : Int) := rfl
      have hi : (0 : Int) < (left : Int) := by omega
      have e3 : IntKind.i64.wrap ((T : Int) * ((left % b : Nat) : Int)) = ((T * (left % b) : Nat) : Int) := by
        rw [← Int.natCast_mul]; exact IntWalk.i64_in _ (by omega)
      clear hA hAt
      generalize left / b = q' at *
      generalize left % b = r' at *
      have e5 : IntKind.i64.wrap (q' : Int) = (q' : Int) := IntWalk.i64_in _ (by omega)
      generalize T * r' = M at *
      go_wp2
      go_round
      case rel => exact ⟨M, q', by omega, by omega, rfl, rfl, HA.out⟩
      case measure => simp [intOf]; omega
    · obtain rfl : left = 0 := by omega
      have HE := Lib.hid (Pl.prodAt_end hAt)
      clear hAt
      go_wp2
      go_ret
      exact ⟨ret_int (by rw [HE.out, HR.out]), rfl⟩

set_option maxHeartbeats 400000 in
theorem specDigitProduct (n b : Int) (w : World) :
    Calls Try.prog 71 #[.int .i64 n, .int .i64 b] w fun e w' => e = .returned (.int .i64 (Pl.prodI n b)) ∧ w = w' := by
  by_cases hn : (decide (0 ≤ n) && decide (n ≤ 1000000000)) = true
  · by_cases hB : Pl.baseB b = true
    · have h : Pl.okB n b = true := by rw [okB_halves, hn, hB]; rfl
      obtain ⟨x, k, rfl, rfl, h1, h2, h3⟩ := Pl.okB_nat h
      rw [Pl.prodI_yes x k h]
      have HP := Lib.hid (l9Product x k h1 h2 h3)
      clear h
      generalize Pl.prodD k x = P at *
      go_enter Try.func71, Try.ntmps71
      go_wp2_with (first | (go_at_call 40; refine (specIn _ _ _ _).mono ?_; rintro e w' ⟨rfl, rfl⟩; rw [hn]) | (go_at_call 41; refine (specBaseOk _ _).mono ?_; rintro e w' ⟨rfl, rfl⟩; rw [hB]) | (go_at_call 82; refine (HP.out _).mono ?_; rintro e w' ⟨rfl, rfl⟩))
      go_ret
      exact ⟨rfl, rfl⟩
    · have h : ¬ Pl.okB n b = true := by rw [okB_halves, hn]; simpa using hB
      have hB' : Pl.baseB b = false := by simpa using hB
      rw [Pl.prodI_no h]
      clear h hB
      go_enter Try.func71, Try.ntmps71
      go_wp2_with (first | (go_at_call 40; refine (specIn _ _ _ _).mono ?_; rintro e w' ⟨rfl, rfl⟩; rw [hn]) | (go_at_call 41; refine (specBaseOk _ _).mono ?_; rintro e w' ⟨rfl, rfl⟩; rw [hB']))
      go_ret
      exact ⟨rfl, rfl⟩
  · have h : ¬ Pl.okB n b = true := by rw [okB_halves]; simp [hn]
    have hn' : (decide (0 ≤ n) && decide (n ≤ 1000000000)) = false := by simpa using hn
    rw [Pl.prodI_no h]
    clear h hn
    go_enter Try.func71, Try.ntmps71
    go_wp2_with (first | (go_at_call 40; refine (specIn _ _ _ _).mono ?_; rintro e w' ⟨rfl, rfl⟩; rw [hn']))
    go_ret
    exact ⟨rfl, rfl⟩

/-- So many steps on, at a number. -/
def Pl.PersAt (b x s m : Nat) : Prop := Pl.persN b x = ((Pl.persN b m).1 + s, (Pl.persN b m).2)

theorem ret_pers {a b c d : Int} {x y : Bool} (h1 : a = b) (h2 : c = d) (h3 : x = y) : Ending.returned (.tuple #[.int .i64 a, .int .i64 c, .bool x]) = .returned (.tuple #[.int .i64 b, .int .i64 d, .bool y]) := by rw [h1, h2, h3]

end Go.Proofs.Ytakkjlcnfkklpaa
