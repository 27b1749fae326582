/-
  The exact law of RoundFrom; impl.HappyOk, spec.HappyOk: what they answer; the exact law.
-/
import Derived.Test.YthpimanfkbeanaaSpecRound
import Derived.Test.YthpimanfkbeanaaWDigitsOf
namespace Go.Proofs.Ythpimanfkbeanaa
open Go.RowKit

set_option maxHeartbeats 1000000 in
theorem FnExactRoundFrom_walk (a0 : Int) (a1 : Int) (a2 : Int) (w : World) (_w0 : (Lit.int .i64 a0).wf = true) (_w1 : (Lit.int .i64 a1).wf = true) (_w2 : (Lit.int .i64 a2).wf = true) :
    Calls Try.prog 9 #[.int .i64 a0, .int .i64 a1, .int .i64 a2] w fun e w' => e = .returned (.bool true) ∧ Below w.heap.size w w' := by
  have HS := Lib.hid (specRoundFrom a0 a1 a2)
  have HI := Lib.hid (implRoundFrom a0 a1 a2)
  have hlen := Pl.roundA_len a0 a1 a2
  generalize Pl.roundA a0 a1 a2 = L at *
  go_enter Try.func9, Try.ntmps9
  go_wp2_with fail
  refine (HS.out _).mono ?_
  rintro e w1 ⟨v0, rfl, r0, b0⟩
  go_wp2_with fail
  refine (HI.out _).mono ?_
  rintro e w2 ⟨v1, rfl, r1, b1⟩
  have i0 := r0.ints.below b1
  go_wp2_with fail
  refine (eqIntS _ _ L L w2 r1.ints i0 (by omega)).mono ?_
  rintro e w3 ⟨rfl, b2⟩
  rw [eqL_self]
  go_wp2_with fail
  refine (markIntS w1.heap.size _ L 1 w3 (r1.below b2) (by omega) (by omega) (by omega)).mono ?_
  rintro e w4 ⟨rfl, r4, b4⟩
  go_wp2_with fail
  refine (heldIntS _ 1 L.length w4 r4.ints (by omega) (by omega) (by omega)).mono ?_
  rintro e w5 ⟨rfl, rfl⟩
  go_wp2_with fail
  refine (HI.out _).mono ?_
  rintro e w6 ⟨v2, rfl, r6, b6⟩
  have c2 : Below w1.heap.size w1 w4 := (b1.trans (b2.mono b1.size)).trans b4
  have c6 : Below w1.heap.size w1 w6 := c2.trans (b6.mono c2.size)
  go_wp2_with fail
  refine (eqIntS _ _ L L w6 r6.ints (r0.ints.kept (Nat.le_refl _) c6) (by omega)).mono ?_
  rintro e w7 ⟨rfl, b7⟩
  rw [eqL_self]
  go_wp2_with fail
  refine (heldIntS _ 1 L.length w7 ((r4.ints.below b6).below b7) (by omega) (by omega) (by omega)).mono ?_
  rintro e w8 ⟨rfl, rfl⟩
  go_wp2
  go_ret
  exact ⟨rfl, (b0.trans (c6.mono b0.size)).trans (b7.mono (Nat.le_trans b0.size c6.size))⟩

namespace Pl
/-- Whether a number is happy, as the functions answer. -/
def happyB (n b : Int) : Bool := decide (roundA n 2 b = [1])
end Pl

set_option maxHeartbeats 1000000 in
theorem implHappyOk (n b : Int) (w : World) :
    Calls Try.prog 26 #[.int .i64 n, .int .i64 b] w fun e w' => e = .returned (.bool (Pl.happyB n b)) ∧ Below w.heap.size w w' := by
  have HI := Lib.hid (implRoundFrom n 2 b)
  have HB : Hid (Pl.happyB n b = decide (Pl.roundA n 2 b = [1])) := Lib.hid rfl
  have hlen := Pl.roundA_len n 2 b
  generalize Pl.roundA n 2 b = L at *
  go_enter Try.func26, Try.ntmps26
  go_wp2_with fail
  refine (HI.out _).mono ?_
  rintro e w1 ⟨v, rfl, r1, b1⟩
  match L, r1, hlen, HB with
  | [], r1, _, HB =>
    obtain ⟨a, cap, rfl⟩ := r1.shape
    go_wp2_with fail
    go_ret
    exact ⟨ret_bool (by rw [HB.out]; simp), b1⟩
  | [a], r1, _, HB =>
    obtain ⟨g, cap, rfl, _, _, _, _, hc⟩ := r1.lies (by simp)
    have hc0 := hc 0 (by simp)
    simp only [List.getElem?_cons_zero, Option.getD_some] at hc0
    clear hc r1
    go_wp2_with fail
    go_ret
    exact ⟨ret_bool (by rw [HB.out]; by_cases h : a = 1 <;> simp [h]), b1⟩
  | a :: c :: l, r1, hlen, HB =>
    obtain ⟨x, cap, rfl⟩ := r1.shape
    have hne : (((a :: c :: l).length : Int) == 1) = false := by simp; omega
    generalize (a :: c :: l).length = N at *
    clear r1
    go_wp2_with fail
    go_ret
    exact ⟨ret_bool (by rw [HB.out]; simp), b1⟩

set_option maxHeartbeats 1000000 in
theorem specHappyOk (n b : Int) (w : World) :
    Calls Try.prog 27 #[.int .i64 n, .int .i64 b] w fun e w' => e = .returned (.bool (Pl.happyB n b)) ∧ Below w.heap.size w w' := by
  have HI := Lib.hid (specRoundFrom n 2 b)
  have HB : Hid (Pl.happyB n b = decide (Pl.roundA n 2 b = [1])) := Lib.hid rfl
  have hlen := Pl.roundA_len n 2 b
  generalize Pl.roundA n 2 b = L at *
  go_enter Try.func27, Try.ntmps27
  go_wp2_with fail
  refine (HI.out _).mono ?_
  rintro e w1 ⟨v, rfl, r1, b1⟩
  match L, r1, hlen, HB with
  | [], r1, _, HB =>
    obtain ⟨a, cap, rfl⟩ := r1.shape
    go_wp2_with fail
    go_ret
    exact ⟨ret_bool (by rw [HB.out]; simp), b1⟩
  | [a], r1, _, HB =>
    obtain ⟨g, cap, rfl, _, _, _, _, hc⟩ := r1.lies (by simp)
    have hc0 := hc 0 (by simp)
    simp only [List.getElem?_cons_zero, Option.getD_some] at hc0
    clear hc r1
    go_wp2_with fail
    go_ret
    exact ⟨ret_bool (by rw [HB.out]; by_cases h : a = 1 <;> simp [h]), b1⟩
  | a :: c :: l, r1, hlen, HB =>
    obtain ⟨x, cap, rfl⟩ := r1.shape
    have hne : (((a :: c :: l).length : Int) == 1) = false := by simp; omega
    generalize (a :: c :: l).length = N at *
    clear r1
    go_wp2_with fail
    go_ret
    exact ⟨ret_bool (by rw [HB.out]; simp), b1⟩

set_option maxHeartbeats 400000 in
theorem FnExactHappyOk_walk (a0 : Int) (a1 : Int) (w : World) (_w0 : (Lit.int .i64 a0).wf = true) (_w1 : (Lit.int .i64 a1).wf = true) :
    Calls Try.prog 10 #[.int .i64 a0, .int .i64 a1] w fun e w' => e = .returned (.bool true) ∧ Below w.heap.size w w' := by
  go_enter Try.func10, Try.ntmps10
  go_wp2_with (first | (go_at_call 27; refine (specHappyOk _ _ _).mono ?_; rintro e w1 ⟨rfl, hb⟩) | (go_at_call 26; refine (implHappyOk _ _ _).mono ?_; rintro e w2 ⟨rfl, hb2⟩))
  go_ret
  exact ⟨rfl, hb.trans (hb2.mono hb.size)⟩

end Go.Proofs.Ythpimanfkbeanaa
