/-
  The walk of the exact law of DigitsOf: its answer is the model's, in memory of its own.
-/
import Derived.Test.YtalcmadoledfnaaDigitsOf
import Derived.Test.YtalcmadoledfnaaMark
namespace Go.Proofs.Ytalcmadoledfnaa
open Go.RowKit

theorem eqL_self (xs : List Int) : eqL xs xs = true := by simp [eqL]

theorem Ints.kept {w w' : World} {v : Value} {xs : List Int} (h : Ints w v xs) {B : Nat} (hB : w.heap.size ≤ B) (hb : Below B w w') : Ints w' v xs := h.below (hb.mono hB)

set_option maxHeartbeats 1000000 in
theorem FnExactDigitsOf_walk (a0 : Int) (a1 : Int) (w : World) (_w0 : (Lit.int .i64 a0).wf = true) (_w1 : (Lit.int .i64 a1).wf = true) :
    Calls Try.prog 10 #[.int .i64 a0, .int .i64 a1] w fun e w' => e = .returned (.bool true) ∧ Below w.heap.size w w' := by
  have HS := Lib.hid (specDigitsOf a0 a1)
  have HI := Lib.hid (implDigitsOf a0 a1)
  have hlen := Pl.digA_len30 a0 a1
  generalize Pl.digA a0 a1 = L at *
  go_enter Try.func10, Try.ntmps10
  go_wp2_with fail
  refine (HS.out _).mono ?_
  rintro e w1 ⟨v0, rfl, r0, b0⟩
  go_wp2_with fail
  refine (HI.out _).mono ?_
  rintro e w2 ⟨v1, rfl, r1, b1⟩
  have i0 := r0.ints.below b1
  go_wp2_with fail
  refine (eqIntS _ _ L L w2 r1.ints i0 (by omega)).mono ?_
  rintro e w3 ⟨rfl, b2⟩
  rw [eqL_self]
  go_wp2_with fail
  refine (markIntS w1.heap.size _ L 1 w3 (r1.below b2) (by omega) (by omega) (by omega)).mono ?_
  rintro e w4 ⟨rfl, r4, b4⟩
  go_wp2_with fail
  refine (heldIntS _ 1 L.length w4 r4.ints (by omega) (by omega) (by omega)).mono ?_
  rintro e w5 ⟨rfl, rfl⟩
  go_wp2_with fail
  refine (HI.out _).mono ?_
  rintro e w6 ⟨v2, rfl, r6, b6⟩
  have c2 : Below w1.heap.size w1 w4 := (b1.trans (b2.mono b1.size)).trans b4
  have c6 : Below w1.heap.size w1 w6 := c2.trans (b6.mono c2.size)
  go_wp2_with fail
  refine (eqIntS _ _ L L w6 r6.ints (r0.ints.kept (Nat.le_refl _) c6) (by omega)).mono ?_
  rintro e w7 ⟨rfl, b7⟩
  rw [eqL_self]
  go_wp2_with fail
  refine (heldIntS _ 1 L.length w7 ((r4.ints.below b6).below b7) (by omega) (by omega) (by omega)).mono ?_
  rintro e w8 ⟨rfl, rfl⟩
  go_wp2
  go_ret
  exact ⟨rfl, (b0.trans (c6.mono b0.size)).trans (b7.mono (Nat.le_trans b0.size c6.size))⟩

end Go.Proofs.Ytalcmadoledfnaa
