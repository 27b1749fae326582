/-
  The walk of the exact law of WholeOf.
-/
import Derived.Test.YtalcmadoledfnaaToInts
import Derived.Test.YtalcmadoledfnaaWhole
namespace Go.Proofs.Ytalcmadoledfnaa
open Go.RowKit

theorem Ints.over {w w' : World} {v : Value} {xs : List Int} (h : Ints w v xs) {B : Nat} (hB : w.heap.size ≤ B) (hb : Below B w w') : Ints w' v xs := h.below (hb.mono hB)

set_option maxHeartbeats 1000000 in
theorem FnExactWholeOf_walk (a0 : Option Addr) (len0 cap0 : Nat) (z0 : List Int) (a1 : Int) (w : World) (w0 : IsRow .i64 w a0 len0 cap0 z0) (_w1 : (Lit.int .i64 a1).wf = true) :
    Calls Try.prog 11 #[.slice a0 len0 cap0, .int .i64 a1] w fun e w' => e = .returned (.bool true) ∧ Below w.heap.size w w' := by
  by_cases hl : 1048576 < len0
  · go_enter Try.func11, Try.ntmps11
    go_wp2
    go_ret
    exact ⟨rfl, Below.refl _ _⟩
  · obtain ⟨hI, hlen⟩ := w0.ints
    generalize z0.take len0 = L at *
    have HI := Lib.hid hI
    have hx : L.length ≤ 1000000000 := by omega
    clear hI w0
    have HL := Lib.hid hlen
    clear hlen
    go_enter Try.func11, Try.ntmps11
    go_wp2_with fail
    refine (toIntS _ L w HI.out hx).mono ?_
    rintro e w1 ⟨v1, rfl, r1, b1⟩
    go_wp2_with fail
    refine (specWholeOf _ L a1 w1 r1.ints hx).mono ?_
    rintro e w' ⟨rfl, rfl⟩
    go_wp2_with fail
    refine (toIntS _ L w1 (HI.out.below b1) hx).mono ?_
    rintro e w2 ⟨v2, rfl, r2, b2⟩
    go_wp2_with fail
    refine (implWholeOf _ L a1 w2 r2.ints hx).mono ?_
    rintro e w' ⟨rfl, rfl⟩
    have c2 : Below w.heap.size w w2 := b1.trans (b2.mono b1.size)
    go_wp2_with fail
    refine (toIntS _ L w2 (HI.out.below c2) hx).mono ?_
    rintro e w3 ⟨v3, rfl, r3, b3⟩
    go_wp2_with fail
    refine (eqIntS _ _ L L w3 (r2.ints.below b3) r3.ints hx).mono ?_
    rintro e w4 ⟨rfl, b4⟩
    rw [show eqL L L = true from by simp [eqL]]
    go_wp2
    go_ret
    have c3 := c2.trans (b3.mono c2.size)
    exact ⟨rfl, c3.trans (b4.mono c3.size)⟩

end Go.Proofs.Ytalcmadoledfnaa
