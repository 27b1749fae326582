/-
  The walk of the exact law of DeskNew.
-/
import Derived.Test.YtakkjlcnfkklpaaDeskI
import Derived.Test.YtakkjlcnfkklpaaMarkOwn
import Derived.Deep.RegionHeld3
namespace Go.Proofs.Ytakkjlcnfkklpaa
open Go.RowKit Go.Shelf

theorem Pl.newA_past (n b : Int) : (Pl.newA n b).1.past = [] := by
  unfold Pl.newA; split <;> rfl

set_option maxRecDepth 100000 in
set_option maxHeartbeats 2000000 in
theorem FnExactDeskNew_walk (a0 a1 : Int) (w : World) (_w0 : (Lit.int .i64 a0).wf = true) (_w1 : (Lit.int .i64 a1).wf = true) :
    Calls Try.prog 8 #[.int .i64 a0, .int .i64 a1] w fun e w' => e = .returned (.bool true) ∧ Below w.heap.size w w' := by
  have HS := Lib.hid (specDeskNew a0 a1)
  have HI := Lib.hid (implDeskNew a0 a1)
  have hR := Pl.newA_past a0 a1
  generalize Pl.newA a0 a1 = R at *
  obtain ⟨d, B⟩ := R
  obtain ⟨b, n, p⟩ := d
  simp only at hR
  subst hR
  have hnone : ∀ W, Ints W (.slice none 0 0) ([] : List Int) := fun W => ⟨none, 0, rfl, fun j hj => by simp at hj⟩
  have HN := Lib.hid hnone
  clear hnone
  go_enter Try.func8, Try.ntmps8
  go_wp2_with fail
  refine (HS.out _).mono ?_
  rintro e w1 ⟨rfl, b1⟩
  go_wp2_with fail
  refine (HI.out _).mono ?_
  rintro e w2 ⟨v2, rfl, o2, _, b2⟩
  obtain ⟨a2, l2, rfl, _⟩ := o2.ints
  have hS2 := (SBox.new w1 25 #[.int .i64 b, .int .i64 n, .slice none 0 0]).kept b2
  have hS3 := hS2.alloc (.cells #[.int .i64 b, .int .i64 n, .slice a2 0 l2] 25)
  have s0 := hS3.cell 0
  have s1 := hS3.cell 1
  have s2 := hS3.cell 2
  have b12 : Below w1.heap.size w1 w2 := ((Below.refl _ w1).alloc (Nat.le_refl _) _).trans (b2.mono (by simp))
  have c2 := b1.trans (b12.mono b1.size)
  have hz : w1.heap.size < w2.heap.size := by have := b2.size; simp at this; omega
  have c3 := c2.alloc c2.size (.cells #[.int .i64 b, .int .i64 n, .slice a2 0 l2] 25)
  have hG3 := SBox.new w2 25 #[.int .i64 b, .int .i64 n, .slice a2 0 l2]
  have o3 : OwnTail (w1.heap.size + 1) _ _ _ := (o2.mono (by simp)).below ((Below.refl _ w2).alloc (Nat.le_refl _) (.cells #[.int .i64 b, .int .i64 n, .slice a2 0 l2] 25))
  have hw1 := b1.size
  clear b1 b2 b12 c2 hS2 o2
  have e3 := HN.out (w2.alloc (.cells #[.int .i64 b, .int .i64 n, .slice a2 0 l2] 25))
  have hz3 : w2.heap.size < (w2.alloc (.cells #[.int .i64 b, .int .i64 n, .slice a2 0 l2] 25)).heap.size := by simp
  go_wp2_with fail
  generalize w2.alloc (.cells #[.int .i64 b, .int .i64 n, .slice a2 0 l2] 25) = w3 at *
  refine (eqDesk ⟨b, n, []⟩ _ _ w3 o3.ints e3 (by simp)).mono ?_
  rintro e w4 ⟨rfl, b4⟩
  have hS4 := hS3.kept b4
  have hG4 := hG3.kept b4
  have o4 := o3.below b4
  have c4 := c3.trans (b4.mono c3.size)
  have hz4 := b4.size
  have s0 := hS4.cell 0
  have s1 := hS4.cell 1
  have s2 := hS4.cell 2
  have g0 := hG4.cell 0
  have g1 := hG4.cell 1
  have g2 := hG4.cell 2
  clear b4 o3 hS3 hG3 c3 e3
  go_wp2_with fail
  refine (markDeskK (w1.heap.size + 1) b n _ [] 1 w4 o4 (by omega) (by simp) (by omega) (by omega)).mono ?_
  rintro e w5 ⟨rfl, o5, b5, el5⟩
  have hS5 := hS4.marked o4 el5 (by decide)
  have hG5 := hG4.marked o4 el5 (by decide)
  have c5 : Below w.heap.size w w5 := c4.trans (b5.mono (by have := b5.size; omega))
  have hz5 := b5.size
  have hw5 : Below w1.heap.size w4 w5 := b5.mono (by omega)
  have s0 := hS5.cell 0
  have s1 := hS5.cell 1
  have s2 := hS5.cell 2
  have g0 := hG5.cell 0
  have g1 := hG5.cell 1
  have g2 := hG5.cell 2
  clear b5 el5 o4 hS4 hG4 c4 hw5
  go_wp2_with fail
  refine (heldDesk b n _ 1 0 w5 o5.ints (by omega) (by omega) (by omega)).mono ?_
  rintro e w6 ⟨rfl, b6⟩
  have hS6 := hS5.kept b6
  have hG6 := hG5.kept b6
  have o6 := o5.below b6
  have c6 := c5.trans (b6.mono c5.size)
  have s0 := hS6.cell 0
  have s1 := hS6.cell 1
  have s2 := hS6.cell 2
  have g0 := hG6.cell 0
  have g1 := hG6.cell 1
  have g2 := hG6.cell 2
  have hz6 := b6.size
  clear b6 o5 hS5 hG5 c5
  go_wp2_with fail
  refine (HI.out _).mono ?_
  rintro e w7 ⟨v7, rfl, o7, _, b7⟩
  obtain ⟨a7, l7, rfl, _⟩ := o7.ints
  have hS7 := hS6.kept b7
  have hG7 := hG6.kept b7
  have q7 := o6.below b7
  have c7 := c6.trans (b7.mono c6.size)
  have hz7 := b7.size
  have hS8 := hS7.alloc (.cells #[.int .i64 b, .int .i64 n, .slice a7 0 l7] 25)
  have hG8 := hG7.alloc (.cells #[.int .i64 b, .int .i64 n, .slice a7 0 l7] 25)
  have hal : Below w7.heap.size w7 (w7.alloc (.cells #[.int .i64 b, .int .i64 n, .slice a7 0 l7] 25)) := (Below.refl _ w7).alloc (Nat.le_refl _) _
  have q8 := q7.below hal
  have o8 := o7.below hal
  have c8 := c7.trans (hal.mono c7.size)
  have e8 := HN.out (w7.alloc (.cells #[.int .i64 b, .int .i64 n, .slice a7 0 l7] 25))
  have s0 := hS8.cell 0
  have s1 := hS8.cell 1
  have s2 := hS8.cell 2
  have g0 := hG8.cell 0
  have g1 := hG8.cell 1
  have g2 := hG8.cell 2
  clear b7 hal o6 o7 q7 hS6 hG6 hS7 hG7 c6 c7
  go_wp2_with fail
  generalize w7.alloc (.cells #[.int .i64 b, .int .i64 n, .slice a7 0 l7] 25) = w8 at *
  refine (eqDesk ⟨b, n, []⟩ _ _ w8 o8.ints e8 (by simp)).mono ?_
  rintro e w9 ⟨rfl, b9⟩
  have hG9 := hG8.kept b9
  have q9 := q8.below b9
  have c9 := c8.trans (b9.mono c8.size)
  have g0 := hG9.cell 0
  have g1 := hG9.cell 1
  have g2 := hG9.cell 2
  clear b9 o8 q8 hS8 hG8 c8 e8
  go_wp2_with fail
  refine (heldDesk b n _ 1 0 w9 q9.ints (by omega) (by omega) (by omega)).mono ?_
  rintro e w10 ⟨rfl, b10⟩
  have c10 := c9.trans (b10.mono c9.size)
  clear b10 q9 hG9 c9
  go_wp2
  go_ret
  exact ⟨rfl, c10⟩

end Go.Proofs.Ytakkjlcnfkklpaa
