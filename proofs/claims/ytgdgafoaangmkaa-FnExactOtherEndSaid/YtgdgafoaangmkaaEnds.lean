/-
  EndsOf of the program; the exact laws of chapter 7.
-/
import Derived.Test.YtgdgafoaangmkaaEndTable
import Derived.Test.YtgdgafoaangmkaaEndPrimes
namespace Go.Proofs.Ytgdgafoaangmkaa
open Go.RowKit Go.Shelf

theorem index_tab (vs : List Value) (hl : vs.length = 5) (j : Nat) (hj : j < 5) (w : World) :
    (Instr.index 50 (.agg vs.toArray) (.int .i64 (j : Int))).run Try.prog w = .ok (vs[j]?.getD undef) w := by
  have h1 : 0 ≤ (j : Int) ∧ (j : Int) < 5 := by omega
  simp [Instr.index, run_underlying Try.underlying50, asIntOf, h1, part, go_sem, Try.isAgg30, Try.sizeOf30, hl, hj]

set_option maxHeartbeats 1000000 in
theorem implEndsOf (l b : Int) (w : World) :
    Calls Try.prog 18 #[.int .i64 l, .int .i64 b] w (ListPost w (Pl.endsA l b)) := by
  have HO := Lib.hid (sizeOk l b)
  have HS0 := Lib.hid (SizeBox.new w 0 0)
  have HB0 := (Below.refl w.heap.size w).alloc (Nat.le_refl _) (.cells #[.int .i64 0, .int .i64 0] 47)
  by_cases hok : Pl.endsOk l b = true
  · rw [hok] at HO
    obtain ⟨L, k, rfl, rfl, h1, h2, h3, h4⟩ := Pl.endsOk_nat hok
    rw [Pl.endsA_yes hok]
    have HT := Lib.hid (sizeTable L k h2 h3 h4)
    clear hok
    go_enter Try.func18, Try.ntmps18
    go_wp2_with (refine size_store rfl (.tmp 5) (.tmp 8) rfl rfl rfl HS0.out ?_; intro w1 hA1 hb1 hz1; have HS1 := Lib.hid hA1; have HB1 := HB0.trans (hb1 _ (Nat.le_refl _)); obtain ⟨c0, c1⟩ := hA1.cells; clear hA1 hb1)
    rw [World.size_alloc] at hz1
    refine (HO.out _).mono ?_
    rintro e w2 ⟨rfl, b2⟩
    have HS2 := Lib.hid (HS1.out.below b2 (by omega))
    have HB2 := HB1.trans (b2.mono (by omega))
    have hz2 := b2.size
    obtain ⟨d0, d1⟩ := HS2.out.cells
    clear b2 c0 c1
    go_wp2_with fail
    refine (HT.out _).mono ?_
    rintro e w3 ⟨vs, rfl, hvl, hrows, b3⟩
    have HR := Lib.hid (hrows L (Nat.le_refl _))
    have hix := fun W => index_tab vs hvl L (by omega) W
    have HB3 := HB2.trans (b3.mono (by omega))
    clear hrows b3 d0 d1
    generalize vs[L]?.getD undef = u at *
    generalize vs.toArray = A at *
    go_wp2_with fail
    go_ret
    exact ⟨_, rfl, Row.mono HR.out (by omega), HB3⟩
  · rw [Bool.eq_false_iff.2 hok] at HO
    rw [Pl.endsA_no hok]
    clear hok
    go_enter Try.func18, Try.ntmps18
    go_wp2_with (refine size_store rfl (.tmp 5) (.tmp 8) rfl rfl rfl HS0.out ?_; intro w1 hA1 hb1 hz1; have HS1 := Lib.hid hA1; have HB1 := HB0.trans (hb1 _ (Nat.le_refl _)); obtain ⟨c0, c1⟩ := hA1.cells; clear hA1 hb1)
    rw [World.size_alloc] at hz1
    refine (HO.out _).mono ?_
    rintro e w2 ⟨rfl, b2⟩
    have HB2 := HB1.trans (b2.mono (by omega))
    go_wp2
    go_ret
    exact ⟨_, rfl, World.ownsRow_nil _ _ _ _, HB2⟩

/-- As numbers in a row, wherever it lies. -/
theorem implEndsI (l b : Int) (w : World) :
    Calls Try.prog 18 #[.int .i64 l, .int .i64 b] w fun e w' => ∃ v, e = .returned v ∧ Ints w' v (Pl.endsA l b) ∧ Below w.heap.size w w' :=
  (implEndsOf l b w).mono fun _ _ ⟨v, he, hr, hb⟩ => ⟨v, he, Row.ints hr, hb⟩

set_option maxHeartbeats 400000 in
theorem FnExactEndOk_walk (a0 : Int) (a1 : Int) (a2 : Int) (w : World) (_w0 : (Lit.int .i64 a0).wf = true) (_w1 : (Lit.int .i64 a1).wf = true) (_w2 : (Lit.int .i64 a2).wf = true) :
    Calls Try.prog 8 #[.int .i64 a0, .int .i64 a1, .int .i64 a2] w fun e w' => e = .returned (.bool true) ∧ Below w.heap.size w w' := by
  have HS := Lib.hid (specEndOk a0 a1 a2)
  have HI := Lib.hid (implEndOk a0 a1 a2)
  generalize Pl.endB a0 a1 a2 = A at *
  go_enter Try.func8, Try.ntmps8
  go_wp2_with (first | (go_at_call 15; refine (HS.out _).mono ?_; rintro e w' ⟨rfl, rfl⟩) | (go_at_call 14; refine (HI.out _).mono ?_; rintro e w1 ⟨rfl, hb⟩))
  all_goals
    go_ret
    exact ⟨rfl, hb⟩

set_option maxHeartbeats 400000 in
theorem FnExactOtherEnd_walk (a0 : Int) (a1 : Int) (a2 : Int) (w : World) (_w0 : (Lit.int .i64 a0).wf = true) (_w1 : (Lit.int .i64 a1).wf = true) (_w2 : (Lit.int .i64 a2).wf = true) :
    Calls Try.prog 10 #[.int .i64 a0, .int .i64 a1, .int .i64 a2] w fun e w' => e = .returned (.bool true) ∧ Below w.heap.size w w' := by
  have HS := Lib.hid (specOtherEnd a0 a1 a2)
  have HI := Lib.hid (implOtherEnd a0 a1 a2)
  generalize Pl.otherI a0 a1 a2 = A at *
  go_enter Try.func10, Try.ntmps10
  go_wp2_with (first | (go_at_call 26; refine (HS.out _).mono ?_; rintro e w' ⟨rfl, rfl⟩) | (go_at_call 25; refine (HI.out _).mono ?_; rintro e w1 ⟨rfl, hb⟩))
  all_goals
    go_ret
    exact ⟨rfl, hb⟩

set_option maxHeartbeats 400000 in
theorem FnExactLongerEnd_walk (a0 : Int) (a1 : Int) (a2 : Int) (w : World) (_w0 : (Lit.int .i64 a0).wf = true) (_w1 : (Lit.int .i64 a1).wf = true) (_w2 : (Lit.int .i64 a2).wf = true) :
    Calls Try.prog 11 #[.int .i64 a0, .int .i64 a1, .int .i64 a2] w fun e w' => e = .returned (.bool true) ∧ Below w.heap.size w w' := by
  have HS := Lib.hid (specLongerEnd a0 a1 a2)
  have HI := Lib.hid (implLongerEnd a0 a1 a2)
  generalize Pl.wV (Pl.longerO a0 a1 a2) = A at *
  generalize Pl.wB (Pl.longerO a0 a1 a2) = B at *
  go_enter Try.func11, Try.ntmps11
  go_wp2_with (first | (go_at_call 29; refine (HS.out _).mono ?_; rintro e w' ⟨rfl, rfl⟩) | (go_at_call 28; refine (HI.out _).mono ?_; rintro e w1 ⟨rfl, hb⟩))
  all_goals
    go_ret
    exact ⟨rfl, hb⟩

set_option maxHeartbeats 400000 in
theorem FnExactPrimesOf_walk (a0 : Int) (w : World) (_w0 : (Lit.int .i64 a0).wf = true) :
    Calls Try.prog 12 #[.int .i64 a0] w fun e w' => e = .returned (.bool true) ∧ Below w.heap.size w w' := by
  have HS := Lib.hid (specPrimesOf a0)
  have HI := Lib.hid (implPrimesOf a0)
  generalize Pl.primesI a0 = A at *
  go_enter Try.func12, Try.ntmps12
  go_wp2_with (first | (go_at_call 23; refine (HS.out _).mono ?_; rintro e w' ⟨rfl, rfl⟩) | (go_at_call 31; refine (HI.out _).mono ?_; rintro e w1 ⟨rfl, hb⟩))
  all_goals
    go_ret
    exact ⟨rfl, hb⟩

theorem Pl.endsA_few (l b : Int) : (Pl.endsA l b).length ≤ 4 := by
  by_cases h : Pl.endsOk l b = true
  · obtain ⟨L, k, rfl, rfl, h1, h2, h3, h4⟩ := Pl.endsOk_nat h
    rw [Pl.endsA_yes h, List.length_map]
    exact (Pl.endsF_few h3 h4 h2).2
  · rw [Pl.endsA_no h]; simp

set_option maxHeartbeats 1000000 in
theorem FnExactEndsOf_walk (a0 : Int) (a1 : Int) (w : World) (_w0 : (Lit.int .i64 a0).wf = true) (_w1 : (Lit.int .i64 a1).wf = true) :
    Calls Try.prog 9 #[.int .i64 a0, .int .i64 a1] w fun e w' => e = .returned (.bool true) ∧ Below w.heap.size w w' := by
  have HS := Lib.hid (specEndsOf a0 a1)
  have HI := Lib.hid (implEndsOf a0 a1)
  have hlen := Pl.endsA_few a0 a1
  generalize Pl.endsA a0 a1 = L at *
  go_enter Try.func9, Try.ntmps9
  go_wp2_with fail
  refine (HS.out _).mono ?_
  rintro e w1 ⟨v0, rfl, r0, b0⟩
  go_wp2_with fail
  refine (HI.out _).mono ?_
  rintro e w2 ⟨v1, rfl, r1, b1⟩
  have i0 := r0.ints.below b1
  go_wp2_with fail
  refine (eqIntS _ _ L L w2 r1.ints i0 (by omega)).mono ?_
  rintro e w3 ⟨rfl, b2⟩
  rw [eqL_self]
  go_wp2_with fail
  refine (markIntS w1.heap.size _ L 1 w3 (r1.below b2) (by omega) (by omega) (by omega)).mono ?_
  rintro e w4 ⟨rfl, r4, b4⟩
  go_wp2_with fail
  refine (heldIntS _ 1 L.length w4 r4.ints (by omega) (by omega) (by omega)).mono ?_
  rintro e w5 ⟨rfl, rfl⟩
  go_wp2_with fail
  refine (HI.out _).mono ?_
  rintro e w6 ⟨v2, rfl, r6, b6⟩
  have c2 : Below w1.heap.size w1 w4 := (b1.trans (b2.mono b1.size)).trans b4
  have c6 : Below w1.heap.size w1 w6 := c2.trans (b6.mono c2.size)
  go_wp2_with fail
  refine (eqIntS _ _ L L w6 r6.ints (r0.ints.kept (Nat.le_refl _) c6) (by omega)).mono ?_
  rintro e w7 ⟨rfl, b7⟩
  rw [eqL_self]
  go_wp2_with fail
  refine (heldIntS _ 1 L.length w7 ((r4.ints.below b6).below b7) (by omega) (by omega) (by omega)).mono ?_
  rintro e w8 ⟨rfl, rfl⟩
  go_wp2
  go_ret
  exact ⟨rfl, (b0.trans (c6.mono b0.size)).trans (b7.mono (Nat.le_trans b0.size c6.size))⟩

end Go.Proofs.Ytgdgafoaangmkaa
