/-
  The exact laws of chapter 8.
-/
import Derived.OpenShut
import Derived.Test.YtnogcoijlnnbdaaPeriod
namespace Go.Proofs.Ytnogcoijlnnbdaa
open Go.RowKit Go.Shelf

theorem Pl.round_few (x u b : Int) : (Pl.roundA x u b).length ≤ 200 := by
  by_cases h : Pl.overB x u b = true
  · obtain ⟨y, v, k, rfl, rfl, rfl, h1, hv, h3, h4, h5, h6⟩ := Pl.overB_nat h
    rw [Pl.round_len h]
    have := (Pl.periodN_per (b := k) (u := v) (by omega) h5).2.1
    omega
  · rw [Pl.roundA_no h]; simp

set_option maxHeartbeats 1000000 in
theorem FnExactUnderOk_walk (a0 : Int) (a1 : Int) (w : World) (_w0 : (Lit.int .i64 a0).wf = true) (_w1 : (Lit.int .i64 a1).wf = true) :
    Calls Try.prog 9 #[.int .i64 a0, .int .i64 a1] w fun e w' => e = .returned (.bool true) ∧ Below w.heap.size w w' := by
  have HS := Lib.hid (specUnderOk a0 a1)
  have HI := Lib.hid (implUnderOk a0 a1)
  generalize Pl.underB a0 a1 = G0 at *
  go_enter Try.func9, Try.ntmps9
  go_wp2_with (first | (go_at_call 17; refine (HS.out _).mono ?_; rintro e w' ⟨rfl, rfl⟩) | (go_at_call 16; refine (HI.out _).mono ?_; rintro e w2 ⟨rfl, hb2⟩))
  all_goals
    go_ret
    exact ⟨rfl, hb2⟩

set_option maxHeartbeats 1000000 in
theorem FnExactPeriodOf_walk (a0 : Int) (a1 : Int) (w : World) (_w0 : (Lit.int .i64 a0).wf = true) (_w1 : (Lit.int .i64 a1).wf = true) :
    Calls Try.prog 10 #[.int .i64 a0, .int .i64 a1] w fun e w' => e = .returned (.bool true) ∧ Below w.heap.size w w' := by
  have HS := Lib.hid (specPeriodOf a0 a1)
  have HI := Lib.hid (implPeriodOf a0 a1)
  generalize Pl.periodI a0 a1 = G0 at *
  go_enter Try.func10, Try.ntmps10
  go_wp2_with (first | (go_at_call 22; refine (HS.out _).mono ?_; rintro e w' ⟨rfl, rfl⟩) | (go_at_call 21; refine (HI.out _).mono ?_; rintro e w2 ⟨rfl, hb2⟩))
  all_goals
    go_ret
    exact ⟨rfl, hb2⟩

set_option maxHeartbeats 1000000 in
theorem FnExactRoundOf_walk (a0 : Int) (a1 : Int) (a2 : Int) (w : World) (_w0 : (Lit.int .i64 a0).wf = true) (_w1 : (Lit.int .i64 a1).wf = true) (_w2 : (Lit.int .i64 a2).wf = true) :
    Calls Try.prog 11 #[.int .i64 a0, .int .i64 a1, .int .i64 a2] w fun e w' => e = .returned (.bool true) ∧ Below w.heap.size w w' := by
  have HS := Lib.hid (specRoundOf a0 a1 a2)
  have HI := Lib.hid (implRoundOf8 a0 a1 a2)
  have hlen := Pl.round_few a0 a1 a2
  generalize Pl.roundA a0 a1 a2 = G0 at *
  go_enter Try.func11, Try.ntmps11
  go_wp2_with fail
  refine (HS.out _).mono ?_
  rintro e w1 ⟨v0, rfl, r0, b0⟩
  go_wp2_with fail
  refine (HI.out _).mono ?_
  rintro e w2 ⟨v1, rfl, r1, b1⟩
  have i0 := r0.ints.below b1
  go_wp2_with fail
  refine (eqIntS _ _ G0 G0 w2 r1.ints i0 (by omega)).mono ?_
  rintro e w3 ⟨rfl, b2⟩
  rw [eqL_self]
  go_wp2_with fail
  refine (markIntS w1.heap.size _ G0 1 w3 (r1.below b2) (by omega) (by omega) (by omega)).mono ?_
  rintro e w4 ⟨rfl, r4, b4⟩
  go_wp2_with fail
  refine (heldIntS _ 1 G0.length w4 r4.ints (by omega) (by omega) (by omega)).mono ?_
  rintro e w5 ⟨rfl, rfl⟩
  go_wp2_with fail
  refine (HI.out _).mono ?_
  rintro e w6 ⟨v2, rfl, r6, b6⟩
  have c2 : Below w1.heap.size w1 w4 := (b1.trans (b2.mono b1.size)).trans b4
  have c6 : Below w1.heap.size w1 w6 := c2.trans (b6.mono c2.size)
  go_wp2_with fail
  refine (eqIntS _ _ G0 G0 w6 r6.ints (r0.ints.kept (Nat.le_refl _) c6) (by omega)).mono ?_
  rintro e w7 ⟨rfl, b7⟩
  rw [eqL_self]
  go_wp2_with fail
  refine (heldIntS _ 1 G0.length w7 ((r4.ints.below b6).below b7) (by omega) (by omega) (by omega)).mono ?_
  rintro e w8 ⟨rfl, rfl⟩
  go_wp2
  go_ret
  exact ⟨rfl, (b0.trans (c6.mono b0.size)).trans (b7.mono (Nat.le_trans b0.size c6.size))⟩

set_option maxHeartbeats 1000000 in
theorem FnExactHalvesOk_walk (a0 : Int) (a1 : Int) (w : World) (_w0 : (Lit.int .i64 a0).wf = true) (_w1 : (Lit.int .i64 a1).wf = true) :
    Calls Try.prog 12 #[.int .i64 a0, .int .i64 a1] w fun e w' => e = .returned (.bool true) ∧ Below w.heap.size w w' := by
  have HS := Lib.hid (specHalvesOk a0 a1)
  have HI := Lib.hid (implHalvesOk a0 a1)
  generalize Pl.halvesB a0 a1 = G0 at *
  go_enter Try.func12, Try.ntmps12
  go_wp2_with (first | (go_at_call 30; refine (HS.out _).mono ?_; rintro e w1 ⟨rfl, hb1⟩) | (go_at_call 29; refine (HI.out _).mono ?_; rintro e w2 ⟨rfl, hb2⟩))
  all_goals
    go_ret
    exact ⟨rfl, hb1.trans (hb2.mono hb1.size)⟩

set_option maxHeartbeats 1000000 in
theorem FnExactFullOk_walk (a0 : Int) (a1 : Int) (w : World) (_w0 : (Lit.int .i64 a0).wf = true) (_w1 : (Lit.int .i64 a1).wf = true) :
    Calls Try.prog 13 #[.int .i64 a0, .int .i64 a1] w fun e w' => e = .returned (.bool true) ∧ Below w.heap.size w w' := by
  have hu : a0 ≤ 9223372036854775807 := (bounds_i64 _w0).2
  have HS := Lib.hid (specFullOk a0 a1 hu)
  have HI := Lib.hid (implFullOk a0 a1 hu)
  generalize Pl.fullB a0 a1 = G0 at *
  go_enter Try.func13, Try.ntmps13
  go_wp2_with (first | (go_at_call 33; refine (HS.out _).mono ?_; rintro e w' ⟨rfl, rfl⟩) | (go_at_call 32; refine (HI.out _).mono ?_; rintro e w2 ⟨rfl, hb2⟩))
  all_goals
    go_ret
    exact ⟨rfl, hb2⟩

set_option maxHeartbeats 1000000 in
theorem FnExactBegunAt_walk (a0 : Int) (a1 : Int) (a2 : Int) (w : World) (_w0 : (Lit.int .i64 a0).wf = true) (_w1 : (Lit.int .i64 a1).wf = true) (_w2 : (Lit.int .i64 a2).wf = true) :
    Calls Try.prog 14 #[.int .i64 a0, .int .i64 a1, .int .i64 a2] w fun e w' => e = .returned (.bool true) ∧ Below w.heap.size w w' := by
  have HS := Lib.hid (specBegunAt a0 a1 a2)
  have HI := Lib.hid (implBegunAt a0 a1 a2)
  generalize Pl.wV (Pl.begunO a0 a1 a2) = G0 at *
  generalize Pl.wB (Pl.begunO a0 a1 a2) = G1 at *
  go_enter Try.func14, Try.ntmps14
  go_wp2_with (first | (go_at_call 36; refine (HS.out _).mono ?_; rintro e w' ⟨rfl, rfl⟩) | (go_at_call 34; refine (HI.out _).mono ?_; rintro e w2 ⟨rfl, hb2⟩))
  all_goals
    go_ret
    exact ⟨rfl, hb2⟩


end Go.Proofs.Ytnogcoijlnnbdaa
