/-
  spec.RoundsUpTo at whatever arguments; the exact law of RoundsUpTo.
-/
import Derived.Test.YthpimanfkbeanaaSpecUp
namespace Go.Proofs.Ythpimanfkbeanaa
open Go.RowKit Go.Shelf

set_option maxRecDepth 100000 in
set_option maxHeartbeats 1000000 in
theorem specRoundsUpTo (most t b : Int) (w : World) : Calls Try.prog 33 #[.int .i64 most, .int .i64 t, .int .i64 b] w (ListPost w (Pl.upA most t b)) := by
  by_cases h : Pl.upB most t b = true
  · obtain ⟨g1, g2, g3⟩ := (Pl.upB_iff most t b).1 h
    obtain ⟨m, rfl⟩ := Int.eq_ofNat_of_zero_le (show 0 ≤ most by omega)
    rw [Pl.upA_yes m t b h]
    exact specUpYes m t b g1 (by omega) (by omega) w
  · rw [Pl.upA_no h]
    have b0 : Below w.heap.size w (w.alloc (.cells #[] 3)) := (Below.refl _ _).alloc (Nat.le_refl _) _
    have r0 := row_empty w
    by_cases g2 : 1 ≤ most
    · by_cases g3 : most ≤ 500
      · have g1 : ¬ Pl.ruleB t b = true := fun g => h ((Pl.upB_iff most t b).2 ⟨g, g2, g3⟩)
        have hno : ¬ Pl.okT 1 t b = true := fun hk => g1 (by rw [Pl.okT, Bool.and_eq_true] at hk; exact hk.1)
        have HC : Hid (∀ W, Calls Try.prog 22 #[.int .i64 1, .int .i64 t, .int .i64 b] W (ListPost W [])) := Lib.hid fun W => by
          have := specRoundFrom 1 t b W
          rwa [Pl.roundA_no hno] at this
        clear h hno g1
        go_enter Try.func33, Try.ntmps33
        go_wp2_with fail
        go_loopg [7, 8, 9, 10, 11, 12, 13] 0 (fun _ o i _ _ _ _ _ wr => o = .slice (some ⟨w.heap.size, 0, none⟩) 0 0 ∧ i = .int .i64 1 ∧ wr = w.alloc (.cells #[] 3))
        case atStart => exact ⟨rfl, rfl, rfl⟩
        case round =>
          obtain ⟨rfl, rfl, rfl⟩ := hrel
          go_wp2_with fail
          refine (HC.out _).mono ?_
          rintro e w2 ⟨v2, rfl, r2, b2⟩
          obtain ⟨a, cap, rfl⟩ := r2.shape
          clear r2
          have r3 := r0.below b2
          go_wp2_with fail
          go_ret
          exact ⟨_, rfl, r3, b0.trans (b2.mono b0.size)⟩
      · clear h
        go_enter Try.func33, Try.ntmps33
        go_wp2_with fail
        go_loopg [7, 8, 9, 10, 11, 12, 13] 0 (fun _ o i _ _ _ _ _ wr => o = .slice (some ⟨w.heap.size, 0, none⟩) 0 0 ∧ i = .int .i64 1 ∧ wr = w.alloc (.cells #[] 3))
        case atStart => exact ⟨rfl, rfl, rfl⟩
        case round =>
          obtain ⟨rfl, rfl, rfl⟩ := hrel
          go_wp2_with fail
          go_ret
          exact ⟨_, rfl, r0, b0⟩
    · clear h
      go_enter Try.func33, Try.ntmps33
      go_wp2_with fail
      go_loopg [7, 8, 9, 10, 11, 12, 13] 0 (fun _ o i _ _ _ _ _ wr => o = .slice (some ⟨w.heap.size, 0, none⟩) 0 0 ∧ i = .int .i64 1 ∧ wr = w.alloc (.cells #[] 3))
      case atStart => exact ⟨rfl, rfl, rfl⟩
      case round =>
        obtain ⟨rfl, rfl, rfl⟩ := hrel
        go_wp2_with fail
        go_ret
        exact ⟨_, rfl, r0, b0⟩

set_option maxHeartbeats 1000000 in
theorem FnExactRoundsUpTo_walk (a0 : Int) (a1 : Int) (a2 : Int) (w : World) (_w0 : (Lit.int .i64 a0).wf = true) (_w1 : (Lit.int .i64 a1).wf = true) (_w2 : (Lit.int .i64 a2).wf = true) :
    Calls Try.prog 12 #[.int .i64 a0, .int .i64 a1, .int .i64 a2] w fun e w' => e = .returned (.bool true) ∧ Below w.heap.size w w' := by
  have HS := Lib.hid (specRoundsUpTo a0 a1 a2)
  have HI := Lib.hid (implRoundsUpTo a0 a1 a2)
  have hlen := Pl.upA_len a0 a1 a2
  generalize Pl.upA a0 a1 a2 = L at *
  go_enter Try.func12, Try.ntmps12
  go_wp2_with fail
  refine (HS.out _).mono ?_
  rintro e w1 ⟨v0, rfl, r0, b0⟩
  go_wp2_with fail
  refine (HI.out _).mono ?_
  rintro e w2 ⟨v1, rfl, r1, b1⟩
  have i0 := r0.ints.below b1
  go_wp2_with fail
  refine (eqIntS _ _ L L w2 r1.ints i0 (by omega)).mono ?_
  rintro e w3 ⟨rfl, b2⟩
  rw [eqL_self]
  go_wp2_with fail
  refine (markIntS w1.heap.size _ L 1 w3 (r1.below b2) (by omega) (by omega) (by omega)).mono ?_
  rintro e w4 ⟨rfl, r4, b4⟩
  go_wp2_with fail
  refine (heldIntS _ 1 L.length w4 r4.ints (by omega) (by omega) (by omega)).mono ?_
  rintro e w5 ⟨rfl, rfl⟩
  go_wp2_with fail
  refine (HI.out _).mono ?_
  rintro e w6 ⟨v2, rfl, r6, b6⟩
  have c2 : Below w1.heap.size w1 w4 := (b1.trans (b2.mono b1.size)).trans b4
  have c6 : Below w1.heap.size w1 w6 := c2.trans (b6.mono c2.size)
  go_wp2_with fail
  refine (eqIntS _ _ L L w6 r6.ints (r0.ints.kept (Nat.le_refl _) c6) (by omega)).mono ?_
  rintro e w7 ⟨rfl, b7⟩
  rw [eqL_self]
  go_wp2_with fail
  refine (heldIntS _ 1 L.length w7 ((r4.ints.below b6).below b7) (by omega) (by omega) (by omega)).mono ?_
  rintro e w8 ⟨rfl, rfl⟩
  go_wp2
  go_ret
  exact ⟨rfl, (b0.trans (c6.mono b0.size)).trans (b7.mono (Nat.le_trans b0.size c6.size))⟩

end Go.Proofs.Ythpimanfkbeanaa
