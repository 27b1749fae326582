/-
  Chapter 12: the walks of the exact laws of ReadDeed and ReadJournal.
-/
import Derived.Test.YtakkjlcnfkklpaaDoorJournalI
import Derived.Test.YtakkjlcnfkklpaaDoorDeedExact
import Derived.Test.YtakkjlcnfkklpaaDoorArgs
import Derived.Deep.RegionHeld3
namespace Go.Proofs.YtakkjlcnfkklpaaDoor
open Go.RowKit Go.Shelf

theorem FnExactReadDeed_lib {W : World} (h : laidMetH Tryd.prog Rows.fnExactReadDeedRow.laid W) : LibOk W := by
  rw [MakeChecks.laidMetH_plain _ _ _ (by kernel_rfl)] at h
  exact lib_of_laid h

set_option maxRecDepth 100000 in
set_option maxHeartbeats 1000000 in
theorem FnExactReadDeed_walk (s0 : ByteArray) (w : World) (_w0 : s0.size ≤ maxLen) (hL : LibOk w) :
    Calls Tryd.prog 4 #[.string s0] w fun e w' => e = .returned (.bool true) ∧ Below w.heap.size w w' := by
  by_cases hl : 1048576 < s0.size
  · go_enter Tryd.func4, Tryd.ntmps4
    go_wp2
    go_ret
    exact ⟨rfl, Below.refl _ _⟩
  · have HS := Lib.hid (specReadDeed s0 (by omega))
    have HI := Lib.hid (implReadDeed s0 (by omega))
    have HLib := Lib.hid hL
    clear hL
    generalize Pl.rdK (Pl.readL s0.data.toList) = K at *
    generalize Pl.rdN (Pl.readL s0.data.toList) = M at *
    generalize Pl.rdB (Pl.readL s0.data.toList) = B at *
    have HE := Lib.hid (eqDeed K M)
    go_enter Tryd.func4, Tryd.ntmps4
    go_wp2_with fail
    refine (HS.out _).mono ?_
    rintro e w1 ⟨rfl, b1⟩
    go_wp2_with fail
    refine (HI.out _ (HLib.out.below (b1.alloc b1.size _))).mono ?_
    rintro e w2 ⟨rfl, b2⟩
    have c2 := (b1.alloc b1.size (.cells #[.int .i64 K, .int .i64 M] 25)).trans (b2.mono (by have := b1.size; simp; omega))
    have B1 := ((SBox.new w1 25 #[.int .i64 K, .int .i64 M]).kept b2).alloc (.cells #[.int .i64 K, .int .i64 M] 25)
    have d0 := B1.cell 0
    have d1 := B1.cell 1
    have hz : w1.heap.size < w2.heap.size := by have := b2.size; simp at this; omega
    have c3 := c2.alloc c2.size (.cells #[.int .i64 K, .int .i64 M] 25)
    clear b1 b2 B1 c2
    go_wp2_with fail
    refine (HE.out _).mono ?_
    rintro e w3 ⟨rfl, b3⟩
    have c4 := c3.trans (b3.mono c3.size)
    clear b3 c3
    go_wp2
    all_goals
      go_ret
      exact ⟨rfl, c4⟩

theorem FnExactReadJournal_lib {W : World} (h : laidMetH Tryd.prog Rows.fnExactReadJournalRow.laid W) : LibOk W := by
  rw [MakeChecks.laidMetH_plain _ _ _ (by kernel_rfl)] at h
  exact lib_of_laid h

theorem Pl.rjA_len (s acc : List UInt8) : (Pl.rjA acc s).1.length ≤ s.length := by
  induction s generalizing acc with
  | nil => simp [Pl.rjA]
  | cons c t ih =>
    rw [Pl.rjA]
    split
    · split
      · simp
      · have := ih []; simp; omega
    · have := ih (acc ++ [c]); simp; omega

set_option maxRecDepth 100000 in
set_option maxHeartbeats 2000000 in
theorem FnExactReadJournal_walk (s0 : ByteArray) (w : World) (_w0 : s0.size ≤ maxLen) (hL : LibOk w) :
    Calls Tryd.prog 6 #[.string s0] w fun e w' => e = .returned (.bool true) ∧ Below w.heap.size w w' := by
  by_cases hl : 1048576 < s0.size
  · go_enter Tryd.func6, Tryd.ntmps6
    go_wp2
    go_ret
    exact ⟨rfl, Below.refl _ _⟩
  · have HS := Lib.hid (specReadJournal s0 (by omega))
    have HI := Lib.hid (implReadJournal s0 (by omega))
    have HLib := Lib.hid hL
    clear hL
    have hlen : (Pl.rjA [] s0.data.toList).1.length ≤ 1048576 := by have := Pl.rjA_len s0.data.toList []; have e : s0.data.toList.length = s0.size := by rw [Array.length_toList]; rfl
                                                                    omega
    generalize Pl.rjA [] s0.data.toList = R at *
    obtain ⟨ds, f⟩ := R
    simp only at hlen
    have HX := Lib.hid hlen
    go_enter Tryd.func6, Tryd.ntmps6
    go_wp2_with fail
    refine (HS.out _).mono ?_
    rintro e w1 ⟨v0, rfl, r0, b1⟩
    go_wp2_with fail
    refine (HI.out _ (HLib.out.below b1)).mono ?_
    rintro e w2 ⟨v1, rfl, r1, b2⟩
    have i0 := r0.deeds.below b2
    have c2 := b1.trans (b2.mono b1.size)
    have z12 := b2.size
    go_wp2_with fail
    refine (eqDeedS _ _ ds w2 r1.deeds i0 (by omega)).mono ?_
    rintro e w3 ⟨rfl, b3⟩
    go_wp2_with fail
    refine (markDeedS w1.heap.size _ ds 1 w3 (r1.below b3) (by omega) (by omega) (by omega)).mono ?_
    rintro e w4 ⟨rfl, r4, b4⟩
    go_wp2_with fail
    refine (heldDeedS _ 1 ds.length w4 r4.deeds (by omega) (by omega) (by omega)).mono ?_
    rintro e w5 ⟨rfl, rfl⟩
    have c4 : Below w1.heap.size w1 w4 := (b2.trans (b3.mono b2.size)).trans b4
    have hneg : ¬ (1 : Int) + 2 * (ds.length : Int) < 0 := by omega
    go_wp2_with fail
    refine (HI.out _ (HLib.out.below (b1.trans (c4.mono b1.size)))).mono ?_
    rintro e w6 ⟨v2, rfl, r6, b6⟩
    have c6 : Below w1.heap.size w1 w6 := c4.trans (b6.mono c4.size)
    go_wp2_with fail
    refine (eqDeedS _ _ ds w6 r6.deeds (r0.deeds.below c6) (by omega)).mono ?_
    rintro e w7 ⟨rfl, b7⟩
    go_wp2_with fail
    refine (heldDeedS _ 1 ds.length w7 ((r4.deeds.below b6).below b7) (by omega) (by omega) (by omega)).mono ?_
    rintro e w8 ⟨rfl, rfl⟩
    go_wp2
    go_ret
    exact ⟨rfl, (b1.trans (c6.mono b1.size)).trans (b7.mono (Nat.le_trans b1.size c6.size))⟩

end Go.Proofs.YtakkjlcnfkklpaaDoor
