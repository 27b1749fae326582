/-
  Chapter 12: the walk of the exact law of DeedText.
-/
import Derived.Test.YtakkjlcnfkklpaaDoorDeedI
import Derived.Test.YtakkjlcnfkklpaaDoorDeedExact
import Derived.Test.YtakkjlcnfkklpaaDoorArgs
import Derived.Test.YtakkjlcnfkklpaaDoorSpecDeed
import Derived.Deep.RegionHeld3
namespace Go.Proofs.YtakkjlcnfkklpaaDoor
open Go.RowKit Go.Shelf

theorem FnExactDeedText_lib {W : World} (h : laidMetH Tryd.prog Rows.fnExactDeedTextRow.laid W) : TabOk W := by
  rw [MakeChecks.laidMetH_plain _ _ _ (by kernel_rfl)] at h
  exact tab_of_laid h

set_option maxRecDepth 100000 in
set_option maxHeartbeats 1000000 in
theorem FnExactDeedText_walk (b0 n0 : Int) (w : World) (_wb0 : (Lit.int .i64 b0).wf = true) (_wn0 : (Lit.int .i64 n0).wf = true) (hT : TabOk w) :
    Calls Tryd.prog 3 #[.agg #[.int .i64 b0, .int .i64 n0]] w fun e w' => e = .returned (.bool true) ∧ Below w.heap.size w w' := by
  have HT := Lib.hid (toDeed b0 n0)
  have HS := Lib.hid (specDeedText b0 n0)
  have HI := Lib.hid (implDeedText b0 n0)
  have HTab := Lib.hid hT
  clear hT
  generalize Pl.str (Pl.deedL b0 n0) = G at *
  go_enter Tryd.func3, Tryd.ntmps3
  go_wp2_with fail
  refine (HT.out _).mono ?_
  rintro e w1 ⟨rfl, b1⟩
  have c1 := ((Below.refl _ w).alloc (Nat.le_refl _) (.cells #[.int .i64 b0, .int .i64 n0] 23)).trans (b1.mono (by simp))
  have B1 := (SBox.new w 23 #[.int .i64 b0, .int .i64 n0]).kept b1
  clear b1
  go_wp2_with fail
  refine (HS.out _).mono ?_
  rintro e w2 ⟨rfl, b2⟩
  have c2 := c1.trans (b2.mono c1.size)
  have d0 := (B1.kept b2).cell 0
  have d1 := (B1.kept b2).cell 1
  clear b2 B1 c1
  go_wp2_with fail
  refine (HT.out _).mono ?_
  rintro e w3 ⟨rfl, b3⟩
  have c3 := c2.trans (b3.mono c2.size)
  clear b3 c2 d0 d1
  go_wp2_with fail
  refine (HI.out _ (HTab.out.below c3)).mono ?_
  rintro e w4 ⟨rfl, b4⟩
  have c5 := c3.trans (b4.mono c3.size)
  clear b4 c3
  go_wp2
  go_ret
  exact ⟨rfl, c5⟩

end Go.Proofs.YtakkjlcnfkklpaaDoor
