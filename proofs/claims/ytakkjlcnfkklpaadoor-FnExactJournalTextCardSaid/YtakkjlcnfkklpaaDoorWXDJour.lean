/-
  Chapter 12: the walk of the exact law of JournalText.
-/
import Derived.Test.YtakkjlcnfkklpaaDoorJournalO
import Derived.Test.YtakkjlcnfkklpaaDoorDeedExact
import Derived.Test.YtakkjlcnfkklpaaDoorArgs
import Derived.Deep.RegionHeld3
namespace Go.Proofs.YtakkjlcnfkklpaaDoor
open Go.RowKit Go.Shelf

theorem FnExactJournalText_lib {W : World} (h : laidMetH Tryd.prog Rows.fnExactJournalTextRow.laid W) : TabOk W := by
  rw [MakeChecks.laidMetH_plain _ _ _ (by kernel_rfl)] at h
  exact tab_of_laid h

set_option maxRecDepth 100000 in
set_option maxHeartbeats 1000000 in
theorem FnExactJournalText_walk (a0 : Option Addr) (len0 cap0 : Nat) (d0 : List (Int × Int)) (w : World) (w0 : Deeds w (.slice a0 len0 cap0) d0) (e0 : d0.length = len0) (l0 : len0 ≤ maxLen) (hTab : TabOk w) :
    Calls Tryd.prog 5 #[.slice a0 len0 cap0] w fun e w' => e = .returned (.bool true) ∧ Below w.heap.size w w' := by
  have HTab := Lib.hid hTab
  clear hTab
  by_cases hl : 1048576 < len0
  · have HZ := Lib.hid (szDeedS_no a0 len0 cap0 1048576 w (by omega) (by omega) (by unfold maxLen at l0; omega))
    go_enter Tryd.func5, Tryd.ntmps5
    go_wp2_with fail
    refine HZ.out.mono ?_
    rintro e w' ⟨rfl, rfl⟩
    go_wp2
    go_ret
    exact ⟨rfl, Below.refl _ _⟩
  · have HZ := Lib.hid (szDeedS_yes a0 len0 cap0 1048576 w (by omega) (by omega))
    have hx : d0.length ≤ 1000000000 := by omega
    have hx2 : d0.length ≤ 10000000 := by omega
    have hneg : ¬ (1048576 : Int) - (len0 : Int) < 0 := by omega
    have HT := Lib.hid (fun W hb => toDeedS (.slice a0 len0 cap0) d0 W (w0.below hb) hx)
    generalize (1048576 : Int) - (len0 : Int) = LEFT at *
    clear e0 l0 hl w0
    go_enter Tryd.func5, Tryd.ntmps5
    go_wp2_with fail
    refine HZ.out.mono ?_
    rintro e w' ⟨rfl, rfl⟩
    go_wp2_with fail
    refine (HT.out w (Below.refl _ _)).mono ?_
    rintro e w1 ⟨v1, rfl, r1, b1⟩
    go_wp2_with fail
    refine (specJournalText v1 d0 w1 r1.deeds hx2).mono ?_
    rintro e w2 ⟨rfl, b2⟩
    have c2 := b1.trans (b2.mono b1.size)
    clear r1 b1 b2
    go_wp2_with fail
    refine (HT.out w2 c2).mono ?_
    rintro e w3 ⟨v3, rfl, r3, b3⟩
    have c3 := c2.trans (b3.mono c2.size)
    clear b3 c2
    go_wp2_with fail
    refine (implJournalText v3 d0 w3 r3.deeds hx2 (HTab.out.below c3)).mono ?_
    rintro e w4 ⟨rfl, b4⟩
    have c4 := c3.trans (b4.mono c3.size)
    have i4 := r3.deeds.below b4
    clear b4 c3 r3
    generalize Pl.str (Pl.journalL d0) = G at *
    go_wp2_with fail
    refine (HT.out w4 c4).mono ?_
    rintro e w5 ⟨v5, rfl, r5, b5⟩
    have c5 := c4.trans (b5.mono c4.size)
    have i5 := i4.below b5
    clear b5 c4 i4
    go_wp2_with fail
    refine (eqDeedS _ _ d0 w5 i5 r5.deeds hx).mono ?_
    rintro e w6 ⟨rfl, b6⟩
    have c6 := c5.trans (b6.mono c5.size)
    clear b6 c5 i5 r5
    go_wp2
    go_ret
    exact ⟨rfl, c6⟩

end Go.Proofs.YtakkjlcnfkklpaaDoor
