/-
  A journal's text is drawn.
-/
import Derived.Test.YtgkkoegfmhgcjaaGreatDoorDrawWritten
import Derived.Test.YtgkkoegfmhgcjaaGreatDoorDrawSpoil
import Derived.Test.YtgkkoegfmhgcjaaGreatDoorGText
namespace Go.Proofs.YtgkkoegfmhgcjaaGreatDoor
open Go.RowKit Go.Shelf

set_option maxRecDepth 100000 in
set_option maxHeartbeats 2000000 in
theorem drawReadJournal (a : Option Addr) (len cap : Nat) (z : List Int) (w : World) (h : IsRow .u8 w a len cap z) :
    Calls Tryz.prog 8 #[.slice a len cap] w (TextPost w 100000) := by
  go_enter Tryz.func8, Tryz.ntmps8
  go_wp2_with fail
  refine (l20Open _ _ _ _ _ h).mono ?_
  rintro e w1 ⟨r, rfl, hr⟩
  have hlt := hr.lt
  clear h
  go_wp2_with fail
  refine (l20Written w r 0 w1 hr (by omega)).mono ?_
  rintro e w2 ⟨v, ds, rfl, hd, hlen, hr2, hO2⟩
  have hs2 := hO2.size
  have HS := Lib.hid (specJournalText v ds w2 hd.deeds (by omega))
  have hjl : (Pl.journalL ds).length ≤ 1000 := by
    have := Pl.textL_len ds
    unfold Pl.journalL
    split
    · omega
    · simp
  have hsz : (Pl.str (Pl.journalL ds)).size ≤ 1000 := by rw [Pl.str_size]; exact hjl
  clear hr hjl
  generalize Pl.str (Pl.journalL ds) = A at *
  go_wp2_with fail
  refine HS.out.mono ?_
  rintro e w3 ⟨rfl, b3⟩
  have hr3 := hr2.over (b3.mono (by have := hr2.lt; omega))
  clear hr2 hO2 hd HS
  go_wp2_with fail
  refine (pick w r _ 3 w3 (by omega) hr3).mono ?_
  rintro e w4 ⟨x, rfl, x0, x1, hr4, hO4⟩
  clear hr3 hO4
  by_cases hx : x = 0
  · subst hx
    go_wp2_with fail
    refine (l20Spoil w r _ A w4 hr4 (by omega) (by omega)).mono ?_
    rintro e w5 ⟨t, rfl, ht, hr5, hO5⟩
    go_wp2
    go_ret
    exact ⟨t, rfl, by omega, hr5.below⟩
  · by_cases hx1 : x = 1
    · subst hx1
      go_wp2_with fail
      refine (pick w r _ ((A.size : Int) + 1) w4 (by omega) hr4).mono ?_
      rintro e w5 ⟨y, rfl, y0, y1, hr5, hO5⟩
      have y2 := y1 (by omega)
      obtain ⟨Y, rfl⟩ := Int.eq_ofNat_of_zero_le y0
      go_wp2_with fail
      go_ret
      exact ⟨_, rfl, by simp; omega, hr5.below⟩
    · go_wp2_with fail
      go_ret
      exact ⟨A, rfl, by omega, hr4.below⟩

end Go.Proofs.YtgkkoegfmhgcjaaGreatDoor
