/-
  Chapter 12: the walk of the law of DeskNew, its inputs drawn.
-/
import Derived.Test.YtakkjlcnfkklpaaDeskI
import Derived.Test.YtakkjlcnfkklpaaDeskLaws
import Derived.Test.YtakkjlcnfkklpaaDraws
import Derived.Test.YtakkjlcnfkklpaaArgs
namespace Go.Proofs.Ytakkjlcnfkklpaa
open Go.RowKit Go.Shelf

set_option maxHeartbeats 400000 in
theorem drawDeskNew (a : Option Addr) (len cap : Nat) (z : List Int) (w : World) (h : IsRow .u8 w a len cap z) :
    Calls Try.prog 15 #[.slice a len cap] w (BothPost w) := by
  go_enter Try.func15, Try.ntmps15
  go_wp2_with (go_at_call 38; refine (l20Open _ _ _ _ _ h).mono ?_; rintro e w1 ⟨r, rfl, hr⟩)
  refine (l20Both w r 0 w1 hr (by omega)).mono ?_
  rintro e w2 ⟨x, y, rfl, hx, hy, hr2, _⟩
  go_wp2
  go_ret2
  exact ⟨x, y, rfl, hx, hy, hr2.below⟩

set_option maxRecDepth 100000 in
set_option maxHeartbeats 2000000 in
theorem FnDeskNew_walk (a0 : Option Addr) (len0 cap0 : Nat) (z0 : List Int) (w : World) (w0 : IsRow .u8 w a0 len0 cap0 z0) :
    Calls Try.prog 4 #[.slice a0 len0 cap0] w fun e w' => e = .returned (.bool true) ∧ Below w.heap.size w w' := by
  by_cases hl : 1048576 < len0
  · go_enter Try.func4, Try.ntmps4
    go_wp2
    go_ret
    exact ⟨rfl, Below.refl _ _⟩
  · go_enter Try.func4, Try.ntmps4
    go_wp2_with fail
    refine (drawDeskNew _ _ _ _ _ w0).mono ?_
    rintro e w1 ⟨n, b, rfl, ⟨n1, n2⟩, ⟨b1, b2⟩, hb1⟩
    clear w0
    have HI := Lib.hid (fun W => implDeskNew n b W)
    have HS := Lib.hid (fun W => specDeskNew n b W)
    cases hok : Pl.okB n b with
    | true =>
      have hP : Pl.newA n b = (⟨b, n, []⟩, true) := by unfold Pl.newA; rw [if_pos hok]
      have hD : Pl.dkB ⟨b, n, []⟩ = true := (Pl.dkB_new n b).trans hok
      have hSame : Pl.sameA ⟨b, n, []⟩ ⟨b, n, []⟩ = true := by simp [Pl.sameA, eqL]
      rw [hP] at HI HS
      simp only at HI HS
      have HD := Lib.hid hD
      have HE := Lib.hid hSame
      clear hok hP hD hSame
      go_wp2_with fail
      refine (HI.out _).mono ?_
      rintro e w2 ⟨v2, rfl, o2, _, b2⟩
      have i2 := o2.ints
      obtain ⟨a, cap, rfl, _⟩ := o2.ints
      have c2 : Below w.heap.size w (w2.alloc (.cells #[.int .i64 b, .int .i64 n, .slice a 0 cap] 25)) := (hb1.trans (b2.mono hb1.size)).alloc ((hb1.trans (b2.mono hb1.size)).size) _
      have S2 := SBox.new w2 25 #[.int .i64 b, .int .i64 n, .slice a 0 cap]
      have i2' := i2.below ((Below.refl _ w2).alloc (Nat.le_refl _) (.cells #[.int .i64 b, .int .i64 n, .slice a 0 cap] 25))
      clear o2 b2 i2
      go_wp2_with fail
      refine (HS.out _).mono ?_
      rintro e w3 ⟨rfl, b3⟩
      have S3 := (S2.kept b3).alloc (.cells #[.int .i64 b, .int .i64 n, .slice none 0 0] 25)
      have T3 := SBox.new w3 25 #[.int .i64 b, .int .i64 n, .slice none 0 0]
      have i3 := (i2'.below b3).below ((Below.refl _ w3).alloc (Nat.le_refl _) (.cells #[.int .i64 b, .int .i64 n, .slice none 0 0] 25))
      have c3' := c2.trans (b3.mono c2.size)
      have c3 := c3'.alloc c3'.size (.cells #[.int .i64 b, .int .i64 n, .slice none 0 0] 25)
      clear b3 c2 S2 i2' c3'
      go_wp2_with (first | (refine desk_load rfl _ rfl rfl S3 ?_) | (refine desk_load rfl _ rfl rfl T3 ?_))
      refine (sameDesk ⟨b, n, []⟩ ⟨b, n, []⟩ _ _ _ i3 (Ints.nil _) (by simp)).mono ?_
      rintro e w4 ⟨rfl, b4⟩
      rw [HE.out]
      have S4 := S3.kept b4
      have i4 := i3.below b4
      have c4 := c3.trans (b4.mono c3.size)
      clear S3 T3 i3 c3 b4
      go_wp2_with (first | (refine desk_load rfl _ rfl rfl S4 ?_))
      refine (implDeskOk ⟨b, n, []⟩ _ _ i4 (by simp)).mono ?_
      rintro e w5 ⟨rfl, b5⟩
      rw [HD.out]
      have S5 := S4.kept b5
      have c5 := c4.trans (b5.mono c4.size)
      have d0 := S5.cell 0
      have d1 := S5.cell 1
      have d2 := S5.cell 2
      clear S4 i4 c4 b5
      go_wp2
      go_ret
      exact ⟨rfl, c5⟩
    | false =>
      have hP : Pl.newA n b = (⟨0, 0, []⟩, false) := by unfold Pl.newA; rw [if_neg (by rw [hok]; decide)]; rfl
      have hSame : Pl.sameA ⟨0, 0, []⟩ ⟨0, 0, []⟩ = true := by simp [Pl.sameA, eqL]
      rw [hP] at HI HS
      simp only at HI HS
      have HE := Lib.hid hSame
      clear hok hP hSame
      go_wp2_with fail
      refine (HI.out _).mono ?_
      rintro e w2 ⟨v2, rfl, o2, _, b2⟩
      have i2 := o2.ints
      obtain ⟨a, cap, rfl, _⟩ := o2.ints
      have c2 : Below w.heap.size w (w2.alloc (.cells #[.int .i64 0, .int .i64 0, .slice a 0 cap] 25)) := (hb1.trans (b2.mono hb1.size)).alloc ((hb1.trans (b2.mono hb1.size)).size) _
      have S2 := SBox.new w2 25 #[.int .i64 0, .int .i64 0, .slice a 0 cap]
      have i2' := i2.below ((Below.refl _ w2).alloc (Nat.le_refl _) (.cells #[.int .i64 0, .int .i64 0, .slice a 0 cap] 25))
      clear o2 b2 i2
      go_wp2_with fail
      refine (HS.out _).mono ?_
      rintro e w3 ⟨rfl, b3⟩
      have S3 := (S2.kept b3).alloc (.cells #[.int .i64 0, .int .i64 0, .slice none 0 0] 25)
      have T3 := SBox.new w3 25 #[.int .i64 0, .int .i64 0, .slice none 0 0]
      have i3 := (i2'.below b3).below ((Below.refl _ w3).alloc (Nat.le_refl _) (.cells #[.int .i64 0, .int .i64 0, .slice none 0 0] 25))
      have c3' := c2.trans (b3.mono c2.size)
      have c3 := c3'.alloc c3'.size (.cells #[.int .i64 0, .int .i64 0, .slice none 0 0] 25)
      clear b3 c2 S2 i2' c3'
      go_wp2_with (first | (refine desk_load rfl _ rfl rfl S3 ?_) | (refine desk_load rfl _ rfl rfl T3 ?_))
      refine (sameDesk ⟨0, 0, []⟩ ⟨0, 0, []⟩ _ _ _ i3 (Ints.nil _) (by simp)).mono ?_
      rintro e w4 ⟨rfl, b4⟩
      rw [HE.out]
      have S4 := S3.kept b4
      have i4 := i3.below b4
      have c4 := c3.trans (b4.mono c3.size)
      clear S3 T3 i3 c3 b4
      go_wp2_with (first | (refine desk_load rfl _ rfl rfl S4 ?_))
      refine (noDesk ⟨0, 0, []⟩ _ _ i4 (by simp)).mono ?_
      rintro e w5 ⟨rfl, b5⟩
      rw [HE.out]
      have c5 := c4.trans (b5.mono c4.size)
      clear S4 i4 c4 b5
      go_wp2_with (go_at_call 14; refine (alive _).mono ?_; rintro e w' ⟨rfl, rfl⟩)
      go_ret
      exact ⟨rfl, c5⟩

end Go.Proofs.Ytakkjlcnfkklpaa
