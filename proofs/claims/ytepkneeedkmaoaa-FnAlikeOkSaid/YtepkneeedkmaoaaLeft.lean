/-
  impl: the methods down and left of a width; UpOf, DownOf, LeftOf: what they answer.
-/
import Derived.Test.YtepkneeedkmaoaaOrdered
namespace Go.Proofs.Ytepkneeedkmaoaa
open Go.RowKit Go.Shelf

set_option maxRecDepth 100000 in
set_option maxHeartbeats 2000000 in
theorem widthDown (x v b : Nat) (h1 : 2 ≤ b) (h2 : b ≤ 16) (h3 : 2 ≤ v) (h4 : v ≤ 6) (hx : x < b ^ v) (w : World) :
    Calls Try.prog 48 #[.agg #[.int .i64 v, .int .i64 b], .int .i64 x] w fun e w' => e = .returned (.int .i64 (Pl.downN b v x : Nat)) ∧ Below w.heap.size w w' := by
  have HO := Lib.hid (widthOrdered x v b h1 h2 h3 h4 hx)
  have HW := Lib.hid (Pl.whole_down (x := x) h1 h2 (v := v) (by omega) h4)
  have hlen : (Pl.ints (Pl.ordW b v x)).length ≤ 1000000000 := by rw [Pl.ints_len, Pl.ordW_len h1]; omega
  have hlen' : (Pl.ints (Pl.ordW b v x)).reverse.length ≤ 1000000000 := by rw [List.length_reverse]; exact hlen
  have HLEN := Lib.hid hlen
  have HLEN' := Lib.hid hlen'
  clear hlen hlen' hx
  generalize Pl.ints (Pl.ordW b v x) = L at *
  generalize Pl.downN b v x = U at *
  go_enter Try.func48, Try.ntmps48
  go_wp2_with fail
  have hb0 : Below (w.heap.size + 1) (w.alloc (.cells #[.int .i64 v, .int .i64 b] 42)) ((w.alloc (.cells #[.int .i64 v, .int .i64 b] 42)).drew) := (Below.refl _ _).drew
  obtain ⟨c0, c1, hB⟩ := width_box hb0
  go_region_with (first | (go_at_call 60; refine (HO.out _).mono ?_; rintro e w1 ⟨u, rfl, r1, b1⟩; have HR := Lib.hid r1; have hb1 := hb0.trans (b1.mono (by simp)); obtain ⟨e0, e1, hB1⟩ := width_box hb1; clear r1 b1 c0 c1 hb0) | (go_at_call 58; refine (reversed _ L _ HR.out.ints HLEN.out).mono ?_; rintro e w2 ⟨u2, rfl, r2, b2⟩; have HR2 := Lib.hid r2; have hb2 := hb1.trans (b2.mono (by have := hb1.size; simp at this; omega)); obtain ⟨f0, f1, hB2⟩ := width_box hb2; clear r2 b2 e0 e1 hb1) | (go_at_call 59; refine (implWholeOf _ L.reverse _ _ HR2.out.ints HLEN'.out).mono ?_; rintro e w3 ⟨rfl, rfl⟩; rw [HW.out]))
  all_goals
    go_wp2
    go_ret
    exact ⟨rfl, hB2⟩

set_option maxRecDepth 100000 in
set_option maxHeartbeats 2000000 in
theorem widthLeft (x v b : Nat) (h1 : 2 ≤ b) (h2 : b ≤ 16) (h3 : 2 ≤ v) (h4 : v ≤ 6) (hx : x < b ^ v) (w : World) :
    Calls Try.prog 52 #[.agg #[.int .i64 v, .int .i64 b], .int .i64 x] w fun e w' => e = .returned (.int .i64 (Pl.leftN b v x : Nat)) ∧ Below w.heap.size w w' := by
  have HD := Lib.hid (widthDown x v b h1 h2 h3 h4 hx)
  have HU := Lib.hid (widthUp x v b h1 h2 h3 h4 hx)
  have hle := Pl.up_le_down h1 v x
  have hlt := Pl.downN_lt h1 v x
  have hp := Pl.pow_le24 (b := b) (w := v) h2 h4
  have HL : Hid (((Pl.downN b v x : Nat) : Int) - ((Pl.upN b v x : Nat) : Int) = ((Pl.leftN b v x : Nat) : Int)) := Lib.hid (by unfold Pl.leftN; omega)
  have hd : Pl.downN b v x ≤ 16777216 := by omega
  clear hlt hp hx
  generalize Pl.leftN b v x = M at *
  obtain ⟨D, hD⟩ : ∃ D : Int, ((Pl.downN b v x : Nat) : Int) = D := ⟨_, rfl⟩
  obtain ⟨U, hU⟩ : ∃ U : Int, ((Pl.upN b v x : Nat) : Int) = U := ⟨_, rfl⟩
  have g1 : 0 ≤ U := by omega
  have g2 : U ≤ D := by omega
  have g3 : D ≤ 16777216 := by omega
  rw [hD] at HD HL
  rw [hU] at HU HL
  clear hle hd hD hU
  go_enter Try.func52, Try.ntmps52
  go_wp2_with fail
  have hb0 : Below (w.heap.size + 1) (w.alloc (.cells #[.int .i64 v, .int .i64 b] 42)) ((w.alloc (.cells #[.int .i64 v, .int .i64 b] 42)).drew) := (Below.refl _ _).drew
  obtain ⟨c0, c1, hB⟩ := width_box hb0
  go_region_with (first | (go_at_call 48; refine (HD.out _).mono ?_; rintro e w1 ⟨rfl, b1⟩; have hb1 := hb0.trans (b1.mono (by simp)); obtain ⟨e0, e1, hB1⟩ := width_box hb1; clear b1 c0 c1 hb0) | (go_at_call 51; refine (HU.out _).mono ?_; rintro e w2 ⟨rfl, b2⟩; have hb2 := hb1.trans (b2.mono (by have := hb1.size; simp at this; omega)); obtain ⟨f0, f1, hB2⟩ := width_box hb2; clear b2 e0 e1 hb1))
  all_goals
    go_wp2
    go_ret
    exact ⟨ret_int (by rw [IntWalk.i64_in _ (by omega)]; exact HL.out), hB2⟩

set_option maxHeartbeats 400000 in
theorem implUpOf (n v b : Int) (w : World) :
    Calls Try.prog 24 #[.int .i64 n, .int .i64 v, .int .i64 b] w fun e w' => e = .returned (.int .i64 (Pl.upI n v b)) ∧ Below w.heap.size w w' := by
  by_cases h : Pl.wideB n v b = true
  · obtain ⟨x, y, k, rfl, rfl, rfl, h1, h2, h3, h4, h5⟩ := Pl.wideB_nat h
    rw [Pl.upI_yes x y k h]
    have H := Lib.hid (widthUp x y k h1 h2 h3 h4 h5)
    clear h5
    go_enter Try.func24, Try.ntmps24
    go_wp2_with (go_at_call 16; refine (implWideOk _ _ _ _).mono ?_; rintro e w1 ⟨rfl, b1⟩; rw [h])
    refine (H.out _).mono ?_
    rintro e w2 ⟨rfl, b2⟩
    go_wp2
    go_ret
    exact ⟨rfl, b1.trans (b2.mono b1.size)⟩
  · rw [Pl.upI_no h]
    have h' : Pl.wideB n v b = false := by simpa using h
    clear h
    go_enter Try.func24, Try.ntmps24
    go_wp2_with (go_at_call 16; refine (implWideOk _ _ _ _).mono ?_; rintro e w1 ⟨rfl, b1⟩; rw [h'])
    go_ret
    exact ⟨rfl, b1⟩

set_option maxHeartbeats 400000 in
theorem implDownOf (n v b : Int) (w : World) :
    Calls Try.prog 21 #[.int .i64 n, .int .i64 v, .int .i64 b] w fun e w' => e = .returned (.int .i64 (Pl.downI n v b)) ∧ Below w.heap.size w w' := by
  by_cases h : Pl.wideB n v b = true
  · obtain ⟨x, y, k, rfl, rfl, rfl, h1, h2, h3, h4, h5⟩ := Pl.wideB_nat h
    rw [Pl.downI_yes x y k h]
    have H := Lib.hid (widthDown x y k h1 h2 h3 h4 h5)
    clear h5
    go_enter Try.func21, Try.ntmps21
    go_wp2_with (go_at_call 16; refine (implWideOk _ _ _ _).mono ?_; rintro e w1 ⟨rfl, b1⟩; rw [h])
    refine (H.out _).mono ?_
    rintro e w2 ⟨rfl, b2⟩
    go_wp2
    go_ret
    exact ⟨rfl, b1.trans (b2.mono b1.size)⟩
  · rw [Pl.downI_no h]
    have h' : Pl.wideB n v b = false := by simpa using h
    clear h
    go_enter Try.func21, Try.ntmps21
    go_wp2_with (go_at_call 16; refine (implWideOk _ _ _ _).mono ?_; rintro e w1 ⟨rfl, b1⟩; rw [h'])
    go_ret
    exact ⟨rfl, b1⟩

set_option maxHeartbeats 400000 in
theorem implLeftOf (n v b : Int) (w : World) :
    Calls Try.prog 28 #[.int .i64 n, .int .i64 v, .int .i64 b] w fun e w' => e = .returned (.int .i64 (Pl.leftI n v b)) ∧ Below w.heap.size w w' := by
  by_cases h : Pl.wideB n v b = true
  · obtain ⟨x, y, k, rfl, rfl, rfl, h1, h2, h3, h4, h5⟩ := Pl.wideB_nat h
    rw [Pl.leftI_yes x y k h]
    have H := Lib.hid (widthLeft x y k h1 h2 h3 h4 h5)
    clear h5
    go_enter Try.func28, Try.ntmps28
    go_wp2_with (go_at_call 16; refine (implWideOk _ _ _ _).mono ?_; rintro e w1 ⟨rfl, b1⟩; rw [h])
    refine (H.out _).mono ?_
    rintro e w2 ⟨rfl, b2⟩
    go_wp2
    go_ret
    exact ⟨rfl, b1.trans (b2.mono b1.size)⟩
  · rw [Pl.leftI_no h]
    have h' : Pl.wideB n v b = false := by simpa using h
    clear h
    go_enter Try.func28, Try.ntmps28
    go_wp2_with (go_at_call 16; refine (implWideOk _ _ _ _).mono ?_; rintro e w1 ⟨rfl, b1⟩; rw [h'])
    go_ret
    exact ⟨rfl, b1⟩

end Go.Proofs.Ytepkneeedkmaoaa
