/-
  Chapter 12: the walk of the law of DeskOk, its inputs drawn.
-/
import Derived.Test.YtakkjlcnfkklpaaDrawDesk
import Derived.Test.YtakkjlcnfkklpaaArgs
namespace Go.Proofs.Ytakkjlcnfkklpaa
open Go.RowKit Go.Shelf

/-- A desk. -/
def DeskGot (w : World) (e : Ending) (w' : World) : Prop :=
  ∃ (d : Pl.Dk) (v : Value), e = .returned (.agg #[.int .i64 d.b, .int .i64 d.n, v]) ∧ Ints w' v d.past ∧ d.past.length ≤ 20 ∧ Below w.heap.size w w'

set_option maxRecDepth 100000 in
set_option maxHeartbeats 2000000 in
theorem drawDeskOk (a : Option Addr) (len cap : Nat) (z : List Int) (w : World) (h : IsRow .u8 w a len cap z) :
    Calls Try.prog 11 #[.slice a len cap] w (DeskGot w) := by
  have h1 : IsRow .u8 (w.alloc (.cells #[.int .i64 0, .int .i64 0, .slice none 0 0] 25)) a len cap z := h.stay ((Below.refl _ _).alloc (Nat.le_refl _) _)
  have R1 := SBox.new w 25 #[.int .i64 0, .int .i64 0, .slice none 0 0]
  have b1 : Below w.heap.size w (w.alloc (.cells #[.int .i64 0, .int .i64 0, .slice none 0 0] 25)) := (Below.refl _ _).alloc (Nat.le_refl _) _
  have z1 : w.heap.size < (w.alloc (.cells #[.int .i64 0, .int .i64 0, .slice none 0 0] 25)).heap.size := by simp
  clear h
  go_enter Try.func11, Try.ntmps11
  go_upto_region 1 with (fail)
  generalize w.alloc (.cells #[.int .i64 0, .int .i64 0, .slice none 0 0] 25) = W at *
  go_wp2_with fail
  refine (l20Open _ _ _ _ _ h1).mono ?_
  rintro e w1 ⟨r, rfl, hr⟩
  have hlt := hr.lt
  have R2 := R1.kept hr.below
  go_wp2_with fail
  refine (l20Desk W r 0 2 w1 hr (by omega) (by omega) (by omega)).mono ?_
  rintro e w2 ⟨d, v, rfl, hd, hlen, hr2, hO⟩
  have R3 := R2.only hO (by omega)
  have b3 := b1.trans (hr2.below.mono b1.size)
  obtain ⟨a2, l2, rfl⟩ := hd.shape
  go_wp2_with (first | (refine desk_store rfl _ _ rfl rfl rfl rfl R3 ?_; intro w9 hS9 hbl9 hsz9 hO9))
  refine bodyPost_ret (results_one rfl _ _ w.heap.size _ _ rfl hS9 rfl Try.underlying25 (by rw [size_desk]; rfl)) rfl ?_
  exact ⟨d, _, rfl, (hd.stored R3 (by decide) hO9).ints, hlen, b3.trans (hbl9 w.heap.size (Nat.le_refl _))⟩

set_option maxRecDepth 100000 in
set_option maxHeartbeats 2000000 in
theorem FnDeskOk_walk (a0 : Option Addr) (len0 cap0 : Nat) (z0 : List Int) (w : World) (w0 : IsRow .u8 w a0 len0 cap0 z0) :
    Calls Try.prog 3 #[.slice a0 len0 cap0] w fun e w' => e = .returned (.bool true) ∧ Below w.heap.size w w' := by
  by_cases hl : 1048576 < len0
  · go_enter Try.func3, Try.ntmps3
    go_wp2
    go_ret
    exact ⟨rfl, Below.refl _ _⟩
  · go_enter Try.func3, Try.ntmps3
    go_wp2_with fail
    refine (drawDeskOk _ _ _ _ _ w0).mono ?_
    rintro e w1 ⟨d, v, rfl, hd, hlen, hb1⟩
    obtain ⟨a, cap, rfl, _⟩ := id hd
    clear w0
    have c1 := hb1.alloc hb1.size (.cells #[.int .i64 d.b, .int .i64 d.n, .slice a d.past.length cap] 25)
    have S1 := SBox.new w1 25 #[.int .i64 d.b, .int .i64 d.n, .slice a d.past.length cap]
    have i1 := Lib.hid (hd.below ((Below.refl _ w1).alloc (Nat.le_refl _) (.cells #[.int .i64 d.b, .int .i64 d.n, .slice a d.past.length cap] 25)))
    have HI := Lib.hid (fun W (h : Ints W (.slice a d.past.length cap) d.past) => implDeskOk d (.slice a d.past.length cap) W h (by omega))
    have HS := Lib.hid (fun W (h : Ints W (.slice a d.past.length cap) d.past) => specDeskOk d (.slice a d.past.length cap) W h (by omega))
    have HZ := Lib.hid (fun W => implDeskOk ⟨0, 0, []⟩ (.slice none 0 0) W (Ints.nil _) (by simp))
    have HE := Lib.hid (fun W => implDeskOk ⟨d.b, d.n, []⟩ (.slice none 0 0) W (Ints.nil _) (by simp))
    have e0 : Pl.dkB ⟨0, 0, []⟩ = false := by decide
    rw [e0] at HZ
    have hEB : Pl.dkB d = true → Pl.dkB ⟨d.b, d.n, []⟩ = true := fun h => (Pl.dkB_new d.n d.b).trans ((Pl.dkB_iff _).mp h).1
    clear hb1 hd e0
    go_wp2_with (first | (refine desk_load rfl _ rfl rfl S1 ?_))
    refine (HI.out _ i1.out).mono ?_
    rintro e w2 ⟨rfl, b2⟩
    have S2 := S1.kept b2
    have i2 := Lib.hid (i1.out.below b2)
    have c2 := c1.trans (b2.mono c1.size)
    clear S1 i1 c1 b2
    cases hB : Pl.dkB d with
    | true =>
      rw [hB] at HS hEB
      rw [hEB rfl] at HE
      clear hB hEB
      go_wp2_with (first | (refine desk_load rfl _ rfl rfl S2 ?_))
      refine (HS.out _ i2.out).mono ?_
      rintro e w3 ⟨rfl, b3⟩
      have S3 := S2.kept b3
      have c3 := c2.trans (b3.mono c2.size)
      have d0 := S3.cell 0
      have d1 := S3.cell 1
      clear S2 i2 c2 b3
      go_wp2_with fail
      refine (HE.out _).mono ?_
      rintro e w4 ⟨rfl, b4⟩
      have c4 := c3.trans (b4.mono c3.size)
      clear S3 c3 b4 d0 d1
      go_wp2_with fail
      refine (HZ.out _).mono ?_
      rintro e w5 ⟨rfl, b5⟩
      have c5 := c4.trans (b5.mono c4.size)
      clear c4 b5
      go_wp2_with (go_at_call 14; refine (alive _).mono ?_; rintro e w' ⟨rfl, rfl⟩)
      go_ret
      exact ⟨rfl, c5⟩
    | false =>
      rw [hB] at HS
      clear hB hEB HE
      go_wp2_with (first | (refine desk_load rfl _ rfl rfl S2 ?_))
      refine (HS.out _ i2.out).mono ?_
      rintro e w3 ⟨rfl, b3⟩
      have c3 := c2.trans (b3.mono c2.size)
      clear S2 i2 c2 b3
      go_wp2_with fail
      refine (HZ.out _).mono ?_
      rintro e w5 ⟨rfl, b5⟩
      have c5 := c3.trans (b5.mono c3.size)
      clear c3 b5
      go_wp2_with (go_at_call 14; refine (alive _).mono ?_; rintro e w' ⟨rfl, rfl⟩)
      go_ret
      exact ⟨rfl, c5⟩

end Go.Proofs.Ytakkjlcnfkklpaa
