/-
  The walk of the law of PrimeBaseOk.
-/
import Derived.Test.YtcepbhmnbfaoeaaDraws11
import Derived.Test.YtcepbhmnbfaoeaaSpecCarry
import Derived.Test.YtcepbhmnbfaoeaaEndPrimes
import Derived.Test.YtcepbhmnbfaoeaaCarry
namespace Go.Proofs.Ytcepbhmnbfaoeaa
open Go.RowKit

/-- A prime is a base of one prime. -/
theorem Pl.prime_one {p : Int} (h : Pl.primeB p = true) : Pl.baseB p = true ∧ Pl.primesI p = 1 := by
  simp only [Pl.primeB, decide_eq_true_eq] at h
  rcases h with rfl | rfl | rfl | rfl | rfl | rfl
  all_goals exact ⟨by decide, by decide⟩

set_option maxRecDepth 100000 in
set_option maxHeartbeats 2000000 in
theorem FnPrimeBaseOk_walk (a0 : Option Addr) (len0 cap0 : Nat) (z0 : List Int) (w : World) (w0 : IsRow .u8 w a0 len0 cap0 z0) :
    Calls Try.prog 4 #[.slice a0 len0 cap0] w fun e w' => e = .returned (.bool true) ∧ Below w.heap.size w w' := by
  by_cases hl : 1048576 < len0
  · go_enter Try.func4, Try.ntmps4
    go_wp2
    go_ret
    exact ⟨rfl, Below.refl _ _⟩
  · go_enter Try.func4, Try.ntmps4
    go_wp2_with fail
    refine (drawPrimeBaseOk _ _ _ _ _ w0).mono ?_
    rintro e w1 ⟨p, rfl, ⟨p1, p2⟩, hb1⟩
    clear w0 hl
    have HI := Lib.hid (implPrimeBaseOk p)
    have HS := Lib.hid (specPrimeBaseOk p)
    have H2 : Hid (∀ W, Calls Try.prog 21 #[.int .i64 2] W fun e w' => e = .returned (.bool true) ∧ Below W.heap.size W w') := Lib.hid (implPrimeBaseOk 2)
    have H1 : Hid (∀ W, Calls Try.prog 21 #[.int .i64 1] W fun e w' => e = .returned (.bool false) ∧ Below W.heap.size W w') := Lib.hid (implPrimeBaseOk 1)
    by_cases hp : Pl.primeB p = true
    · obtain ⟨hB, hone⟩ := Pl.prime_one hp
      have HO := Lib.hid (implPrimesOf p)
      rw [hone] at HO
      rw [hp] at HI HS
      clear hone hp
      go_wp2_with fail
      refine (HI.out _).mono ?_
      rintro e w2 ⟨rfl, hb2⟩
      have c2 : Below w.heap.size w w2 := hb1.trans (hb2.mono hb1.size)
      go_wp2_with fail
      refine (HS.out _).mono ?_
      rintro e w' ⟨rfl, rfl⟩
      go_wp2_with (go_at_call 23; refine (implBaseOk _ _).mono ?_; rintro e w' ⟨rfl, rfl⟩; rw [hB])
      refine (HO.out _).mono ?_
      rintro e w3 ⟨rfl, hb3⟩
      have c3 : Below w.heap.size w w3 := c2.trans (hb3.mono c2.size)
      go_wp2_with fail
      refine (H2.out _).mono ?_
      rintro e w4 ⟨rfl, hb4⟩
      have c4 : Below w.heap.size w w4 := c3.trans (hb4.mono c3.size)
      go_wp2_with fail
      refine (H1.out _).mono ?_
      rintro e w5 ⟨rfl, hb5⟩
      have c5 : Below w.heap.size w w5 := c4.trans (hb5.mono c4.size)
      go_wp2_with (go_at_call 18; refine (alive _).mono ?_; rintro e w' ⟨rfl, rfl⟩)
      go_ret
      exact ⟨rfl, c5⟩
    · have hp' : Pl.primeB p = false := by simpa using hp
      rw [hp'] at HI HS
      clear hp hp'
      go_wp2_with fail
      refine (HI.out _).mono ?_
      rintro e w2 ⟨rfl, hb2⟩
      have c2 : Below w.heap.size w w2 := hb1.trans (hb2.mono hb1.size)
      go_wp2_with fail
      refine (HS.out _).mono ?_
      rintro e w' ⟨rfl, rfl⟩
      go_wp2_with fail
      refine (H2.out _).mono ?_
      rintro e w4 ⟨rfl, hb4⟩
      have c4 : Below w.heap.size w w4 := c2.trans (hb4.mono c2.size)
      go_wp2_with fail
      refine (H1.out _).mono ?_
      rintro e w5 ⟨rfl, hb5⟩
      have c5 : Below w.heap.size w w5 := c4.trans (hb5.mono c4.size)
      go_wp2_with (go_at_call 18; refine (alive _).mono ?_; rintro e w' ⟨rfl, rfl⟩)
      go_ret
      exact ⟨rfl, c5⟩

end Go.Proofs.Ytcepbhmnbfaoeaa
