/-
  Roots of digits: impl.rootAfter, RootOf, RootSteps; spec.l2Root, RootOf, RootSteps: what they answer.
-/
import Derived.Test.YtakkjlcnfkklpaaSumOf
import Derived.Test.YtakkjlcnfkklpaaMathRoot
namespace Go.Proofs.Ytakkjlcnfkklpaa
open Go.RowKit Go.Shelf

namespace Pl
/-- The root as the functions answer: -1 for others. -/
def rootI (n b : Int) : Int := if okB n b = true then (rootN b.toNat n.toNat : Int) else -1
theorem rootI_yes (n b : Nat) (h : okB n b = true) : rootI n b = (rootN b n : Int) := by rw [rootI, if_pos h]; rfl
theorem rootI_no {n b : Int} (h : ¬ okB n b = true) : rootI n b = -1 := by rw [rootI, if_neg h]
/-- The steps as the functions answer: -1 for others. -/
def stepsI (n b : Int) : Int := if okB n b = true then (stepsN b.toNat n.toNat : Int) else -1
theorem stepsI_yes (n b : Nat) (h : okB n b = true) : stepsI n b = (stepsN b n : Int) := by rw [stepsI, if_pos h]; rfl
theorem stepsI_no {n b : Int} (h : ¬ okB n b = true) : stepsI n b = -1 := by rw [stepsI, if_neg h]
end Pl

set_option maxHeartbeats 400000 in
theorem rootAfter (b : Nat) (hb : 2 ≤ b) (hb' : b ≤ 16) (x : Nat) : x ≤ 1000000000 → ∀ (s : Nat) (w : World), s + Pl.stepsN b x ≤ 100 →
    Calls Try.prog 52 #[.int .i64 x, .int .i64 b, .int .i64 s] w fun e w' => e = .returned (.tuple #[.int .i64 (Pl.rootN b x), .int .i64 ((s : Int) + (Pl.stepsN b x : Int))]) ∧ Below w.heap.size w w' := by
  induction x using Nat.strongRecOn with
  | _ x ih =>
    intro hx s w hs
    by_cases hlt : x < b
    · have h1 := Lib.hid (Pl.rootN_lt hlt)
      have h2 := Lib.hid (Pl.stepsN_lt hlt)
      clear ih hs
      go_enter Try.func52, Try.ntmps52
      go_wp2_with fail
      go_ret2
      exact ⟨by rw [h1.out, h2.out]; simp, Below.refl _ _⟩
    · have hless := Pl.sumD_less hb (n := x) (by omega)
      have hst := Pl.stepsN_ge hb (n := x) (by omega)
      have IH : Hid (∀ (W : World), Calls Try.prog 52 #[.int .i64 (Pl.sumD b x), .int .i64 b, .int .i64 ((s : Int) + 1)] W fun e w' => e = .returned (.tuple #[.int .i64 (Pl.rootN b (Pl.sumD b x)), .int .i64 ((s : Int) + 1 + (Pl.stepsN b (Pl.sumD b x) : Int))]) ∧ Below W.heap.size W w') :=
        Lib.hid fun W => ih (Pl.sumD b x) hless (by omega) (s + 1) W (by omega)
      have h1 := Lib.hid (Pl.rootN_ge hb (n := x) (by omega))
      have h2 := Lib.hid hst
      have hs1 : (s : Int) + 1 ≤ 100 := by omega
      clear ih hs hst hless
      go_enter Try.func52, Try.ntmps52
      go_wp2_with fail
      refine (sumOfYes x b hb hb' hx _).mono ?_
      rintro e w1 ⟨rfl, hb1⟩
      go_wp2_with fail
      refine (IH.out _).mono ?_
      rintro e w2 ⟨rfl, hb2⟩
      go_wp2
      go_ret2
      exact ⟨by rw [h1.out, h2.out]; simp; omega, hb1.trans (hb2.mono hb1.size)⟩

set_option maxHeartbeats 400000 in
theorem implRootOf (n b : Int) (w : World) :
    Calls Try.prog 23 #[.int .i64 n, .int .i64 b] w fun e W' => e = .returned (.int .i64 (Pl.rootI n b)) ∧ Below w.heap.size w W' := by
  by_cases h : Pl.okB n b = true
  · obtain ⟨x, k, rfl, rfl, h1, h2, h3⟩ := Pl.okB_nat h
    have hs := Pl.steps_le h1 h2 h3
    rw [Pl.rootI_yes x k h]
    go_enter Try.func23, Try.ntmps23
    go_wp2_with (go_at_call 39; refine (hasDigits _ _ _).mono ?_; rintro e w' ⟨rfl, rfl⟩)
    refine (rootAfter k h1 h2 x h3 0 _ (by omega)).mono ?_
    rintro e w1 ⟨rfl, hb1⟩
    go_wp2
    go_ret
    exact ⟨rfl, hb1⟩
  · rw [Pl.rootI_no h]
    go_enter Try.func23, Try.ntmps23
    go_wp2_with (go_at_call 39; refine (hasDigits _ _ _).mono ?_; rintro e w' ⟨rfl, rfl⟩)
    go_ret
    exact ⟨rfl, Below.refl _ _⟩

theorem specTest (n b : Int) (h : ¬ Pl.okB n b = true) : (decide (0 ≤ n) && decide (n ≤ 1000000000)) = false ∨ ((decide (0 ≤ n) && decide (n ≤ 1000000000)) = true ∧ Pl.baseB b = false) := by
  by_cases hn : (decide (0 ≤ n) && decide (n ≤ 1000000000)) = true
  · exact .inr ⟨hn, by cases hb : Pl.baseB b <;> simp_all [Pl.okB]⟩
  · exact .inl (by simpa using hn)

end Go.Proofs.Ytakkjlcnfkklpaa
