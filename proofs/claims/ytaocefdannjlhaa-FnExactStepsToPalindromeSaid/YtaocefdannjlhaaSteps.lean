/-
  StepsToPalindrome, of the program and of the model; its exact law.
-/
import Derived.Test.YtaocefdannjlhaaTurned
namespace Go.Proofs.Ytaocefdannjlhaa
open Go.RowKit Go.Shelf

namespace Pl

/-- Steps and palindrome, as the functions answer. -/
def stepsA (n b : Int) : Option (Nat × Nat) := if okB n b = true then stepsO b.toNat n.toNat else none
def stK : Option (Nat × Nat) → Int | some q => (q.1 : Int) | none => -1
def stL : Option (Nat × Nat) → Int | some q => (q.2 : Int) | none => -1
def stB : Option (Nat × Nat) → Bool | some _ => true | none => false
theorem stepsA_yes (n b : Nat) (h : okB n b = true) : stepsA n b = stepsO b n := by rw [stepsA, if_pos h]; rfl
theorem stepsA_no {n b : Int} (h : ¬ okB n b = true) : stepsA n b = none := by rw [stepsA, if_neg h]

/-- So many steps on, at a number. -/
def StepAt (b x s m : Nat) : Prop := stepsO b x = (stepsO b m).map fun q => (q.1 + s, q.2)

theorem stepAt_start (b x : Nat) : StepAt b x 0 x := by
  unfold StepAt
  cases stepsO b x <;> rfl
theorem stepAt_pal {b x s m : Nat} (h : StepAt b x s m) (hp : turnN b m = m) : stepsO b x = some (s, m) := by
  rw [h, stepsO_pal hp]; simp
theorem stepAt_more {b x s m : Nat} (hb : 2 ≤ b) (h : StepAt b x s m) (hp : turnN b m ≠ m) (hs : m + turnN b m ≤ 1000000000) : StepAt b x (s + 1) (m + turnN b m) := by
  unfold StepAt at h ⊢
  rw [h, stepsO_more hb hp hs, Option.map_map]
  congr 1
  funext q
  simp [Nat.add_assoc, Nat.add_comm 1 s]
theorem stepAt_big {b x s m : Nat} (h : StepAt b x s m) (hp : turnN b m ≠ m) (hs : ¬ m + turnN b m ≤ 1000000000) : stepsO b x = none := by
  rw [h, stepsO_big hp hs]; rfl

theorem added_yes {b m : Nat} (h : okB m b = true) (hs : m + turnN b m ≤ 1000000000) : addI m b = ((m + turnN b m : Nat) : Int) ∧ addB m b = true := by
  have e := turnI_yes m b h (by omega)
  obtain ⟨e1, e2⟩ := addI_yes (n := m) (b := b) (by rw [e]; omega) (by rw [e]; omega)
  exact ⟨by rw [e1, e]; omega, e2⟩
theorem added_no {b m : Nat} (h : okB m b = true) (hs : ¬ m + turnN b m ≤ 1000000000) : addI m b = -1 ∧ addB m b = false := by
  refine addI_no fun hh => hs ?_
  by_cases hb : turnN b m ≤ 1000000000
  · rw [turnI_yes m b h hb] at hh; omega
  · rw [turnI_big m b hb] at hh; omega
theorem grows {b m : Nat} (hb : 2 ≤ b) (hp : turnN b m ≠ m) : 1 ≤ turnN b m := by
  refine turn_pos hb (Classical.byContradiction fun hz => hp ?_)
  obtain rfl : m = 0 := by omega
  exact turnN_lt (by omega)

end Pl

def toldM : Value → Nat → Nat
  | .bool true, k => 1000000001 - k
  | _, _ => 0

theorem ret_steps {a b c d : Int} {x y : Bool} (h1 : a = b) (h2 : c = d) (h3 : x = y) : Ending.returned (.tuple #[.int .i64 a, .int .i64 c, .bool x]) = .returned (.tuple #[.int .i64 b, .int .i64 d, .bool y]) := by rw [h1, h2, h3]

set_option maxHeartbeats 1000000 in
theorem implPalStepsYes (x b : Nat) (hb : 2 ≤ b) (hb' : b ≤ 16) (hx : x ≤ 1000000000) (w : World) :
    Calls Try.prog 35 #[.int .i64 x, .int .i64 b] w fun e w' => e = .returned (.tuple #[.int .i64 (Pl.stK (Pl.stepsO b x)), .int .i64 (Pl.stL (Pl.stepsO b x)), .bool (Pl.stB (Pl.stepsO b x))]) ∧ Below w.heap.size w w' := by
  have hok : Pl.okB x b = true := by rw [Pl.okB_iff]; omega
  have HS := Lib.hid (Pl.stepAt_start b x)
  go_enter Try.func35, Try.ntmps35
  go_wp2_with (go_at_call 39; refine (hasDigits _ _ _).mono ?_; rintro e w' ⟨rfl, rfl⟩; rw [hok])
  go_loopw [7, 8, 9] (fun sv mv tv wr => ∃ (s : Nat) (M : Int) (t : Bool), sv = .int .i64 s ∧ mv = .int .i64 M ∧ tv = .bool t ∧ ((t = true ∧ ∃ m : Nat, M = (m : Int) ∧ m ≤ 1000000000 ∧ s ≤ m ∧ Pl.StepAt b x s m) ∨ (t = false ∧ Pl.stepsO b x = none)) ∧ Below w.heap.size w wr) (fun _ mv tv _ => toldM tv (intOf mv).toNat)
  case atStart => exact ⟨0, x, true, rfl, rfl, rfl, .inl ⟨rfl, x, rfl, hx, by omega, HS.out⟩, Below.refl _ _⟩
  case round =>
    clear hok HS
    obtain ⟨s, M, t, rfl, rfl, rfl, hcase, hbw⟩ := hrel
    rcases hcase with ⟨rfl, m, rfl, hm, hsm, hAt⟩ | ⟨rfl, hnone⟩
    · have hokm : Pl.okB m b = true := by rw [Pl.okB_iff]; omega
      have HA := Lib.hid hAt
      clear hAt
      by_cases hp : Pl.turnN b m = m
      · have hpal : Pl.palB m b = true := by rw [Pl.palB_yes m b hokm]; simp [hp]
        have HE := Lib.hid (Pl.stepAt_pal HA.out hp)
        clear hp hokm
        go_wp2_with (go_at_call 21; refine (implPalindromeOk _ _ _).mono ?_; rintro e w1 ⟨rfl, b1⟩; rw [hpal])
        go_ret3
        exact ⟨ret_steps (by rw [HE.out]; rfl) (by rw [HE.out]; rfl) (by rw [HE.out]; rfl), hbw.trans (b1.mono hbw.size)⟩
      · have hpal : Pl.palB m b = false := by rw [Pl.palB_yes m b hokm]; simp [hp]
        by_cases hs : m + Pl.turnN b m ≤ 1000000000
        · obtain ⟨e1, e2⟩ := Pl.added_yes hokm hs
          have HN := Lib.hid (Pl.stepAt_more hb HA.out hp hs)
          have hg := Pl.grows hb hp
          have hmn : m + 1 ≤ m + Pl.turnN b m := by omega
          have e3 := Lib.hid e1
          clear hp hokm e1 hg
          generalize m + Pl.turnN b m = m' at *
          go_wp2_with (first | (go_at_call 21; refine (implPalindromeOk _ _ _).mono ?_; rintro e w1 ⟨rfl, b1⟩; rw [hpal]) | (go_at_call 31; refine (implAddedTurned _ _ _).mono ?_; rintro e w2 ⟨rfl, b2⟩; rw [e3.out, e2]))
          go_roundw
          case rel =>
            have c1 : Below w.heap.size w w1 := hbw.trans (b1.mono hbw.size)
            exact ⟨s + 1, _, true, by go_num, rfl, rfl, .inl ⟨rfl, m', rfl, hs, by omega, HN.out⟩, c1.trans (b2.mono c1.size)⟩
          case measure => simp [toldM, intOf]; omega
        · obtain ⟨e1, e2⟩ := Pl.added_no hokm hs
          have HN := Lib.hid (Pl.stepAt_big HA.out hp hs)
          clear hp hokm hs
          go_wp2_with (first | (go_at_call 21; refine (implPalindromeOk _ _ _).mono ?_; rintro e w1 ⟨rfl, b1⟩; rw [hpal]) | (go_at_call 31; refine (implAddedTurned _ _ _).mono ?_; rintro e w2 ⟨rfl, b2⟩; rw [e1, e2]))
          go_roundw
          case rel =>
            have c1 : Below w.heap.size w w1 := hbw.trans (b1.mono hbw.size)
            exact ⟨s + 1, _, false, by go_num, rfl, rfl, .inr ⟨rfl, HN.out⟩, c1.trans (b2.mono c1.size)⟩
          case measure => simp [toldM, intOf]; omega
    · have HN := Lib.hid hnone
      clear hnone
      go_wp2
      go_ret3
      exact ⟨ret_steps (by rw [HN.out]; rfl) (by rw [HN.out]; rfl) (by rw [HN.out]; rfl), hbw⟩

set_option maxHeartbeats 400000 in
theorem implPalSteps (n b : Int) (w : World) :
    Calls Try.prog 35 #[.int .i64 n, .int .i64 b] w fun e w' => e = .returned (.tuple #[.int .i64 (Pl.stK (Pl.stepsA n b)), .int .i64 (Pl.stL (Pl.stepsA n b)), .bool (Pl.stB (Pl.stepsA n b))]) ∧ Below w.heap.size w w' := by
  by_cases h : Pl.okB n b = true
  · obtain ⟨x, k, rfl, rfl, h1, h2, h3⟩ := Pl.okB_nat h
    rw [Pl.stepsA_yes x k h]
    exact implPalStepsYes x k h1 h2 h3 w
  · rw [Pl.stepsA_no h]
    have h' : Pl.okB n b = false := by simpa using h
    clear h
    go_enter Try.func35, Try.ntmps35
    go_wp2_with (go_at_call 39; refine (hasDigits _ _ _).mono ?_; rintro e w' ⟨rfl, rfl⟩; rw [h'])
    go_loopw [7, 8, 9] (fun sv mv tv wr => sv = .int .i64 0 ∧ mv = .int .i64 n ∧ tv = .bool false ∧ wr = w) (fun _ _ _ _ => 0)
    case atStart => exact ⟨rfl, rfl, rfl, rfl⟩
    case round =>
      obtain ⟨rfl, rfl, rfl, rfl⟩ := hrel
      go_wp2
      go_ret3
      exact ⟨rfl, Below.refl _ _⟩

set_option maxHeartbeats 1000000 in
theorem specPalStepsYes (x b : Nat) (hb : 2 ≤ b) (hb' : b ≤ 16) (hx : x ≤ 1000000000) (w : World) :
    Calls Try.prog 36 #[.int .i64 x, .int .i64 b] w fun e w' => e = .returned (.tuple #[.int .i64 (Pl.stK (Pl.stepsO b x)), .int .i64 (Pl.stL (Pl.stepsO b x)), .bool (Pl.stB (Pl.stepsO b x))]) ∧ w = w' := by
  have hin : (decide (0 ≤ (x : Int)) && decide ((x : Int) ≤ 1000000000)) = true := by simp; omega
  have hB : Pl.baseB b = true := by rw [Pl.baseB_iff]; omega
  have HS := Lib.hid (Pl.stepAt_start b x)
  go_enter Try.func36, Try.ntmps36
  go_wp2_with (first | (go_at_call 43; refine (specIn _ _ _ _).mono ?_; rintro e w' ⟨rfl, rfl⟩; rw [hin]) | (go_at_call 44; refine (specBaseOk _ _).mono ?_; rintro e w' ⟨rfl, rfl⟩; rw [hB]))
  go_loop [0, 7, 8, 9] (fun mv sv _ _ => ∃ (s m : Nat), sv = .int .i64 s ∧ mv = .int .i64 m ∧ m ≤ 1000000000 ∧ s ≤ m ∧ Pl.StepAt b x s m) (fun mv _ _ _ => 1000000001 - (intOf mv).toNat)
  case atStart => exact ⟨0, x, rfl, rfl, hx, by omega, HS.out⟩
  case round =>
    clear hin hB HS
    obtain ⟨s, m, rfl, rfl, hm, hsm, hAt⟩ := hrel
    have hokm : Pl.okB m b = true := by rw [Pl.okB_iff]; omega
    have HA := Lib.hid hAt
    clear hAt
    by_cases hp : Pl.turnN b m = m
    · have hpal : Pl.palB m b = true := by rw [Pl.palB_yes m b hokm]; simp [hp]
      have HE := Lib.hid (Pl.stepAt_pal HA.out hp)
      clear hp hokm
      go_wp2_with (go_at_call 22; refine (specPalindromeOk _ _ _).mono ?_; rintro e w1 ⟨rfl, rfl⟩; rw [hpal])
      go_ret3
      exact ⟨ret_steps (by rw [HE.out]; rfl) (by rw [HE.out]; rfl) (by rw [HE.out]; rfl), rfl⟩
    · have hpal : Pl.palB m b = false := by rw [Pl.palB_yes m b hokm]; simp [hp]
      by_cases hs : m + Pl.turnN b m ≤ 1000000000
      · obtain ⟨e1, e2⟩ := Pl.added_yes hokm hs
        have HN := Lib.hid (Pl.stepAt_more hb HA.out hp hs)
        have hg := Pl.grows hb hp
        have hmn : m + 1 ≤ m + Pl.turnN b m := by omega
        have e3 := Lib.hid e1
        clear hp hokm e1 hg
        generalize m + Pl.turnN b m = m' at *
        go_wp2_with (first | (go_at_call 22; refine (specPalindromeOk _ _ _).mono ?_; rintro e w1 ⟨rfl, rfl⟩; rw [hpal]) | (go_at_call 32; refine (specAddedTurned _ _ _).mono ?_; rintro e w2 ⟨rfl, rfl⟩; rw [e3.out, e2]))
        go_round
        case rel => exact ⟨s + 1, m', by go_num, rfl, hs, by omega, HN.out⟩
        case measure => simp [intOf]; omega
      · obtain ⟨e1, e2⟩ := Pl.added_no hokm hs
        have HN := Lib.hid (Pl.stepAt_big HA.out hp hs)
        clear hp hokm hs
        go_wp2_with (first | (go_at_call 22; refine (specPalindromeOk _ _ _).mono ?_; rintro e w1 ⟨rfl, rfl⟩; rw [hpal]) | (go_at_call 32; refine (specAddedTurned _ _ _).mono ?_; rintro e w2 ⟨rfl, rfl⟩; rw [e1, e2]))
        go_ret3
        exact ⟨ret_steps (by rw [HN.out]; rfl) (by rw [HN.out]; rfl) (by rw [HN.out]; rfl), rfl⟩

set_option maxHeartbeats 400000 in
theorem specPalSteps (n b : Int) (w : World) :
    Calls Try.prog 36 #[.int .i64 n, .int .i64 b] w fun e w' => e = .returned (.tuple #[.int .i64 (Pl.stK (Pl.stepsA n b)), .int .i64 (Pl.stL (Pl.stepsA n b)), .bool (Pl.stB (Pl.stepsA n b))]) ∧ w = w' := by
  by_cases hn : (decide (0 ≤ n) && decide (n ≤ 1000000000)) = true
  · by_cases hB : Pl.baseB b = true
    · have h : Pl.okB n b = true := by rw [okB_halves, hn, hB]; rfl
      obtain ⟨x, k, rfl, rfl, h1, h2, h3⟩ := Pl.okB_nat h
      rw [Pl.stepsA_yes x k h]
      exact specPalStepsYes x k h1 h2 h3 w
    · have h : ¬ Pl.okB n b = true := by rw [okB_halves, hn]; simpa using hB
      have hB' : Pl.baseB b = false := by simpa using hB
      rw [Pl.stepsA_no h]
      clear h hB
      go_enter Try.func36, Try.ntmps36
      go_wp2_with (first | (go_at_call 43; refine (specIn _ _ _ _).mono ?_; rintro e w' ⟨rfl, rfl⟩; rw [hn]) | (go_at_call 44; refine (specBaseOk _ _).mono ?_; rintro e w' ⟨rfl, rfl⟩; rw [hB']))
      go_ret3
      exact ⟨rfl, rfl⟩
  · have h : ¬ Pl.okB n b = true := by rw [okB_halves]; simp [hn]
    have hn' : (decide (0 ≤ n) && decide (n ≤ 1000000000)) = false := by simpa using hn
    rw [Pl.stepsA_no h]
    clear h hn
    go_enter Try.func36, Try.ntmps36
    go_wp2_with (first | (go_at_call 43; refine (specIn _ _ _ _).mono ?_; rintro e w' ⟨rfl, rfl⟩; rw [hn']))
    go_ret3
    exact ⟨rfl, rfl⟩

set_option maxHeartbeats 400000 in
theorem FnExactStepsToPalindrome_walk (a0 : Int) (a1 : Int) (w : World) (_w0 : (Lit.int .i64 a0).wf = true) (_w1 : (Lit.int .i64 a1).wf = true) :
    Calls Try.prog 14 #[.int .i64 a0, .int .i64 a1] w fun e w' => e = .returned (.bool true) ∧ Below w.heap.size w w' := by
  have HS := Lib.hid (specPalSteps a0 a1)
  have HI := Lib.hid (implPalSteps a0 a1)
  generalize Pl.stK (Pl.stepsA a0 a1) = A at *
  generalize Pl.stL (Pl.stepsA a0 a1) = B at *
  generalize Pl.stB (Pl.stepsA a0 a1) = C at *
  go_enter Try.func14, Try.ntmps14
  go_wp2_with (first | (go_at_call 36; refine (HS.out _).mono ?_; rintro e w' ⟨rfl, rfl⟩) | (go_at_call 35; refine (HI.out _).mono ?_; rintro e w1 ⟨rfl, hb⟩))
  all_goals
    go_ret
    exact ⟨rfl, hb⟩

end Go.Proofs.Ytaocefdannjlhaa
