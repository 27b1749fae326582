/-
  Plain facts: lines of text, one after the other.
-/
import Derived.Test.YtgkkoegfmhgcjaaGreatDoorMathLine
namespace Go.Proofs.YtgkkoegfmhgcjaaGreatDoor
namespace Pl

/-- A desk after lines, one after the other, and the answers. -/
def sayD (d : Dk) : List (List UInt8) → Dk × List (List UInt8)
  | [] => (d, [])
  | l :: ls => ((sayD (lineA d l).1 ls).1, (lineA d l).2 :: (sayD (lineA d l).1 ls).2)
/-- .. as the functions answer: at most 40 lines. -/
def sayA (d : Dk) (ls : List (List UInt8)) : Dk × List (List UInt8) := if dkB d = true ∧ ls.length ≤ 40 then sayD d ls else (dk0, [])
theorem sayA_yes {d : Dk} {ls : List (List UInt8)} (h : dkB d = true) (h2 : ls.length ≤ 40) : sayA d ls = sayD d ls := by rw [sayA, if_pos ⟨h, h2⟩]
theorem sayA_no {d : Dk} {ls : List (List UInt8)} (h : ¬ (dkB d = true ∧ ls.length ≤ 40)) : sayA d ls = (dk0, []) := by rw [sayA, if_neg h]
theorem sayD_app (d : Dk) (xs ys : List (List UInt8)) : sayD d (xs ++ ys) = ((sayD (sayD d xs).1 ys).1, (sayD d xs).2 ++ (sayD (sayD d xs).1 ys).2) := by
  induction xs generalizing d with
  | nil => rfl
  | cons x xs ih => rw [List.cons_append, sayD, ih, sayD]; rfl
theorem sayD_snoc (d : Dk) (xs : List (List UInt8)) (l : List UInt8) : sayD d (xs ++ [l]) = ((lineA (sayD d xs).1 l).1, (sayD d xs).2 ++ [(lineA (sayD d xs).1 l).2]) := by
  rw [sayD_app]; rfl
theorem sayD_len (d : Dk) (xs : List (List UInt8)) : (sayD d xs).2.length = xs.length := by
  induction xs generalizing d with
  | nil => rfl
  | cons x xs ih => rw [sayD]; simp [ih]
theorem lineA_dk {d : Dk} (h : dkB d = true) (line : List UInt8) : dkB (lineA d line).1 = true := by
  cases hr : readL line with
  | some a => rw [lineA_deed h hr]; exact (doA_desk h).1
  | none => rw [lineA_ask h hr]; exact h
theorem lineA_base {d : Dk} (h : dkB d = true) (line : List UInt8) : (lineA d line).1.b = d.b := by
  cases hr : readL line with
  | some a => rw [lineA_deed h hr]; exact (doA_desk h).2
  | none => rw [lineA_ask h hr]
theorem sayD_dk {d : Dk} (h : dkB d = true) (xs : List (List UInt8)) : dkB (sayD d xs).1 = true := by
  induction xs generalizing d with
  | nil => exact h
  | cons x xs ih => rw [sayD]; exact ih (lineA_dk h x)
theorem dk_few {d : Dk} (h : dkB d = true) : d.past.length ≤ 8 := ((dkB_iff _).1 h).2.2
theorem lineA_few2 (d : Dk) (line : List UInt8) : (lineA d line).1.past.length ≤ 8 := by
  by_cases h : dkB d = true
  · exact dk_few (lineA_dk h line)
  · rw [lineA_no h]; exact Nat.zero_le _
theorem sayA_few (d : Dk) (xs : List (List UInt8)) : (sayA d xs).1.past.length ≤ 8 ∧ (sayA d xs).2.length ≤ 40 := by
  by_cases h : dkB d = true ∧ xs.length ≤ 40
  · rw [sayA_yes h.1 h.2]
    exact ⟨dk_few (sayD_dk h.1 xs), by rw [sayD_len]; exact h.2⟩
  · rw [sayA_no h]; exact ⟨Nat.zero_le _, Nat.zero_le _⟩

/-- No answer is empty. -/
theorem saidL_ne (b : Bool) : saidL b ≠ [] := by cases b <;> decide
theorem ansL_ne {d : Dk} (h : okB d.n d.b = true) (line : List UInt8) : ansL d line ≠ [] := by
  have hrow : ∀ xs, rowT xs ≠ [] := fun xs => by
    unfold rowT; split
    · decide
    · rename_i hx; exact comma_ne hx
  have hrest : restL d line ≠ [] := by
    unfold restL; split
    · unfold ask2; split
      · exact decI_ne _
      · split
        · exact hrow _
        · decide
    · decide
  unfold ansL; split
  · rename_i i _
    rcases i with _ | _ | _ | _ | _ | _ | _ | _ | _ | i <;> simp only [ask1]
    · exact decI_ne _
    · exact comma_ne (dig_few h).2
    · exact decI_ne _
    · exact comma_ne (round_few h).2
    · exact saidL_ne _
    · exact saidL_ne _
    · exact saidL_ne _
    · exact decI_ne _
    · exact decI_ne _
    · split
      · exact decI_ne _
      · decide
  · exact hrest
theorem lineA_ne {d : Dk} (h : dkB d = true) (line : List UInt8) : (lineA d line).2 ≠ [] := by
  cases hr : readL line with
  | some a =>
    rw [lineA_deed h hr]
    simp only
    split <;> decide
  | none => rw [lineA_ask h hr]; exact ansL_ne ((dkB_iff _).1 h).1 line
theorem sayD_ne {d : Dk} (h : dkB d = true) (xs : List (List UInt8)) : ∀ l ∈ (sayD d xs).2, l ≠ [] := by
  induction xs generalizing d with
  | nil => intro l hl; cases hl
  | cons x xs ih =>
    intro l hl
    rw [sayD] at hl
    rcases List.mem_cons.1 hl with rfl | hl
    · exact lineA_ne h x
    · exact ih (lineA_dk h x) l hl
/-- 'carries 0' and 'one 1'. -/
theorem line_carries {d : Dk} (h : dkB d = true) : lineA d [99, 97, 114, 114, 105, 101, 115, 32, 48] = (d, [48]) := by
  have hk := ((dkB_iff _).1 h).1
  rw [lineA_ask h (by decide), ansL_rest d (by decide), restL, if_pos (by decide), ask2, if_pos (by decide)]
  obtain ⟨x, k, hx, hb, b1, b2, x1⟩ := okB_nat hk
  have e0 : whI (cut1 32 [99, 97, 114, 114, 105, 101, 115, 32, 48]).2.1 = 0 := by decide
  have hk0 : okB ((0 : Nat) : Int) d.b = true := by rw [okB_iff] at hk ⊢; exact ⟨hk.1, by omega, by omega⟩
  rw [e0]
  have e1 : carI d.n 0 d.b = 0 := by
    rw [hx, hb] at hk
    rw [hb] at hk0
    rw [hx, hb]
    have := carI_yes (n := x) (m := 0) (b := k) hk hk0
    rw [show ((0 : Nat) : Int) = 0 from rfl] at this
    rw [this]
    have h1 := carK_sum b1 30 x 0 0 (by omega) (by omega) (by omega)
    have h2 : sumD k 0 = 0 := sumD_lt (by omega)
    have h3 : (k - 1) * carK k 30 x 0 0 = 0 := by rw [h2] at h1; simp only [Nat.add_zero] at h1; omega
    have h4 : carK k 30 x 0 0 = 0 := by
      rcases Nat.mul_eq_zero.1 h3 with h | h
      · omega
      · exact h
    unfold carN; rw [h4]; rfl
  rw [e1]
  show (d, decL 0) = _
  rw [decL_lt (by omega)]; rfl
theorem line_one {d : Dk} (h : dkB d = true) : lineA d [111, 110, 101, 32, 49] = (d, noneW) := by
  rw [lineA_ask h (by decide), ansL_rest d (by decide), restL, if_pos (by decide), ask2, if_neg (by decide), if_pos (by decide)]
  have e0 : whI (cut1 32 [111, 110, 101, 32, 49]).2.1 = 1 := by decide
  rw [e0, roundP_no (by
    intro hh
    simp only [overB, Bool.and_eq_true, decide_eq_true_eq] at hh
    omega)]
  rfl
end Pl
end Go.Proofs.YtgkkoegfmhgcjaaGreatDoor
