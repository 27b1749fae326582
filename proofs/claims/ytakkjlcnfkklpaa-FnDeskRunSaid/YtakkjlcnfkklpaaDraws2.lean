/-
  More drawing functions: two numbers and a base; a row of digits and a base.
-/
import Derived.Test.YtakkjlcnfkklpaaDraws
import Derived.Test.YtakkjlcnfkklpaaDigitsOf
namespace Go.Proofs.Ytakkjlcnfkklpaa
open Go.RowKit Go.Shelf

/-- What the drawing functions of the reader alone give. -/
def tab2 (f : Nat) (ss : List Sp) : Option Sp :=
  match tab1 f ss with
  | some s => some s
  | none => match ss with
    | [.ptr] => if f = 61 then some (.int (-2000000000) 2000000000) else if f = 62 then some (.int (-20) 40) else none
    | _ => none

theorem table2 (w0 : World) (r : Nat) : Table w0 r 50 50000 tab2 := by
  intro f ss s h
  unfold tab2 at h
  split at h
  · rename_i s' h1
    cases h
    obtain ⟨e1, e2⟩ := table1 w0 r f ss s h1
    refine ⟨e1, fun vs W q hk hR hq => (e2 vs W q hk hR (by omega)).mono ?_⟩
    rintro e W' ⟨v, rfl, hv, hR', hO⟩
    exact ⟨v, rfl, hv, hR'.le (by omega), hO⟩
  · split at h
    · split at h
      · rename_i hf
        subst hf
        cases h
        refine ⟨enters_of Try.func61 (by kernel_rfl) rfl, fun vs W q hk hR hq => ?_⟩
        obtain ⟨v1, rfl, rfl⟩ := oks_one hk
        refine (l20Whole w0 r q W hR hq).mono ?_
        rintro e W' ⟨x, rfl, x1, x2, hR', hO⟩
        exact ⟨_, rfl, ⟨x, rfl, x1, x2⟩, hR', hO⟩
      · split at h
        · rename_i hf
          subst hf
          cases h
          refine ⟨enters_of Try.func62 (by kernel_rfl) rfl, fun vs W q hk hR hq => ?_⟩
          obtain ⟨v1, rfl, rfl⟩ := oks_one hk
          refine (l20Base w0 r q W hR hq).mono ?_
          rintro e W' ⟨x, rfl, x1, x2, hR', hO⟩
          exact ⟨_, rfl, ⟨x, rfl, x1, x2⟩, hR', hO⟩
        · cases h
    · cases h

/-- Two numbers and a base. -/
def ThreePost (w : World) (e : Ending) (w' : World) : Prop :=
  ∃ x y z : Int, e = .returned (.tuple #[.int .i64 x, .int .i64 y, .int .i64 z]) ∧ (-2000000000 ≤ x ∧ x ≤ 2000000000) ∧ (-2000000000 ≤ y ∧ y ≤ 2000000000) ∧ (-20 ≤ z ∧ z ≤ 40) ∧ Below w.heap.size w w'

end Go.Proofs.Ytakkjlcnfkklpaa
