/-
  More drawing functions: two numbers and a base; a row of digits and a base.
-/
import Derived.Test.YtalcmadoledfnaaDraws
import Derived.Test.YtalcmadoledfnaaDigits
namespace Go.Proofs.Ytalcmadoledfnaa
open Go.RowKit Go.Shelf

/-- What the drawing functions of the reader alone give. -/
def tab2 (f : Nat) (ss : List Sp) : Option Sp :=
  match tab1 f ss with
  | some s => some s
  | none => match ss with
    | [.ptr] => if f = 49 then some (.int (-2000000000) 2000000000) else if f = 47 then some (.int (-20) 40) else none
    | _ => none

theorem table2 (w0 : World) (r : Nat) : Table w0 r 50 50000 tab2 := by
  intro f ss s h
  unfold tab2 at h
  split at h
  · rename_i s' h1
    cases h
    obtain ⟨e1, e2⟩ := table1 w0 r f ss s h1
    refine ⟨e1, fun vs W q hk hR hq => (e2 vs W q hk hR (by omega)).mono ?_⟩
    rintro e W' ⟨v, rfl, hv, hR', hO⟩
    exact ⟨v, rfl, hv, hR'.le (by omega), hO⟩
  · split at h
    · split at h
      · rename_i hf
        subst hf
        cases h
        refine ⟨enters_of Try.func49 (by kernel_rfl) rfl, fun vs W q hk hR hq => ?_⟩
        obtain ⟨v1, rfl, rfl⟩ := oks_one hk
        refine (l20Whole w0 r q W hR hq).mono ?_
        rintro e W' ⟨x, rfl, x1, x2, hR', hO⟩
        exact ⟨_, rfl, ⟨x, rfl, x1, x2⟩, hR', hO⟩
      · split at h
        · rename_i hf
          subst hf
          cases h
          refine ⟨enters_of Try.func47 (by kernel_rfl) rfl, fun vs W q hk hR hq => ?_⟩
          obtain ⟨v1, rfl, rfl⟩ := oks_one hk
          refine (l20Base w0 r q W hR hq).mono ?_
          rintro e W' ⟨x, rfl, x1, x2, hR', hO⟩
          exact ⟨_, rfl, ⟨x, rfl, x1, x2⟩, hR', hO⟩
        · cases h
    · cases h

/-- Two numbers and a base. -/
def ThreePost (w : World) (e : Ending) (w' : World) : Prop :=
  ∃ x y z : Int, e = .returned (.tuple #[.int .i64 x, .int .i64 y, .int .i64 z]) ∧ (-2000000000 ≤ x ∧ x ≤ 2000000000) ∧ (-2000000000 ≤ y ∧ y ≤ 2000000000) ∧ (-20 ≤ z ∧ z ≤ 40) ∧ Below w.heap.size w w'

set_option maxRecDepth 100000 in
set_option maxHeartbeats 1000000 in
theorem drawBehindOf (a : Option Addr) (len cap : Nat) (z : List Int) (w : World) (h : IsRow .u8 w a len cap z) :
    Calls Try.prog 29 #[.slice a len cap] w (ThreePost w) := by
  go_enter Try.func29, Try.ntmps29
  go_wp2_with (go_at_call 39; refine (l20Open _ _ _ _ _ h).mono ?_; rintro e w1 ⟨r, rfl, hr⟩)
  refine wp_region_reckon (q0 := 0) (table2 w r) [(5, .ptr)] mixed (by kernel_rfl) ?_ hr (by simp) ?_
  · intro t s h
    rw [look_one] at h
    obtain ⟨rfl, rfl⟩ := h
    rfl
  · intro f W hin hold hR' hO
    obtain ⟨x, hx, x1, x2⟩ := hin 2 (.int (-2000000000) 2000000000) (by kernel_rfl)
    obtain ⟨y, hy, y1, y2⟩ := hin 3 (.int 0 9711) (by kernel_rfl)
    obtain ⟨z, hz, z1, z2⟩ := hin 4 (.int (-20) 40) (by kernel_rfl)
    simp only [List.size_toArray, List.length_cons, List.length_nil, Nat.reduceAdd, List.range, List.range.loop, List.map_cons, List.map_nil]
    rw [hx, hy, hz]
    go_wp2
    go_ret3
    exact ⟨x, y, z, rfl, ⟨x1, x2⟩, by omega, ⟨z1, z2⟩, hR'.below⟩

end Go.Proofs.Ytalcmadoledfnaa
