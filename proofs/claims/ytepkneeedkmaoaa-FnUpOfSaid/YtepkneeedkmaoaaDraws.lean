/-
  The drawing functions of the model: each gives bounded integers and writes nothing but its reader.
-/
import Derived.Test.YtepkneeedkmaoaaRegion
import Derived.Shelf.Abstract
namespace Go.Proofs.Ytepkneeedkmaoaa
open Go.RowKit Go.Shelf

/-- What pick gives. -/
def tab1 (f : Nat) : List Sp → Option Sp
  | [.ptr, .int n m] => if f = 56 ∧ 1 ≤ n then some (.int 0 (m - 1)) else none
  | _ => none

theorem oks_two {r : Nat} {W : World} {s1 s2 : Sp} {vs : List Value} (h : Oks r W [s1, s2] vs) : ∃ v1 v2, vs = [v1, v2] ∧ s1.ok r v1 W ∧ s2.ok r v2 W := by
  match vs, h with
  | [v1, v2], h => exact ⟨v1, v2, rfl, h.1, h.2.1⟩
theorem oks_one {r : Nat} {W : World} {s1 : Sp} {vs : List Value} (h : Oks r W [s1] vs) : ∃ v1, vs = [v1] ∧ s1.ok r v1 W := by
  match vs, h with
  | [v1], h => exact ⟨v1, rfl, h.1⟩

theorem table1 (w0 : World) (r : Nat) : Table w0 r 1 90000 tab1 := by
  intro f ss s h
  unfold tab1 at h
  split at h
  · rename_i n m
    split at h
    · rename_i hc
      obtain ⟨rfl, hn⟩ := hc
      cases h
      refine ⟨enters_of Try.func56 (by kernel_rfl) rfl, fun vs W q hk hR hq => ?_⟩
      obtain ⟨v1, v2, rfl, rfl, x, rfl, x1, x2⟩ := oks_two hk
      refine (pick w0 r q x W (by omega) hR).mono ?_
      rintro e W' ⟨y, rfl, y1, y2, hR', hO⟩
      have := y2 (by omega)
      exact ⟨_, rfl, ⟨y, rfl, y1, by omega⟩, hR', hO⟩
    · cases h
  · cases h

theorem look_one {d t : Nat} {s s' : Sp} : List.lookup t [(d, s)] = some s' ↔ t = d ∧ s' = s := by
  simp only [List.lookup]
  by_cases h : t = d
  · subst h; simp [eq_comm]
  · simp [beq_eq_false_iff_ne.2 h, h]

/-- A drawing function of the reader alone. -/
def DrawPost (w0 : World) (r q : Nat) (lo hi : Int) (w : World) (e : Ending) (w' : World) : Prop :=
  ∃ x : Int, e = .returned (.int .i64 x) ∧ lo ≤ x ∧ x ≤ hi ∧ Rd w0 r q w' ∧ Only r w w'

theorem mixed : Try.prog.follows .mixedOrders = true := by kernel_rfl

set_option maxRecDepth 100000 in
set_option maxHeartbeats 1000000 in
theorem l20Base (w0 : World) (r q : Nat) (w : World) (hR : Rd w0 r q w) (hq : q ≤ 50000) :
    Calls Try.prog 57 #[.pointer (some ⟨r, 0, none⟩)] w (DrawPost w0 r (q + 50) (-20) 40 w) := by
  go_enter Try.func57, Try.ntmps57
  go_wp2_with fail
  refine wp_region_reckon (q0 := q) (table1 w0 r) [(0, .ptr)] mixed (by kernel_rfl) ?_ hR (by simp; omega) ?_
  · intro t s h
    rw [look_one] at h
    obtain ⟨rfl, rfl⟩ := h
    rfl
  · intro f W hin hold hR' hO
    obtain ⟨x, hx, x1, x2⟩ := hin 2 (.int (-10) 26) (by kernel_rfl)
    simp only [List.size_toArray, List.length_cons, List.length_nil, Nat.reduceAdd, List.range, List.range.loop, List.map_cons, List.map_nil]
    go_wp2
    go_ret
    exact ⟨x, congrArg Ending.returned hx, by omega, by omega, hR'.le (by simp), hO⟩

/-- Two bounded integers. -/
def TwoPost (w0 : World) (r q : Nat) (w : World) (e : Ending) (w' : World) : Prop :=
  ∃ x y : Int, e = .returned (.tuple #[.int .i64 x, .int .i64 y]) ∧ (-2000000000 ≤ x ∧ x ≤ 2000000000) ∧ (-20 ≤ y ∧ y ≤ 40) ∧ Rd w0 r q w' ∧ Only r w w'

/-- What a drawing of a number and a base gives. -/
def BothPost (w : World) (e : Ending) (w' : World) : Prop :=
  ∃ x y : Int, e = .returned (.tuple #[.int .i64 x, .int .i64 y]) ∧ (-2000000000 ≤ x ∧ x ≤ 2000000000) ∧ (-20 ≤ y ∧ y ≤ 40) ∧ Below w.heap.size w w'

end Go.Proofs.Ytepkneeedkmaoaa
