/-
  The drawing functions of chapter 8.
-/
import Derived.Test.YtnogcoijlnnbdaaDraws
import Derived.Test.YtnogcoijlnnbdaaMathPeriod2
namespace Go.Proofs.Ytnogcoijlnnbdaa
open Go.RowKit Go.Shelf

/-- What the reader and the drawing of a base give. -/
def tabB (f : Nat) (ss : List Sp) : Option Sp :=
  match tab1 f ss with
  | some s => some s
  | none => match ss with
    | [.ptr] => if f = 51 then some (.int (-20) 40) else none
    | _ => none

theorem tableB (w0 : World) (r : Nat) : Table w0 r 50 50000 tabB := by
  intro f ss s h
  unfold tabB at h
  split at h
  · rename_i s' h1
    cases h
    obtain ⟨e1, e2⟩ := table1 w0 r f ss s h1
    refine ⟨e1, fun vs W q hk hR hq => (e2 vs W q hk hR (by omega)).mono ?_⟩
    rintro e W' ⟨v, rfl, hv, hR', hO⟩
    exact ⟨v, rfl, hv, hR'.le (by omega), hO⟩
  · split at h
    · split at h
      · rename_i hf
        subst hf
        cases h
        refine ⟨enters_of Try.func51 (by kernel_rfl) rfl, fun vs W q hk hR hq => ?_⟩
        obtain ⟨v1, rfl, rfl⟩ := oks_one hk
        refine (l20Base w0 r q W hR hq).mono ?_
        rintro e W' ⟨x, rfl, x1, x2, hR', hO⟩
        exact ⟨_, rfl, ⟨x, rfl, x1, x2⟩, hR', hO⟩
      · cases h
    · cases h

/-- A number below the line and a base, out of the reader. -/
def UnderPost (w0 : World) (r q : Nat) (e : Ending) (w' : World) : Prop :=
  ∃ x y : Int, e = .returned (.tuple #[.int .i64 x, .int .i64 y]) ∧ (0 ≤ x ∧ x ≤ 400) ∧ (-20 ≤ y ∧ y ≤ 40) ∧ Rd w0 r q w'

set_option maxRecDepth 100000 in
set_option maxHeartbeats 1000000 in
theorem l20Under (w0 : World) (r q : Nat) (w : World) (hR : Rd w0 r q w) (hq : q ≤ 40000) :
    Calls Try.prog 40 #[.pointer (some ⟨r, 0, none⟩)] w (UnderPost w0 r (q + 2000)) := by
  go_enter Try.func40, Try.ntmps40
  go_wp2_with fail
  refine wp_region_reckon (q0 := q) (tableB w0 r) [(0, .ptr)] mixed (by kernel_rfl) ?_ hR (by simp; omega) ?_
  · intro t s h
    rw [look_one] at h
    obtain ⟨rfl, rfl⟩ := h
    rfl
  · intro f W hin hold hR' hO
    obtain ⟨x, hx, x1, x2⟩ := hin 2 (.int 0 400) (by kernel_rfl)
    obtain ⟨y, hy, y1, y2⟩ := hin 3 (.int (-20) 40) (by kernel_rfl)
    simp only [List.size_toArray, List.length_cons, List.length_nil, Nat.reduceAdd, List.range, List.range.loop, List.map_cons, List.map_nil]
    rw [hx, hy]
    go_wp2
    go_ret2
    exact ⟨x, y, rfl, ⟨x1, x2⟩, by omega, hR'.le (by simp)⟩

/-- A number above and one below the line, and a base, out of the reader. -/
def OverPost (w0 : World) (r q : Nat) (e : Ending) (w' : World) : Prop :=
  ∃ n x y : Int, e = .returned (.tuple #[.int .i64 n, .int .i64 x, .int .i64 y]) ∧ (-300 ≤ n ∧ n ≤ 800) ∧ (0 ≤ x ∧ x ≤ 400) ∧ (-20 ≤ y ∧ y ≤ 40) ∧ Rd w0 r q w'

set_option maxHeartbeats 1000000 in
theorem l20Over (w0 : World) (r q : Nat) (w : World) (hR : Rd w0 r q w) (hq : q ≤ 30000) :
    Calls Try.prog 47 #[.pointer (some ⟨r, 0, none⟩)] w (OverPost w0 r (q + 2010)) := by
  go_enter Try.func47, Try.ntmps47
  go_wp2_with fail
  refine (l20Under w0 r q w hR (by omega)).mono ?_
  rintro e w1 ⟨x, y, rfl, ⟨x1, x2⟩, hy, hR1⟩
  go_wp2_with fail
  all_goals
    refine (pick w0 r _ _ w1 (by omega) hR1).mono ?_
    rintro e w2 ⟨u, rfl, u0, u1, hR2, _⟩
    have u2 := u1 (by omega)
    clear u1
    go_wp2_with fail
    refine (pick w0 r _ 30 w2 (by omega) hR2).mono ?_
    rintro e w3 ⟨v, rfl, v0, v1, hR3, _⟩
    have v2 := v1 (by omega)
    clear v1
    have v3 : v / 29 = 0 ∨ v / 29 = 1 := by omega
    obtain ⟨C, hC⟩ : ∃ C, v / 29 * x = C := ⟨_, rfl⟩
    have hC1 : 0 ≤ C ∧ C ≤ 400 := by
      rcases v3 with h | h
      · rw [h] at hC; omega
      · rw [h] at hC; omega
    have hCw : IntKind.i64.wrap (v / 29 * x) = C := by rw [hC]; exact IntWalk.i64_in _ (by omega)
    clear hC
    go_wp2_with fail
    refine (pick w0 r _ 40 w3 (by omega) hR3).mono ?_
    rintro e w4 ⟨s, rfl, s0, s1, hR4, _⟩
    have s2 := s1 (by omega)
    clear s1
    have s3 : 0 ≤ s / 39 ∧ s / 39 ≤ 1 := by omega
    go_wp2
    go_ret3
    exact ⟨_, x, y, rfl, by constructor <;> omega, by omega, hy, hR4.le (by omega)⟩

/-- A number below the line and a base. -/
def UnderDraw (w : World) (e : Ending) (w' : World) : Prop :=
  ∃ x y : Int, e = .returned (.tuple #[.int .i64 x, .int .i64 y]) ∧ (0 ≤ x ∧ x ≤ 400) ∧ (-20 ≤ y ∧ y ≤ 40) ∧ Below w.heap.size w w'
/-- A number above and one below the line, and a base. -/
def OverDraw (w : World) (e : Ending) (w' : World) : Prop :=
  ∃ n x y : Int, e = .returned (.tuple #[.int .i64 n, .int .i64 x, .int .i64 y]) ∧ (-300 ≤ n ∧ n ≤ 800) ∧ (0 ≤ x ∧ x ≤ 400) ∧ (-20 ≤ y ∧ y ≤ 40) ∧ Below w.heap.size w w'

set_option maxHeartbeats 400000 in
theorem drawUnderOk (a : Option Addr) (len cap : Nat) (z : List Int) (w : World) (h : IsRow .u8 w a len cap z) :
    Calls Try.prog 15 #[.slice a len cap] w (UnderDraw w) := by
  go_enter Try.func15, Try.ntmps15
  go_wp2_with (go_at_call 41; refine (l20Open _ _ _ _ _ h).mono ?_; rintro e w1 ⟨r, rfl, hr⟩)
  refine (l20Under w r 0 w1 hr (by omega)).mono ?_
  rintro e w2 ⟨x, y, rfl, hx, hy, hr2⟩
  go_wp2
  go_ret2
  exact ⟨x, y, rfl, hx, hy, hr2.below⟩

set_option maxHeartbeats 400000 in
theorem drawPeriodOf (a : Option Addr) (len cap : Nat) (z : List Int) (w : World) (h : IsRow .u8 w a len cap z) :
    Calls Try.prog 20 #[.slice a len cap] w (UnderDraw w) := by
  go_enter Try.func20, Try.ntmps20
  go_wp2_with (go_at_call 41; refine (l20Open _ _ _ _ _ h).mono ?_; rintro e w1 ⟨r, rfl, hr⟩)
  refine (l20Under w r 0 w1 hr (by omega)).mono ?_
  rintro e w2 ⟨x, y, rfl, hx, hy, hr2⟩
  go_wp2
  go_ret2
  exact ⟨x, y, rfl, hx, hy, hr2.below⟩

set_option maxHeartbeats 400000 in
theorem drawHalvesOk (a : Option Addr) (len cap : Nat) (z : List Int) (w : World) (h : IsRow .u8 w a len cap z) :
    Calls Try.prog 28 #[.slice a len cap] w (UnderDraw w) := by
  go_enter Try.func28, Try.ntmps28
  go_wp2_with (go_at_call 41; refine (l20Open _ _ _ _ _ h).mono ?_; rintro e w1 ⟨r, rfl, hr⟩)
  refine (l20Under w r 0 w1 hr (by omega)).mono ?_
  rintro e w2 ⟨x, y, rfl, hx, hy, hr2⟩
  go_wp2
  go_ret2
  exact ⟨x, y, rfl, hx, hy, hr2.below⟩

set_option maxHeartbeats 400000 in
theorem drawFullOk (a : Option Addr) (len cap : Nat) (z : List Int) (w : World) (h : IsRow .u8 w a len cap z) :
    Calls Try.prog 31 #[.slice a len cap] w (UnderDraw w) := by
  go_enter Try.func31, Try.ntmps31
  go_wp2_with (go_at_call 41; refine (l20Open _ _ _ _ _ h).mono ?_; rintro e w1 ⟨r, rfl, hr⟩)
  refine (l20Under w r 0 w1 hr (by omega)).mono ?_
  rintro e w2 ⟨x, y, rfl, hx, hy, hr2⟩
  go_wp2
  go_ret2
  exact ⟨x, y, rfl, hx, hy, hr2.below⟩

set_option maxHeartbeats 400000 in
theorem drawRoundOf (a : Option Addr) (len cap : Nat) (z : List Int) (w : World) (h : IsRow .u8 w a len cap z) :
    Calls Try.prog 23 #[.slice a len cap] w (OverDraw w) := by
  go_enter Try.func23, Try.ntmps23
  go_wp2_with (go_at_call 41; refine (l20Open _ _ _ _ _ h).mono ?_; rintro e w1 ⟨r, rfl, hr⟩)
  refine (l20Over w r 0 w1 hr (by omega)).mono ?_
  rintro e w2 ⟨n, x, y, rfl, hn, hx, hy, hr2⟩
  go_wp2
  go_ret3
  exact ⟨n, x, y, rfl, hn, hx, hy, hr2.below⟩

set_option maxHeartbeats 400000 in
theorem drawBegunAt (a : Option Addr) (len cap : Nat) (z : List Int) (w : World) (h : IsRow .u8 w a len cap z) :
    Calls Try.prog 35 #[.slice a len cap] w (OverDraw w) := by
  go_enter Try.func35, Try.ntmps35
  go_wp2_with (go_at_call 41; refine (l20Open _ _ _ _ _ h).mono ?_; rintro e w1 ⟨r, rfl, hr⟩)
  refine (l20Over w r 0 w1 hr (by omega)).mono ?_
  rintro e w2 ⟨n, x, y, rfl, hn, hx, hy, hr2⟩
  go_wp2
  go_ret3
  exact ⟨n, x, y, rfl, hn, hx, hy, hr2.below⟩

end Go.Proofs.Ytnogcoijlnnbdaa
