/-
  impl.CouldBe (with restsAlike, a closure), spec.CouldBe: whether a number could be a product; the exact law.
-/
import Derived.Test.YtggeemkjgpjahaaRoot
import Derived.Test.YtggeemkjgpjahaaCalm
import Derived.Test.YtggeemkjgpjahaaDraws
namespace Go.Proofs.Ytggeemkjgpjahaa
open Go.RowKit Go.Shelf

namespace Pl
def couldB (p n m b : Int) : Bool := okB p b && okB n b && okB m b && decide (rootI p b = rootI (rootI n b * rootI m b) b)
theorem rootI_bound (n b : Int) : -1 ≤ rootI n b ∧ rootI n b ≤ 16 := by
  by_cases h : okB n b = true
  · obtain ⟨x, k, rfl, rfl, h1, h2, h3⟩ := okB_nat h
    rw [rootI_yes x k h]
    have := rootN_digit h1 x
    omega
  · rw [rootI_no h]; omega
theorem rootI_neg (n b : Int) : rootI n b < 0 ↔ ¬ okB n b = true := by
  by_cases h : okB n b = true
  · obtain ⟨x, k, rfl, rfl, h1, h2, h3⟩ := okB_nat h
    rw [rootI_yes x k h]
    simp only [h, not_true, iff_false]; omega
  · rw [rootI_no h]; simp [h]
theorem rootI_mul (n m b : Int) (hn : okB n b = true) (hm : okB m b = true) : okB (rootI n b * rootI m b) b = true := by
  obtain ⟨x, k, rfl, rfl, h1, h2, h3⟩ := okB_nat hn
  obtain ⟨y, k', rfl, hk, h4, h5, h6⟩ := okB_nat hm
  rw [rootI_yes x k hn, rootI_yes y k hm, okB_iff]
  have d1 := rootN_digit h1 x
  have d2 := rootN_digit h1 y
  have := Nat.mul_le_mul (show rootN k x ≤ 16 by omega) (show rootN k y ≤ 16 by omega)
  have e : (rootN k x : Int) * (rootN k y : Int) = ((rootN k x * rootN k y : Nat) : Int) := rfl
  omega
end Pl

set_option maxHeartbeats 400000 in
/-- The closure that compares: its base lies in a box. -/
theorem sameRest (n m b : Int) (B : Nat) (w : World) (hB : B < w.heap.size) (hc : w.cell? ⟨B, 0, none⟩ = some (.int .i64 b)) :
    Calls Try.prog 43 #[.int .i64 n, .int .i64 m, .pointer (some ⟨B, 0, none⟩)] w fun e w' => e = .returned (.bool (decide (Pl.rootI n b = Pl.rootI m b))) ∧ Below w.heap.size w w' := by
  go_enter Try.func43, Try.ntmps43
  go_wp2_with fail
  refine wp_region_calm mixed (by kernel_rfl) ?_
  repeat (first
    | go_big_quiet_skip
    | (go_big_quiet_want
       first
         | (go_big_quiet_op; go_big_quiet_on)
         | (apply Exists.intro
            refine ⟨fun W hW => ?_, ?_⟩
            · have hcW := Below.cell hW hB hc
              go_simp
              first | done | exact rfl
            simp only [Act.put, List.setIfInBounds_toArray, List.set_cons_zero, List.set_cons_succ]
            go_big_quiet_on)
         | (go_big_quiet_op
            apply Exists.intro
            refine ⟨fun W hW => Calm.call hW (implRootOf _ _ _), ?_⟩
            go_big_quiet_on)))
  refine wpQuiet_nil ?_
  intro W hW
  go_wp2
  go_ret
  exact ⟨rfl, hW⟩

theorem restsAlike (b : Int) (w : World) :
    Calls Try.prog 39 #[.int .i64 b] w fun e w' => e = .returned (.func (.func 43) #[] #[.pointer (some ⟨w.heap.size, 0, none⟩)]) ∧ w' = w.alloc (.cells #[.int .i64 b] 3) := by
  go_enter Try.func39, Try.ntmps39
  go_wp2
  go_ret
  exact ⟨rfl, rfl⟩

set_option maxHeartbeats 1000000 in
theorem implCouldBe (p n m b : Int) (w : World) :
    Calls Try.prog 24 #[.int .i64 p, .int .i64 n, .int .i64 m, .int .i64 b] w fun e W' => e = .returned (.bool (Pl.couldB p n m b)) ∧ Below w.heap.size w W' := by
  by_cases hp : Pl.okB p b = true
  · by_cases hn : Pl.okB n b = true
    · by_cases hm : Pl.okB m b = true
      · have hR : Hid (Pl.couldB p n m b = decide (Pl.rootI p b = Pl.rootI (Pl.rootI n b * Pl.rootI m b) b)) := Lib.hid (by simp [Pl.couldB, hp, hn, hm])
        have b1 := Pl.rootI_bound n b
        have b2 := Pl.rootI_bound m b
        have b3 : IntKind.i64.wrap (Pl.rootI n b * Pl.rootI m b) = Pl.rootI n b * Pl.rootI m b := by
          have h := Pl.rootI_mul n m b hn hm
          rw [Pl.okB_iff] at h
          exact IntWalk.i64_in _ (by omega)
        go_enter Try.func24, Try.ntmps24
        go_wp2_with (first | (go_at_call 29; refine (hasDigits _ _ _).mono ?_; rintro e w' ⟨rfl, rfl⟩) | (go_at_call 39; refine (restsAlike _ _).mono ?_; rintro e w' ⟨rfl, rfl⟩))
        have hb0 : Below w.heap.size w (w.alloc (.cells #[.int .i64 b] 3)) := (Below.refl _ w).alloc (Nat.le_refl _) _
        have hc0 : (w.alloc (.cells #[.int .i64 b] 3)).cell? ⟨w.heap.size, 0, none⟩ = some (.int .i64 b) := (cell_new_l w (.int .i64 b) 3).1
        have hz0 : w.heap.size < (w.alloc (.cells #[.int .i64 b] 3)).heap.size := by simp
        generalize (w.alloc (.cells #[.int .i64 b] 3)) = w0 at *
        refine (implRootOf _ _ _).mono ?_
        rintro e w1 ⟨rfl, hb1⟩
        have hc1 := Below.cell (p := ⟨w.heap.size, 0, none⟩) hb1 hz0 hc0
        go_wp2_with fail
        refine (implRootOf _ _ _).mono ?_
        rintro e w2 ⟨rfl, hb2⟩
        have hc2 := Below.cell (p := ⟨w.heap.size, 0, none⟩) hb2 (Nat.lt_of_lt_of_le hz0 hb1.size) hc1
        have hbb := (hb0.trans (hb1.mono (Nat.le_of_lt hz0))).trans (hb2.mono (Nat.le_trans (Nat.le_of_lt hz0) hb1.size))
        go_wp2_with fail
        refine (sameRest _ _ b w.heap.size _ (Nat.lt_of_lt_of_le hz0 (Nat.le_trans hb1.size hb2.size)) hc2).mono ?_
        rintro e w3 ⟨rfl, hb3⟩
        go_wp2
        go_ret
        exact ⟨ret_bool hR.out.symm, hbb.trans (hb3.mono hbb.size)⟩
      · have hR : Hid (Pl.couldB p n m b = false) := Lib.hid (by simp [Pl.couldB, hm])
        go_enter Try.func24, Try.ntmps24
        go_wp2_with (go_at_call 29; refine (hasDigits _ _ _).mono ?_; rintro e w' ⟨rfl, rfl⟩)
        go_ret
        exact ⟨ret_bool hR.out.symm, Below.refl _ _⟩
    · have hR : Hid (Pl.couldB p n m b = false) := Lib.hid (by simp [Pl.couldB, hn])
      go_enter Try.func24, Try.ntmps24
      go_wp2_with (go_at_call 29; refine (hasDigits _ _ _).mono ?_; rintro e w' ⟨rfl, rfl⟩)
      go_ret
      exact ⟨ret_bool hR.out.symm, Below.refl _ _⟩
  · have hR : Hid (Pl.couldB p n m b = false) := Lib.hid (by simp [Pl.couldB, hp])
    go_enter Try.func24, Try.ntmps24
    go_wp2_with (go_at_call 29; refine (hasDigits _ _ _).mono ?_; rintro e w' ⟨rfl, rfl⟩)
    go_ret
    exact ⟨ret_bool hR.out.symm, Below.refl _ _⟩

set_option maxHeartbeats 1000000 in
theorem specCouldBe (p n m b : Int) (w : World) :
    Calls Try.prog 25 #[.int .i64 p, .int .i64 n, .int .i64 m, .int .i64 b] w fun e w' => e = .returned (.bool (Pl.couldB p n m b)) ∧ w = w' := by
  have b1 := Pl.rootI_bound n b
  have b2 := Pl.rootI_bound m b
  have c1 := Pl.rootI_neg n b
  have c2 := Pl.rootI_neg m b
  by_cases hn : Pl.okB n b = true
  · by_cases hm : Pl.okB m b = true
    · have hpos : 0 ≤ Pl.rootI n b ∧ 0 ≤ Pl.rootI m b := by simp only [hn, hm, not_true, iff_false] at c1 c2; omega
      have hmul := Pl.rootI_mul n m b hn hm
      obtain ⟨y, k, hy, rfl, h1, h2, h3⟩ := Pl.okB_nat hmul
      have hR : Hid (Pl.couldB p n m k = decide (Pl.rootI p k = (Pl.rootN k y : Int))) := Lib.hid (by
        rw [← Pl.rootI_yes y k (hy ▸ hmul), ← hy]
        by_cases hp : Pl.okB p k = true
        · simp [Pl.couldB, hp, hn, hm]
        · have e1 := Pl.rootI_no hp
          have e2 := Pl.rootI_yes y k (hy ▸ hmul)
          rw [← hy] at e2
          simp only [Pl.couldB, hp, Bool.false_and]
          rw [e1, e2]
          symm; rw [decide_eq_false_iff_not]; omega)
      have b3 : IntKind.i64.wrap (Pl.rootI n k * Pl.rootI m k) = (y : Int) := by
        rw [hy]; exact IntWalk.i64_in _ (by omega)
      clear hy hmul c1 c2 hn hm
      obtain ⟨p1, p2⟩ := hpos
      go_enter Try.func25, Try.ntmps25
      go_wp2_with (first | (go_at_call 13; refine (specRootOf _ _ _).mono ?_; rintro e w' ⟨rfl, rfl⟩) | (go_at_call 32; refine (l2Root k h1 h2 y h3 _).mono ?_; rintro e w' ⟨rfl, rfl⟩))
      go_ret
      exact ⟨ret_bool hR.out.symm, rfl⟩
    · have hR : Hid (Pl.couldB p n m b = false) := Lib.hid (by simp [Pl.couldB, hm])
      have h1 := c2.2 hm
      simp only [hn, not_true, iff_false] at c1
      have h2 : 0 ≤ Pl.rootI n b := by omega
      clear c1 c2
      go_enter Try.func25, Try.ntmps25
      go_wp2_with (go_at_call 13; refine (specRootOf _ _ _).mono ?_; rintro e w' ⟨rfl, rfl⟩)
      go_ret
      exact ⟨ret_bool hR.out.symm, rfl⟩
  · have hR : Hid (Pl.couldB p n m b = false) := Lib.hid (by simp [Pl.couldB, hn])
    have h1 := c1.2 hn
    clear c1 c2
    go_enter Try.func25, Try.ntmps25
    go_wp2_with (go_at_call 13; refine (specRootOf _ _ _).mono ?_; rintro e w' ⟨rfl, rfl⟩)
    go_ret
    exact ⟨ret_bool hR.out.symm, rfl⟩

set_option maxHeartbeats 400000 in
theorem FnExactCouldBe_walk (a0 : Int) (a1 : Int) (a2 : Int) (a3 : Int) (w : World) (_w0 : (Lit.int .i64 a0).wf = true) (_w1 : (Lit.int .i64 a1).wf = true) (_w2 : (Lit.int .i64 a2).wf = true) (_w3 : (Lit.int .i64 a3).wf = true) :
    Calls Try.prog 10 #[.int .i64 a0, .int .i64 a1, .int .i64 a2, .int .i64 a3] w fun e w' => e = .returned (.bool true) ∧ Below w.heap.size w w' := by
  go_enter Try.func10, Try.ntmps10
  go_wp2_with (first | (go_at_call 25; refine (specCouldBe _ _ _ _ _).mono ?_; rintro e w' ⟨rfl, rfl⟩) | (go_at_call 24; refine (implCouldBe _ _ _ _ _).mono ?_; rintro e w1 ⟨rfl, hb⟩))
  go_ret
  exact ⟨rfl, hb⟩

end Go.Proofs.Ytggeemkjgpjahaa
