/-
  impl.powersRule's method firstAgain: the first number of a way that comes again.
-/
import Derived.Test.YthpimanfkbeanaaNextOf
import Derived.Test.YthpimanfkbeanaaMathFloyd
import Derived.Test.YthpimanfkbeanaaDraws
import Derived.Deep.LoopGhost
namespace Go.Proofs.Ythpimanfkbeanaa
open Go.RowKit Go.Shelf

set_option maxRecDepth 100000 in
set_option maxHeartbeats 2000000 in
theorem firstAgain (t b x mu p : Nat) (hR : Pl.RuleOk t b) (hx : x ≤ 1000000000) (hrho : Pl.Rho (Pl.nextN t b) x mu p) (w : World) :
    Calls Try.prog 51 #[.agg #[.int .i64 t, .int .i64 b], .int .i64 x] w fun e w' => e = .returned (.int .i64 (Pl.iter (Pl.nextN t b) mu x)) ∧ Below w.heap.size w w' := by
  obtain ⟨hM1, hM2⟩ := Pl.meetAt_ok hrho
  have HM := Lib.hid hM2
  clear hM2
  generalize Pl.meetAt mu p = M at *
  have hle := Pl.iter_next_le hR hx
  go_enter Try.func51, Try.ntmps51
  go_wp2_with fail
  obtain ⟨c0, c1, hB, hlt⟩ := rule_box (t := (t : Int)) (b := (b : Int)) (Below.refl _ (w.alloc (.cells #[.int .i64 t, .int .i64 b] 47)))
  generalize (w.alloc (.cells #[.int .i64 t, .int .i64 b] 47)) = w1 at *
  have hx2 : Pl.nextN t b x ≤ 1000000000 := Nat.le_trans (Pl.next_le hR hx) (by omega)
  refine wp_region_calm mixed (by kernel_rfl) ?_
  repeat (first
    | go_big_quiet_skip
    | (go_big_quiet_want
       first
         | (go_big_quiet_op; go_big_quiet_on)
         | (apply Exists.intro
            refine ⟨fun W hW => ?_, ?_⟩
            · have d0 := Below.cell hW hlt c0
              have d1 := Below.cell hW hlt c1
              go_simp
              first | done | exact rfl
            simp only [Act.put, List.setIfInBounds_toArray, List.set_cons_zero, List.set_cons_succ]
            go_big_quiet_on)
         | (go_big_quiet_op
            apply Exists.intro
            refine ⟨fun W hW => Calm.call hW (ruleNext t b _ hR (by first | exact hx | exact hx2) _), ?_⟩
            go_big_quiet_on)))
  refine wpQuiet_nil ?_
  intro W hW
  have b1 : Below (w.heap.size + 1) w1 W := hW.mono (by omega)
  clear hW hx2
  go_wp2_with fail
  go_loopg [5, 6] (M - 1) (fun g sl fa wr => ∃ i, 1 ≤ i ∧ i + g = M ∧ sl = .int .i64 (Pl.iter (Pl.nextN t b) i x) ∧ fa = .int .i64 (Pl.iter (Pl.nextN t b) (i + i) x) ∧ Below (w.heap.size + 1) w1 wr)
  case atStart => exact ⟨1, by omega, by omega, rfl, rfl, b1⟩
  case round =>
    obtain ⟨i, hi1, hig, rfl, rfl, hbw⟩ := hrel
    have d0 := hbw.cell (p := ⟨w.heap.size, 0, none⟩) (by simp)
    have d1 := hbw.cell (p := ⟨w.heap.size, 1, none⟩) (by simp)
    rw [c0] at d0
    rw [c1] at d1
    have hlt2 : w.heap.size < wr.heap.size := Nat.lt_of_lt_of_le hlt hbw.size
    have hl1 := (hle i).1
    have hl2 := (hle (i + i)).1
    have hl3 : Pl.nextN t b (Pl.iter (Pl.nextN t b) (i + i) x) ≤ 1000000000 := Nat.le_trans (Pl.next_le hR hl2) (by omega)
    by_cases heq : Pl.iter (Pl.nextN t b) i x = Pl.iter (Pl.nextN t b) (i + i) x
    · obtain ⟨g1, g2⟩ := hrho.same hi1 heq
      have HE := Lib.hid heq
      rw [← heq]
      clear heq hl2 hl3 hl1
      go_wp2_with fail
      go_loopg [5, 6] mu (fun g sl fa wr => ∃ j, j + g = mu ∧ sl = .int .i64 (Pl.iter (Pl.nextN t b) j x) ∧ fa = .int .i64 (Pl.iter (Pl.nextN t b) (j + i) x) ∧ Below (w.heap.size + 1) w1 wr)
      case atStart => exact ⟨0, by omega, rfl, by rw [Nat.zero_add], hbw⟩
      case round =>
        clear d0 d1 hbw
        rename_i wr0 _
        obtain ⟨j, hjg, rfl, rfl, hbw⟩ := hrel
        have d0 := hbw.cell (p := ⟨w.heap.size, 0, none⟩) (by simp)
        have d1 := hbw.cell (p := ⟨w.heap.size, 1, none⟩) (by simp)
        rw [c0] at d0
        rw [c1] at d1
        have hl1 := (hle j).1
        have hl2 := (hle (j + i)).1
        by_cases hj : j = mu
        · subst hj
          have heq := hrho.same_of (Nat.le_refl j) g2
          rw [← heq]
          clear heq HE
          go_wp2_with fail
          go_ret
          exact ⟨rfl, hB.trans (hbw.mono (by omega))⟩
        · have hne : ((Pl.iter (Pl.nextN t b) j x : Int) != (Pl.iter (Pl.nextN t b) (j + i) x : Int)) = true := by
            have : ¬ Pl.iter (Pl.nextN t b) j x = Pl.iter (Pl.nextN t b) (j + i) x := fun he => by
              have := (hrho.same hi1 he).1; omega
            simpa using fun h => this (by exact_mod_cast h)
          have F1 : Hid (Pl.nextN t b (Pl.iter (Pl.nextN t b) j x) = Pl.iter (Pl.nextN t b) (j + 1) x) := Lib.hid rfl
          have F2 : Hid (Pl.nextN t b (Pl.iter (Pl.nextN t b) (j + i) x) = Pl.iter (Pl.nextN t b) (j + 1 + i) x) := Lib.hid (by rw [show j + 1 + i = j + i + 1 by omega]; rfl)
          generalize Pl.iter (Pl.nextN t b) j x = Y at *
          generalize Pl.iter (Pl.nextN t b) (j + i) x = Z at *
          go_wp2_with fail
          refine (ruleNext t b _ hR hl2 _).mono ?_
          rintro e w2 ⟨rfl, hb2⟩
          rw [F2.out]
          have hb2' := hbw.trans (hb2.mono (Nat.le_trans (by omega) hbw.size))
          have d0 := hb2'.cell (p := ⟨w.heap.size, 0, none⟩) (by simp)
          have d1 := hb2'.cell (p := ⟨w.heap.size, 1, none⟩) (by simp)
          rw [c0] at d0
          rw [c1] at d1
          go_wp2_with fail
          refine (ruleNext t b _ hR hl1 _).mono ?_
          rintro e w3 ⟨rfl, hb3⟩
          rw [F1.out]
          have hb3' := hb2'.trans (hb3.mono (Nat.le_trans (by omega) hb2'.size))
          go_wp2_with fail
          go_roundg (mu - (j + 1))
          case measure => omega
          case rel => exact ⟨j + 1, by omega, rfl, rfl, hb3'⟩
    · have hiM : i ≠ M := fun e => heq (by rw [e]; exact HM.out)
      have hne : ((Pl.iter (Pl.nextN t b) i x : Int) != (Pl.iter (Pl.nextN t b) (i + i) x : Int)) = true := by
        simpa using fun h => heq (by exact_mod_cast h)
      have F1 : Hid (Pl.nextN t b (Pl.iter (Pl.nextN t b) i x) = Pl.iter (Pl.nextN t b) (i + 1) x) := Lib.hid rfl
      have F2 : Hid (Pl.nextN t b (Pl.nextN t b (Pl.iter (Pl.nextN t b) (i + i) x)) = Pl.iter (Pl.nextN t b) (i + 1 + (i + 1)) x) := Lib.hid (by rw [show i + 1 + (i + 1) = i + i + 1 + 1 by omega]; rfl)
      clear heq
      generalize Pl.iter (Pl.nextN t b) i x = Y at *
      generalize Pl.iter (Pl.nextN t b) (i + i) x = Z at *
      go_wp2_with fail
      refine wp_region_calm mixed (by kernel_rfl) ?_
      repeat (first
        | go_big_quiet_skip
        | (go_big_quiet_want
           first
             | (go_big_quiet_op; go_big_quiet_on)
             | (apply Exists.intro
                refine ⟨fun W hW => ?_, ?_⟩
                · have e0 := Below.cell hW hlt2 d0
                  have e1 := Below.cell hW hlt2 d1
                  go_simp
                  first | done | exact rfl
                simp only [Act.put, List.setIfInBounds_toArray, List.set_cons_zero, List.set_cons_succ]
                go_big_quiet_on)
             | (go_big_quiet_op
                apply Exists.intro
                refine ⟨fun W hW => Calm.call hW (ruleNext t b _ hR (by first | exact hl1 | exact hl2 | exact hl3) _), ?_⟩
                go_big_quiet_on)))
      refine wpQuiet_nil ?_
      intro W2 hW2
      rw [F1.out, F2.out]
      have hb2 := hbw.trans (hW2.mono (Nat.le_trans (by omega) hbw.size))
      go_wp2_with fail
      go_roundg (M - (i + 1))
      case measure => omega
      case rel => exact ⟨i + 1, by omega, by omega, rfl, rfl, hb2⟩

end Go.Proofs.Ythpimanfkbeanaa
