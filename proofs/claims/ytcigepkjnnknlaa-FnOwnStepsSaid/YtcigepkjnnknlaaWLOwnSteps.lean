/-
  The walk of the law of OwnSteps: own numbers follow themselves.
-/
import Derived.Test.YtcigepkjnnknlaaOwnSteps
import Derived.Test.YtcigepkjnnknlaaCalm
import Derived.Test.YtcigepkjnnknlaaDraws5
namespace Go.Proofs.Ytcigepkjnnknlaa
open Go.RowKit

/-- What the law asks of the numbers that follow. -/
structure Pl.StepsFact (n r b : Int) (I : List Int) : Prop where
  pos : 1 ≤ I.length
  first : I[0]?.getD 0 = n
  step : ∀ K, 1 ≤ K → K < I.length → Pl.ownI (I[K - 1]?.getD 0) r b = I[K]?.getD 0
  differ : ∀ j k, j < k → k < I.length → I[j]?.getD 0 ≠ I[k]?.getD 0
  alone : I.length = 1 ↔ (Pl.ownI n r b = n ∨ 2000 < Pl.ownI n r b)

theorem Pl.steps_fact {n r b : Int} (h : Pl.ownB n r b = true) : Pl.StepsFact n r b (Pl.stepsA n r b) := by
  obtain ⟨x, s, k, rfl, rfl, rfl, h1, h2, h3, h4⟩ := Pl.ownB_nat h
  have H := Pl.stepsL_ok (f := Pl.ownN s k) h1
  rw [Pl.stepsA_ints x s k h]
  have hl := Pl.ints_len (Pl.stepsL (Pl.ownN s k) x)
  refine ⟨by rw [hl]; exact H.pos, by rw [Pl.ints_get, H.first], fun K h5 h6 => ?_, fun j K h5 h6 => ?_, ?_⟩
  · rw [hl] at h6
    rw [Pl.ints_get, Pl.ints_get]
    have h7 : (Pl.stepsL (Pl.ownN s k) x)[K - 1]?.getD 0 ≤ 2000 := by
      rw [List.getElem?_eq_getElem (by omega), Option.getD_some]
      exact H.small _ (List.getElem_mem _)
    rw [Pl.ownI_yes _ s k (Pl.ownB_of h7 h2 h3 h4)]
    have h8 := H.step (K - 1) (by omega)
    rw [show K - 1 + 1 = K by omega] at h8
    rw [h8]
  · rw [hl] at h6
    rw [Pl.ints_get, Pl.ints_get]
    have := H.differ j K h5 h6
    omega
  · rw [hl, H.alone, Pl.ownI_yes x s k h]
    omega

set_option maxRecDepth 100000 in
set_option maxHeartbeats 4000000 in
theorem FnOwnSteps_walk (a0 : Option Addr) (len0 cap0 : Nat) (z0 : List Int) (w : World) (w0 : IsRow .u8 w a0 len0 cap0 z0) :
    Calls Try.prog 6 #[.slice a0 len0 cap0] w fun e w' => e = .returned (.bool true) ∧ Below w.heap.size w w' := by
  by_cases hl : 1048576 < len0
  · go_enter Try.func6, Try.ntmps6
    go_wp2
    go_ret
    exact ⟨rfl, Below.refl _ _⟩
  · go_enter Try.func6, Try.ntmps6
    go_wp2_with fail
    refine (drawOwnSteps _ _ _ _ _ w0).mono ?_
    rintro e w1 ⟨n, r, b, rfl, ⟨n1, n2⟩, ⟨r1, r2⟩, ⟨b1, b2⟩, hb1⟩
    clear w0 hl
    have HI := Lib.hid (implOwnSteps n r b)
    have HS := Lib.hid (specOwnSteps n r b)
    have hlen := Pl.stepsA_len n r b
    have HF : Hid (Pl.ownB n r b = true → Pl.StepsFact n r b (Pl.stepsA n r b)) := Lib.hid Pl.steps_fact
    have HE : Hid (¬ Pl.ownB n r b = true → Pl.stepsA n r b = []) := Lib.hid Pl.stepsA_no
    generalize Pl.stepsA n r b = L at *
    go_wp2_with fail
    refine (HI.out _).mono ?_
    rintro e w2 ⟨v, rfl, q2, p2⟩
    go_wp2_with fail
    refine (HS.out _).mono ?_
    rintro e w3 ⟨v2, rfl, q3, p3⟩
    have i2 := q2.ints.below p3
    go_wp2_with fail
    refine (sameInts _ _ L L w3 i2 q3.ints (by omega)).mono ?_
    rintro e w4 ⟨rfl, p4⟩
    rw [show eqL L L = true by simp [eqL]]
    have c3 : Below w2.heap.size w2 w4 := p3.trans (p4.mono p3.size)
    have c2 : Below w.heap.size w w2 := hb1.trans (p2.mono hb1.size)
    have c4 : Below w.heap.size w w4 := c2.trans (c3.mono c2.size)
    have q4 := (q2.below p3).below p4
    clear i2 q3 q2 p3 p4 p2 hb1 HI HS c3 c2
    by_cases hok : Pl.ownB n r b = true
    · have HF2 := Lib.hid (HF.out hok)
      obtain ⟨g, lc, rfl, _, hgl, _, _, hc⟩ := q4.lies HF2.out.pos
      have HC := Lib.hid hc
      have hpos := HF2.out.pos
      have hn0 : ((L.length : Int) == 0) = false := by rw [beq_eq_false_iff_ne]; omega
      have HO := Lib.hid (Pl.ownOkB_yes hok)
      have hbd := Pl.ownI_bound n r b
      clear q4 hc HE HF hok
      go_wp2_with fail
      go_loopw [7, 8] (fun i _ wr => ∃ K : Nat, K ≤ L.length ∧ i = .int .i64 K ∧ Below w4.heap.size w4 wr) (fun i _ _ => L.length - (intOf i).toNat)
      case atStart => exact ⟨0, by omega, rfl, Below.refl _ _⟩
      case round =>
        obtain ⟨K, hK, rfl, hbw⟩ := hrel
        by_cases hlt : K < L.length
        · have hi1 : (K : Int) < (L.length : Int) := by omega
          by_cases hK0 : K = 0
          · subst hK0
            go_wp2_with fail
            go_big_quiet (fail)
            go_wp2_with fail
            have c9 := hbw.trans ((drewN_below wr nq).mono hbw.size)
            go_loopw [8] (fun j W => j = .int .i64 0 ∧ W = wr.drewN nq) (fun _ _ => 0)
            case atStart => exact ⟨rfl, rfl⟩
            case round =>
              obtain ⟨rfl, rfl⟩ := hrel
              go_wp2_with fail
              go_roundw
              case rel => exact ⟨1, by omega, by simp, c9⟩
              case measure => simp [intOf]; omega
          · obtain ⟨M, rfl⟩ : ∃ M, K = M + 1 := ⟨K - 1, by omega⟩
            have hcP := HC.out M (by omega)
            have hcQ := HC.out (M + 1) hlt
            have hst := HF2.out.step (M + 1) (by omega) hlt
            rw [show M + 1 - 1 = M by omega] at hst
            generalize L[M]?.getD 0 = P at *
            generalize hQe : L[M + 1]?.getD 0 = Q at *
            have HQ := Lib.hid hQe
            clear hQe
            have dP := Below.cell hbw hgl hcP
            have dQ := Below.cell hbw hgl hcQ
            have hglr : g < wr.heap.size := Nat.lt_of_lt_of_le hgl hbw.size
            have hOS : Hid (∀ W, Calls Try.prog 12 #[.int .i64 P, .int .i64 r, .int .i64 b] W fun e W' => e = .returned (.int .i64 Q) ∧ Below W.heap.size W W') := Lib.hid fun W => by
              have := implOwnSum P r b W
              rwa [hst] at this
            have hi2 : (M : Int) < (L.length : Int) := by omega
            have hi3 : (M : Int) + 1 < (L.length : Int) := by omega
            have hm2 : M < L.length := by omega
            have hi4 : 0 ≤ (M : Int) + 1 := by omega
            have hi5 : 0 ≤ ((M + 1 : Nat) : Int) := by omega
            have hi6 : ((M + 1 : Nat) : Int) < (L.length : Int) := by omega
            have hwm : IntKind.i64.wrap (M : Int) = (M : Int) := IntWalk.i64_in _ (by omega)
            have hm3 : M + 1 < L.length := by omega
            clear hst hcP hcQ
            go_wp2_with fail
            refine wp_region_calm mixed (by kernel_rfl) ?_
            repeat (first
              | go_big_quiet_skip
              | (go_big_quiet_want
                 first
                   | (go_big_quiet_op; go_big_quiet_on)
                   | (apply Exists.intro
                      refine ⟨fun W hW => ?_, ?_⟩
                      · have hcW1 := Below.cell hW hglr dP
                        have hcW2 := Below.cell hW hglr dQ
                        go_simp
                        first | done | exact rfl
                      simp only [Act.put, List.setIfInBounds_toArray, List.set_cons_zero, List.set_cons_succ]
                      go_big_quiet_on)
                   | (go_big_quiet_op
                      apply Exists.intro
                      refine ⟨fun W hW => Calm.call hW (hOS.out _), ?_⟩
                      go_big_quiet_on)))
            refine wpQuiet_nil ?_
            intro W hW
            have c7 := hbw.trans (hW.mono hbw.size)
            have HDF := Lib.hid (fun j (hj : j < M + 1) => HF2.out.differ j (M + 1) hj hlt)
            rw [HQ.out] at HDF
            have hglW := Nat.lt_of_lt_of_le hglr hW.size
            have eQ := Lib.hid (Below.cell hW hglr dQ)
            clear dP dQ hwm hi2 hi3 hm2 hi4
            go_wp2_with fail
            go_loopw [8] (fun j W' => ∃ J : Nat, J ≤ M + 1 ∧ j = .int .i64 J ∧ Below W.heap.size W W') (fun j _ => M + 1 - (intOf j).toNat)
            case atStart => exact ⟨0, by omega, rfl, Below.refl _ _⟩
            case round =>
              obtain ⟨J, hJ, rfl, hbJ⟩ := hrel
              by_cases hJM : J < M + 1
              · have dJ := Below.cell (c7.trans (hbJ.mono c7.size)) hgl (HC.out J (by omega))
                have dK := Below.cell hbJ hglW eQ.out
                have hne := HDF.out J hJM
                generalize L[J]?.getD 0 = X at *
                have hxq : (X == Q) = false := by rw [beq_eq_false_iff_ne]; exact hne
                have hj1 : (J : Int) < ((M + 1 : Nat) : Int) := by omega
                have hj2 : (J : Int) < (L.length : Int) := by omega
                have hj3 : (J : Int) < (M : Int) + 1 := by omega
                clear hne
                go_wp2_with fail
                go_quiet (fail)
                go_wp2
                refine ⟨⟨J + 1, by omega, by go_num, hbJ.trans ((drewN_below _ nq).mono hbJ.size)⟩, by simp [intOf]; omega⟩
              · obtain rfl : J = M + 1 := by omega
                have hj1 : ¬ ((M + 1 : Nat) : Int) < ((M + 1 : Nat) : Int) := by omega
                go_wp2_with fail
                go_roundw
                case rel => exact ⟨M + 1 + 1, by omega, by simp, c7.trans (hbJ.mono c7.size)⟩
                case measure => simp [intOf]; omega
        · obtain rfl : K = L.length := by omega
          have hi : ¬ (L.length : Int) < (L.length : Int) := by omega
          have hc0 := Below.cell hbw hgl (HC.out 0 (by omega))
          rw [HF2.out.first] at hc0
          have hal := HF2.out.alone
          have c5 := c4.trans (hbw.mono c4.size)
          by_cases hS : Pl.ownI n r b = n
          · have h1 : (L.length : Int) = 1 := by have := hal.2 (.inl hS); omega
            have HOK : Hid (Pl.ownOkB n r b = true) := Lib.hid (by rw [HO.out]; simp [hS])
            clear hal hbd hS
            go_wp2_with fail
            refine (implOwnOk _ _ _ _).mono ?_
            rintro e w6 ⟨rfl, p6⟩
            rw [HOK.out]
            go_wp2
            go_ret
            exact ⟨rfl, c5.trans (p6.mono c5.size)⟩
          · have HOK : Hid (Pl.ownOkB n r b = false) := Lib.hid (by rw [HO.out]; simp [hS])
            have hcase : (((L.length : Int) == 1) = true ∧ 2000 < Pl.ownI n r b) ∨ (((L.length : Int) == 1) = false ∧ ¬ 2000 < Pl.ownI n r b) := by
              by_cases h1 : L.length = 1
              · left
                exact ⟨by simp [h1], (hal.1 h1).resolve_left hS⟩
              · right
                exact ⟨by rw [beq_eq_false_iff_ne]; omega, fun h => h1 (hal.2 (.inr h))⟩
            have HSP := Lib.hid (specOwnSum n r b)
            clear hal hS
            generalize Pl.ownI n r b = S at *
            rcases hcase with ⟨h1, h2⟩ | ⟨h1, h2⟩
            all_goals
              go_wp2_with fail
              refine (implOwnOk _ _ _ _).mono ?_
              rintro e w6 ⟨rfl, p6⟩
              rw [HOK.out]
              have c6 := c5.trans (p6.mono c5.size)
              go_wp2_with fail
              refine (HSP.out _).mono ?_
              rintro e w7 ⟨rfl, p7⟩
              go_wp2
              go_ret
              first | exact ⟨rfl, c6.trans (p7.mono c6.size)⟩ | exact ⟨ret_bool (by simp; omega), c6.trans (p7.mono c6.size)⟩
    · have hL := HE.out hok
      subst hL
      obtain ⟨la, lc, rfl⟩ := q4.shape
      have HO := Lib.hid (Pl.ownI_no hok)
      clear q4 HF HE hok
      go_wp2_with fail
      refine (implOwnSum _ _ _ _).mono ?_
      rintro e w5 ⟨rfl, p5⟩
      rw [HO.out]
      go_wp2_with (go_at_call 14; refine (alive _).mono ?_; rintro e w' ⟨rfl, rfl⟩)
      go_ret
      exact ⟨rfl, c4.trans (p5.mono c4.size)⟩

end Go.Proofs.Ytcigepkjnnknlaa
