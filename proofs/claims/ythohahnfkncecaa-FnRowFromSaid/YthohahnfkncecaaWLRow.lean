/-
  The walk of the law of RowFrom.
-/
import Derived.Deep.RegionHeld3
import Derived.Test.YthohahnfkncecaaWLSelves
namespace Go.Proofs.Ythohahnfkncecaa
open Go.RowKit

set_option maxRecDepth 100000 in
set_option maxHeartbeats 4000000 in
theorem FnRowFrom_walk (a0 : Option Addr) (len0 cap0 : Nat) (z0 : List Int) (w : World) (w0 : IsRow .u8 w a0 len0 cap0 z0) :
    Calls Try.prog 7 #[.slice a0 len0 cap0] w fun e w' => e = .returned (.bool true) ∧ Below w.heap.size w w' := by
  by_cases hl : 1048576 < len0
  · go_enter Try.func7, Try.ntmps7
    go_wp2
    go_ret
    exact ⟨rfl, Below.refl _ _⟩
  · go_enter Try.func7, Try.ntmps7
    go_wp2_with fail
    refine (drawRowFrom _ _ _ _ _ w0).mono ?_
    rintro e w1 ⟨n, b, rfl, ⟨n1, n2⟩, ⟨b1, b2⟩, hb1⟩
    clear w0 hl
    have HI := Lib.hid (implRowFrom n b)
    have HS := Lib.hid (specRowFrom n b)
    have hlen := Pl.rowA_len n b
    have HF : Hid (Pl.rowB n b = true → Pl.RowFact n b (Pl.rowA n b)) := Lib.hid Pl.row_fact
    have HE : Hid (¬ Pl.rowB n b = true → Pl.rowA n b = []) := Lib.hid Pl.rowA_no
    generalize Pl.rowA n b = L at *
    go_wp2_with fail
    refine (HI.out _).mono ?_
    rintro e w2 ⟨v, rfl, q2, p2⟩
    go_wp2_with fail
    refine (HS.out _).mono ?_
    rintro e w3 ⟨v2, rfl, q3, p3⟩
    have i2 := q2.ints.below p3
    go_wp2_with fail
    refine (sameInts _ _ L L w3 i2 q3.ints (by omega)).mono ?_
    rintro e w4 ⟨rfl, p4⟩
    rw [show eqL L L = true by simp [eqL]]
    have c3 : Below w2.heap.size w2 w4 := p3.trans (p4.mono p3.size)
    have c2 : Below w.heap.size w w2 := hb1.trans (p2.mono hb1.size)
    have c4 : Below w.heap.size w w4 := c2.trans (c3.mono c2.size)
    have q4 := (q2.below p3).below p4
    clear i2 q3 q2 p3 p4 p2 hb1 HI HS c3 c2
    by_cases hok : Pl.rowB n b = true
    · have HF2 := Lib.hid (HF.out hok)
      have hq4 := q4
      obtain ⟨g, lc, rfl, _, hgl, hcap, hcm, hc⟩ := q4.lies HF2.out.pos
      have HR := Lib.hid hq4
      have HC := Lib.hid hc
      have hpos := HF2.out.pos
      have hn0 : ((L.length : Int) == 0) = false := by rw [beq_eq_false_iff_ne]; omega
      clear q4 hq4 hc HE HF hok
      go_wp2_with fail
      go_loopw [6] (fun i wr => ∃ K : Nat, 1 ≤ K ∧ K ≤ L.length ∧ i = .int .i64 K ∧ Below w4.heap.size w4 wr) (fun i _ => L.length - (intOf i).toNat)
      case atStart => exact ⟨1, by omega, by omega, rfl, Below.refl _ _⟩
      case round =>
        obtain ⟨K, hK1, hK, rfl, hbw⟩ := hrel
        by_cases hlt : K < L.length
        · obtain ⟨M, rfl⟩ : ∃ M, K = M + 1 := ⟨K - 1, by omega⟩
          have hcP := HC.out M (by omega)
          have hcQ := HC.out (M + 1) hlt
          have hst := HF2.out.step (M + 1) (by omega) hlt
          rw [show M + 1 - 1 = M by omega] at hst
          generalize L[M]?.getD 0 = P at *
          generalize hQe : L[M + 1]?.getD 0 = Q at *
          clear hQe
          have dP := Below.cell hbw hgl hcP
          have dQ := Below.cell hbw hgl hcQ
          have hglr : g < wr.heap.size := Nat.lt_of_lt_of_le hgl hbw.size
          have hOS : Hid (∀ W, Calls Try.prog 16 #[.int .i64 P, .int .i64 b] W fun e W' => e = .returned (.int .i64 Q) ∧ Below W.heap.size W W') := Lib.hid fun W => by
            have := implMadeBy P b W
            rwa [hst] at this
          have hi1 : ((M + 1 : Nat) : Int) < (L.length : Int) := by omega
          have hi2 : (M : Int) < (L.length : Int) := by omega
          have hi3 : (M : Int) + 1 < (L.length : Int) := by omega
          have hm2 : M < L.length := by omega
          have hi4 : 0 ≤ (M : Int) + 1 := by omega
          have hi5 : 0 ≤ ((M + 1 : Nat) : Int) := by omega
          have hwm : IntKind.i64.wrap (M : Int) = (M : Int) := IntWalk.i64_in _ (by omega)
          have hm3 : M + 1 < L.length := by omega
          clear hst hcP hcQ
          go_wp2_with fail
          refine wp_region_calm mixed (by kernel_rfl) ?_
          repeat (first
            | go_big_quiet_skip
            | (go_big_quiet_want
               first
                 | (go_big_quiet_op; go_big_quiet_on)
                 | (apply Exists.intro
                    refine ⟨fun W hW => ?_, ?_⟩
                    · have hcW1 := Below.cell hW hglr dP
                      have hcW2 := Below.cell hW hglr dQ
                      go_simp
                      first | done | exact rfl
                    simp only [Act.put, List.setIfInBounds_toArray, List.set_cons_zero, List.set_cons_succ]
                    go_big_quiet_on)
                 | (go_big_quiet_op
                    apply Exists.intro
                    refine ⟨fun W hW => Calm.call hW (hOS.out _), ?_⟩
                    go_big_quiet_on)))
          refine wpQuiet_nil ?_
          intro W hW
          have c7 := hbw.trans (hW.mono hbw.size)
          clear dP dQ hwm hi2 hi3 hm2 hi4
          go_wp2_with fail
          exact ⟨⟨M + 1 + 1, by omega, by omega, by simp, c7⟩, by simp [intOf]; omega⟩
        · obtain rfl : K = L.length := by omega
          have hi : ¬ (L.length : Int) < (L.length : Int) := by omega
          have c5 := c4.trans (hbw.mono c4.size)
          have HC0 : Hid (w4.cell? ⟨g, 0, none⟩ = some (.int .i64 n)) := Lib.hid (by
            have := HC.out 0 (by omega)
            rwa [HF2.out.first] at this)
          have HAS : Hid (∀ W, Below w4.heap.size w4 W → Calls Try.prog 25 #[.slice (some ⟨g, 0, none⟩) L.length lc] W fun e W' => e = .returned (.bool true) ∧ Below W.heap.size W W') :=
            Lib.hid fun W hW => ascend _ L W ((HR.out.below hW).ints) (by omega) HF2.out.asc
          have HMB : Hid (∀ W, Calls Try.prog 16 #[.int .i64 (L[L.length - 1]?.getD 0), .int .i64 b] W fun e W' => e = .returned (.int .i64 (Pl.madeI (L[L.length - 1]?.getD 0) b)) ∧ Below W.heap.size W W') := Lib.hid fun W => implMadeBy _ b W
          have hlast := HF2.out.last
          have hlastb := Pl.madeI_bound (L[L.length - 1]?.getD 0) b
          have HCL : Hid (w4.cell? ⟨g, L.length - 1, none⟩ = some (.int .i64 (L[L.length - 1]?.getD 0))) := Lib.hid (HC.out (L.length - 1) (by omega))
          generalize L[L.length - 1]?.getD 0 = Q at *
          generalize Pl.madeI Q b = MQ at *
          have hsz := hbw.size
          have hgr : g < wr.heap.size := Nat.lt_of_lt_of_le hgl hsz
          have hr0 := Below.cell hbw hgl HC0.out
          obtain ⟨len, hlenE⟩ : ∃ len, L.length = len := ⟨_, rfl⟩
          have HLEN := Lib.hid hlenE
          have hcap' : len ≤ lc := by omega
          rw [hlenE] at hi HAS HCL hpos hlen ⊢
          clear hlenE hcap
          obtain ⟨M, rfl⟩ : ∃ M, len = M + 1 := ⟨len - 1, by omega⟩
          rw [Nat.add_sub_cancel] at HCL
          have hrl := Below.cell hbw hgl HCL.out
          have hwm : IntKind.i64.wrap (M : Int) = (M : Int) := IntWalk.i64_in _ (by omega)
          have hm2 : (M : Int) < (M : Int) + 1 := by omega
          have hm3 : M < M + 1 := by omega
          have hm4 : ¬ (M : Int) < 0 := by omega
          have hm5 : 0 ≤ (M : Int) := by omega
          by_cases h1 : M = 0
          · have e1 : ((M : Int) + 1 == 1) = true := by rw [beq_iff_eq]; omega
            have e2 : (((M + 1 : Nat) : Int) == 1) = true := by rw [beq_iff_eq]; omega
            have e3 : ((M : Int) == 0) = true := by rw [beq_iff_eq]; omega
            clear HC0 HCL h1 hpos hi HC HF2 HLEN hcap'
            have HAS' : Hid (∀ W, Below wr.heap.size wr W → Calls Try.prog 25 #[.slice (some ⟨g, 0, none⟩) (M + 1) lc] W fun e W' => e = .returned (.bool true) ∧ Below W.heap.size W W') := Lib.hid fun W hW => HAS.out W (hbw.trans (hW.mono hsz))
            go_wp2_with fail
            refine wp_region_calm mixed (by kernel_rfl) ?_
            repeat (first
              | go_big_quiet_skip
              | (go_big_quiet_want
                 first
                   | (go_big_quiet_op; go_big_quiet_on)
                   | (apply Exists.intro
                      refine ⟨fun W hW => ?_, ?_⟩
                      · have hcW1 := Below.cell hW hgr hr0
                        have hcW2 := Below.cell hW hgr hrl
                        go_simp
                        first | done | exact rfl
                      simp only [Act.put, List.setIfInBounds_toArray, List.set_cons_zero, List.set_cons_succ]
                      go_big_quiet_on)
                   | (go_big_quiet_op
                      apply Exists.intro
                      refine ⟨fun W hW => Calm.call hW (HAS'.out W hW), ?_⟩
                      go_big_quiet_on)
                   | (go_big_quiet_op
                      apply Exists.intro
                      refine ⟨fun W hW => Calm.call hW (HMB.out _), ?_⟩
                      go_big_quiet_on)))
            refine wpQuiet_nil ?_
            intro W hW
            have c7 := c5.trans (hW.mono c5.size)
            go_wp2
            go_ret
            exact ⟨rfl, c7⟩
          · have hM0 : ¬ M = 0 := h1
            have e1 : ((M : Int) + 1 == 1) = false := by rw [beq_eq_false_iff_ne]; omega
            have e2 : (((M + 1 : Nat) : Int) == 1) = false := by rw [beq_eq_false_iff_ne]; omega
            have e3 : ((M : Int) == 0) = false := by rw [beq_eq_false_iff_ne]; omega
            have hlc1 : ¬ lc = 1 := by omega
            have h1M : 1 ≤ M := by omega
            have hLM := HLEN.out
            have HC1 : Hid (w4.cell? ⟨g, 1, none⟩ = some (.int .i64 (L[1]?.getD 0))) := Lib.hid (HC.out 1 (by omega))
            have htail := HF2.out.tail (by omega)
            have HRF : Hid (∀ W, Calls Try.prog 33 #[.int .i64 (L[1]?.getD 0), .int .i64 b] W (ListPost W (L.drop 1))) := Lib.hid fun W => by
              have := implRowFrom (L[1]?.getD 0) b W
              rwa [htail] at this
            have HDL : Hid ((L.drop 1).length = M) := Lib.hid (by rw [List.length_drop]; omega)
            have HT : Hid (∀ W, Below w4.heap.size w4 W → Ints W (.slice (some ⟨g, 1, none⟩) M (lc - 1)) (L.drop 1)) := Lib.hid fun W hW =>
              ⟨some ⟨g, 1, none⟩, lc - 1, by rw [HDL.out], fun j hj => ⟨g, 1, rfl, by
                rw [HDL.out] at hj
                rw [List.getElem?_drop]
                exact Below.cell hW hgl (HC.out (1 + j) (by omega))⟩⟩
            have hM9 : (L.drop 1).length ≤ 1000000000 := by have := HDL.out; omega
            have HM9 := Lib.hid hM9
            clear HF2 HC HLEN h1 htail hLM hM9
            generalize L[1]?.getD 0 = Q1 at *
            generalize L.drop 1 = T at *
            have hz := hbw.drew
            have hr1 := Below.cell hbw hgl HC1.out
            have k1 : (1 : Int) < (M : Int) + 1 := by omega
            have k2 : (0 : Int) < (M : Int) := by omega
            have k3 : 0 < M := by omega
            have k4 : 1 < M + 1 := by omega
            have k5 : (1 : Int) ≤ (M : Int) + 1 := by omega
            have k6 : M + 1 ≤ lc := hcap'
            have k7 : (M : Int) + 1 ≤ (lc : Int) := by omega
            have k8 : (1 : Int) ≤ (lc : Int) := by omega
            have k9 : 1 ≤ lc := by omega
            have k10 : ¬ (M : Int) + 1 < 1 := by omega
            have k11 : ¬ M + 1 < 1 := by omega
            clear hpos hi hcap'
            go_wp2_with fail
            go_region_held3 (fun w' => w'.cell? ⟨g, 0, none⟩ = some (.int .i64 n) ∧ w'.cell? ⟨g, 1, none⟩ = some (.int .i64 Q1) ∧ w'.cell? ⟨g, M, none⟩ = some (.int .i64 Q) ∧ Below w4.heap.size w4 w')
              (first
                | exact ⟨hr0, hr1, hrl, hz⟩
                | exact ⟨hr0, hr1, hrl, hbw⟩
                | exact ⟨s0, s1, s2, hz5⟩
                | exact ⟨t0, t1, t2, hz6⟩
                | exact ⟨v0, v1, v2', hz7⟩
                | exact ⟨x0, x1, x2, hz8⟩)
              (first
              | (go_at_call 25; refine (HAS.out _ hz).mono ?_; rintro e w5 ⟨rfl, b5⟩; have hz5 := hz.trans (b5.mono hz.size); have s0 := Below.cell hz5 hgl HC0.out; have s1 := Below.cell hz5 hgl HC1.out; have s2 := Below.cell hz5 hgl HCL.out; clear b5)
              | (go_at_call 33; refine (HRF.out _).mono ?_; rintro e w6 ⟨v6, rfl, q6, b6⟩; have Q6 := Lib.hid (Row.ints q6); have hz6 := hz5.trans (b6.mono hz5.size); have t0 := Below.cell hz6 hgl HC0.out; have t1 := Below.cell hz6 hgl HC1.out; have t2 := Below.cell hz6 hgl HCL.out; clear b6 q6)
              | (go_at_call 21; refine (sameInts _ _ T T _ Q6.out (HT.out _ hz6) HM9.out).mono ?_; rintro e w7 ⟨rfl, b7⟩; rw [show eqL T T = true from by simp [eqL]]; have hz7 := hz6.trans (b7.mono hz6.size); have v0 := Below.cell hz7 hgl HC0.out; have v1 := Below.cell hz7 hgl HC1.out; have v2' := Below.cell hz7 hgl HCL.out; clear b7)
              | (go_at_call 16; refine (HMB.out _).mono ?_; rintro e w8 ⟨rfl, b8⟩; have hz8 := hz7.trans (b8.mono hz7.size); have x0 := Below.cell hz8 hgl HC0.out; have x1 := Below.cell hz8 hgl HC1.out; have x2 := Below.cell hz8 hgl HCL.out; clear b8))
            all_goals
              have c9 := c4.trans (hz8.mono c4.size)
              go_wp2
              go_ret
              exact ⟨rfl, c9⟩
    · obtain rfl := HE.out hok
      clear HE HF hok
      obtain ⟨la, lc, rfl⟩ := q4.shape
      go_wp2_with (go_at_call 18; refine (alive _).mono ?_; rintro e w' ⟨rfl, rfl⟩)
      go_ret
      exact ⟨rfl, c4⟩

end Go.Proofs.Ythohahnfkncecaa
