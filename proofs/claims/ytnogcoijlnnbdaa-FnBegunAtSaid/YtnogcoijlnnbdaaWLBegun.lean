/-
  The walks of the laws of RoundOf and BegunAt.
-/
import Derived.Test.YtnogcoijlnnbdaaDraws9
import Derived.Test.YtnogcoijlnnbdaaSpecHalves
import Derived.Test.YtnogcoijlnnbdaaTurned
import Derived.Test.YtnogcoijlnnbdaaPeriod
import Derived.Test.YtnogcoijlnnbdaaCalm
namespace Go.Proofs.Ytnogcoijlnnbdaa
open Go.RowKit

namespace Pl

theorem min_step {k : Nat} (hk : 1 ≤ k) (K : Nat) : min (min (k ^ K) 100000000 * k) 100000000 = min (k ^ (K + 1)) 100000000 := by
  rw [Nat.pow_succ]
  rcases Nat.le_total (k ^ K) 100000000 with h | h
  · rw [Nat.min_eq_left h]
  · rw [Nat.min_eq_right h]
    have h1 : 100000000 ≤ 100000000 * k := Nat.le_mul_of_pos_right _ hk
    have h2 : 100000000 * k ≤ k ^ K * k := Nat.mul_le_mul_right k h
    rw [Nat.min_eq_right h1, Nat.min_eq_right (by omega)]

theorem round_dig {x u b j : Nat} (h : overB x u b = true) (hj : j < periodN b u) : (roundA (x : Int) (u : Int) (b : Int))[j]?.getD 0 = ((digitN b u x j : Nat) : Int) := by
  rw [roundA_yes h, List.getElem?_map]
  have := roundD_get (b := b) (u := u) (x := x) hj
  cases hx : (roundD b u x (periodN b u))[j]? with
  | none => rw [List.getElem?_eq_none_iff, roundD_len] at hx; omega
  | some d => rw [hx] at this; simp only [Option.getD_some] at this; simp [this]

/-- The number of a round, as WholeOf tells it. -/
theorem round_tells {x u b : Nat} (h : overB x u b = true) : ∃ V : Nat, V * u = x * (b ^ periodN b u - 1) ∧ ((V ≤ 1000000000 ∧ whole (roundA (x : Int) (u : Int) (b : Int)) b = some V) ∨ whole (roundA (x : Int) (u : Int) (b : Int)) b = none) := by
  obtain ⟨y, v, k, e1, e2, e3, h1, hv, h3, h4, h5, h6⟩ := overB_nat h
  obtain rfl : x = y := by omega
  obtain rfl : u = v := by omega
  obtain rfl : b = k := by omega
  obtain ⟨hper, _, _⟩ := periodN_per (b := b) (u := u) (by omega) h5
  refine ⟨valF b 0 (roundD b u x (periodN b u)), round_whole hper h1, ?_⟩
  have hw := whole_row (b := b) (l := roundD b u x (periodN b u)) h3 h4 (by
    intro h0
    have := congrArg List.length h0
    rw [roundD_len] at this
    have := hper.pos
    simp at *; omega) (fun d hd => by
    obtain ⟨j, _, rfl⟩ := List.mem_map.1 hd
    exact digitN_lt (by omega) (by omega))
  rw [roundA_yes h, hw]
  by_cases hs : valF b 0 (roundD b u x (periodN b u)) ≤ 1000000000
  · left; exact ⟨hs, by rw [if_pos hs]⟩
  · right; rw [if_neg hs]

end Pl

set_option maxRecDepth 100000 in
set_option maxHeartbeats 4000000 in
theorem FnRoundOf_walk (a0 : Option Addr) (len0 cap0 : Nat) (z0 : List Int) (w : World) (w0 : IsRow .u8 w a0 len0 cap0 z0) :
    Calls Try.prog 5 #[.slice a0 len0 cap0] w fun e w' => e = .returned (.bool true) ∧ Below w.heap.size w w' := by
  by_cases hl : 1048576 < len0
  · go_enter Try.func5, Try.ntmps5
    go_wp2
    go_ret
    exact ⟨rfl, Below.refl _ _⟩
  · go_enter Try.func5, Try.ntmps5
    go_wp2_with fail
    refine (drawRoundOf _ _ _ _ _ w0).mono ?_
    rintro e w1 ⟨n, u, b, rfl, ⟨n1, n2⟩, ⟨m1, m2⟩, ⟨b1, b2⟩, hb1⟩
    clear w0 hl
    have HI := Lib.hid (implRoundI n u b)
    have HS := Lib.hid (specRoundOf n u b)
    by_cases hok : Pl.overB n u b = true
    · have hok' := hok
      obtain ⟨x, v, k, rfl, rfl, rfl, h1, hv, h3, h4, h5, h6⟩ := Pl.overB_nat hok
      have hlen := Pl.round_len hok'
      obtain ⟨hper, hple, _⟩ := Pl.periodN_per (b := k) (u := v) (by omega) h5
      have hp1 := hper.pos
      have HG : Hid (∀ j, j < Pl.periodN k v → (Pl.roundA (x : Int) (v : Int) (k : Int))[j]?.getD 0 = ((Pl.digitN k v x j : Nat) : Int)) := Lib.hid fun j hj => Pl.round_dig hok' hj
      have HDL : Hid (∀ j, Pl.digitN k v x j < k) := Lib.hid fun j => Pl.digitN_lt (by omega) (by omega)
      have HPER := Lib.hid (Pl.periodI_yes h6)
      obtain ⟨V, hV, hW⟩ := Pl.round_tells hok'
      have HV := Lib.hid hV
      have HW := Lib.hid hW
      clear hok hok' h5 h6 hper hV hW
      generalize Pl.periodN k v = p at *
      generalize Pl.roundA (x : Int) (v : Int) (k : Int) = E at *
      generalize hdig : (fun j => Pl.digitN k v x j) = dg at *
      have HG2 : Hid (∀ j, j < p → E[j]?.getD 0 = ((dg j : Nat) : Int)) := Lib.hid fun j hj => by rw [← hdig]; exact HG.out j hj
      have HD2 : Hid (∀ j, dg j < k) := Lib.hid fun j => by rw [← hdig]; exact HDL.out j
      clear HG HDL hdig
      have HMS : Hid (∀ K, min (min (k ^ K) 100000000 * k) 100000000 = min (k ^ (K + 1)) 100000000) := Lib.hid fun K => Pl.min_step (by omega) K
      have HM0 : Hid (min (k ^ 0) 100000000 = 1) := Lib.hid (by rw [Nat.pow_zero]; rfl)
      have HMP : Hid (∀ K, 1 ≤ min (k ^ K) 100000000 ∧ min (k ^ K) 100000000 ≤ 100000000 ∧ (min (k ^ K) 100000000 ≠ 100000000 → min (k ^ K) 100000000 = k ^ K)) := Lib.hid fun K => by
        have : 1 ≤ k ^ K := Nat.pow_pos (by omega)
        refine ⟨by omega, by omega, fun h => by omega⟩
      go_wp2_with fail
      refine (HI.out _).mono ?_
      rintro e w2 ⟨vv, rfl, hvv, hb2⟩
      go_wp2_with fail
      refine (HS.out _).mono ?_
      rintro e w3 ⟨uu, rfl, hu, hb3⟩
      have hv3 := hvv.below hb3
      go_wp2_with fail
      refine (sameInts _ _ E E w3 hv3 (Row.ints hu) (by omega)).mono ?_
      rintro e w4 ⟨rfl, hb4⟩
      rw [show eqL E E = true by simp [eqL]]
      have hv4 := hv3.below hb4
      have c2 := hb1.trans (hb2.mono hb1.size)
      have c3 := c2.trans (hb3.mono c2.size)
      have c4 : Below w.heap.size w w4 := c3.trans (hb4.mono c3.size)
      have HVI := Lib.hid hv4
      obtain ⟨a', cap', rfl, ha⟩ := hv4
      rw [hlen] at ha HVI ⊢
      have HA := Lib.hid ha
      have hp0 : ((p : Int) == 0) = false := by rw [beq_eq_false_iff_ne]; omega
      have hE30 : E.length ≤ 1000000000 := by omega
      have HE30 := Lib.hid hE30
      have HLEN := Lib.hid hlen
      clear hb1 hb2 hb3 hb4 hvv hv3 hu c2 c3 ha HI HS hE30 hlen
      go_wp2_with fail
      go_loop [7, 8] (fun pv kv => ∃ K : Nat, K ≤ p ∧ kv = .int .i64 K ∧ pv = .int .i64 ((min (k ^ K) 100000000 : Nat) : Int)) (fun _ kv => p - (intOf kv).toNat)
      case atStart => exact ⟨0, by omega, rfl, by rw [HM0.out]; rfl⟩
      case round =>
        obtain ⟨K, hK, rfl, rfl⟩ := hrel
        have hms := HMS.out K
        obtain ⟨m1, m2, m3⟩ := HMP.out K
        by_cases hlt : K < p
        · have i1 : (K : Int) < (p : Int) := by omega
          obtain ⟨bb, off, rfl, hc⟩ := HA.out K hlt
          rw [HG2.out K hlt] at hc
          have hd := HD2.out K
          generalize hDK : dg K = D at *
          clear hDK m3
          have HMS1 := Lib.hid hms
          clear hms
          generalize min (k ^ K) 100000000 = M at *
          have hMk : M * k ≤ 100000000 * 16 := Nat.mul_le_mul m2 h4
          have e6 : IntKind.i64.wrap ((M : Int) * (k : Int)) = ((M * k : Nat) : Int) := by rw [← Int.natCast_mul]; exact IntWalk.i64_in _ (by omega)
          have d1 : ¬ (D : Int) < 0 := by omega
          have d2 : ¬ (k : Int) ≤ (D : Int) := by omega
          generalize M * k = X at *
          by_cases hX : X ≤ 100000000
          · have x1 : ¬ (100000000 : Int) < (X : Int) := by omega
            have HXM : Hid (X = min (k ^ (K + 1)) 100000000) := Lib.hid (by rw [← HMS1.out, Nat.min_eq_left hX])
            clear HMS1
            go_wp2_with fail
            all_goals
              go_round
              case rel => exact ⟨K + 1, by omega, by go_num, by rw [← HXM.out]⟩
              case measure => simp [intOf]; omega
          · have x1 : (100000000 : Int) < (X : Int) := by omega
            have HXM : Hid (100000000 = min (k ^ (K + 1)) 100000000) := Lib.hid (by rw [← HMS1.out, Nat.min_eq_right (by omega)])
            clear HMS1
            go_wp2_with fail
            all_goals
              go_round
              case rel => exact ⟨K + 1, by omega, by go_num, by rw [← HXM.out]; rfl⟩
              case measure => simp [intOf]; omega
        · obtain rfl : K = p := by omega
          have i1 : ¬ (K : Int) < (K : Int) := by omega
          have HM3 := Lib.hid m3
          clear hms m3
          have HIW : Hid (∀ W, Below w4.heap.size w4 W → Calls Try.prog 27 #[.slice a' K cap', .int .i64 (k : Int)] W fun e w' => e = .returned (.tuple #[.int .i64 (Pl.wV (Pl.whole E k)), .bool (Pl.wB (Pl.whole E k))]) ∧ W = w') := Lib.hid fun W hW => implWholeOf _ E (k : Int) W (HVI.out.below hW) HE30.out
          go_wp2_with fail
          refine (HIW.out _ (Below.refl _ _)).mono ?_
          rintro e w5 ⟨rfl, rfl⟩
          have hvx := HV.out
          rcases HW.out with ⟨hV9, hWs⟩ | hWn
          · rw [hWs]
            simp only [Pl.wV, Pl.wB]
            by_cases hM : min (k ^ K) 100000000 = 100000000
            · have t1 : (((min (k ^ K) 100000000 : Nat) : Int) == 100000000) = true := by rw [hM]; rfl
              clear hM hvx HM3
              generalize min (k ^ K) 100000000 = M at *
              go_wp2_with fail
              refine (implPeriodOf _ _ _).mono ?_
              rintro e w6 ⟨rfl, hb6⟩
              rw [HPER.out]
              go_wp2
              go_ret
              exact ⟨rfl, c4.trans (hb6.mono c4.size)⟩
            · have t1 : (((min (k ^ K) 100000000 : Nat) : Int) == 100000000) = false := by rw [beq_eq_false_iff_ne]; omega
              have hMk := HM3.out hM
              rw [← hMk] at hvx
              have hVv : V * v ≤ 1000000000 * 200 := Nat.mul_le_mul hV9 hv
              clear hM hMk HM3
              generalize min (k ^ K) 100000000 = M at *
              have hxM : x * (M - 1) ≤ 200 * 100000000 := Nat.mul_le_mul (by omega) (by omega)
              have e1 : IntKind.i64.wrap ((V : Int) * (v : Int)) = ((V * v : Nat) : Int) := by rw [← Int.natCast_mul]; exact IntWalk.i64_in _ (by omega)
              have e2 : (M : Int) - 1 = ((M - 1 : Nat) : Int) := by omega
              have e3 : IntKind.i64.wrap ((x : Int) * ((M : Int) - 1)) = ((V * v : Nat) : Int) := by rw [e2, ← Int.natCast_mul, ← hvx]; exact IntWalk.i64_in _ (by omega)
              clear e2 hvx hxM
              generalize V * v = Y at *
              go_wp2_with fail
              refine (implPeriodOf _ _ _).mono ?_
              rintro e w6 ⟨rfl, hb6⟩
              rw [HPER.out]
              go_wp2
              go_ret
              exact ⟨rfl, c4.trans (hb6.mono c4.size)⟩
          · rw [hWn]
            simp only [Pl.wV, Pl.wB]
            clear hvx HM3
            by_cases hM : min (k ^ K) 100000000 = 100000000
            · have t1 : (((min (k ^ K) 100000000 : Nat) : Int) == 100000000) = true := by rw [hM]; rfl
              clear hM
              generalize min (k ^ K) 100000000 = M at *
              go_wp2_with fail
              refine (implPeriodOf _ _ _).mono ?_
              rintro e w6 ⟨rfl, hb6⟩
              rw [HPER.out]
              go_wp2
              go_ret
              exact ⟨rfl, c4.trans (hb6.mono c4.size)⟩
            · have t1 : (((min (k ^ K) 100000000 : Nat) : Int) == 100000000) = false := by rw [beq_eq_false_iff_ne]; omega
              clear hM
              generalize min (k ^ K) 100000000 = M at *
              go_wp2_with fail
              refine (implPeriodOf _ _ _).mono ?_
              rintro e w6 ⟨rfl, hb6⟩
              rw [HPER.out]
              go_wp2
              go_ret
              exact ⟨rfl, c4.trans (hb6.mono c4.size)⟩
    · have hE : Pl.roundA n u b = [] := Pl.roundA_no hok
      rw [hE] at HI HS
      clear hok hE
      go_wp2_with fail
      refine (HI.out _).mono ?_
      rintro e w2 ⟨v, rfl, hv, hb2⟩
      go_wp2_with fail
      refine (HS.out _).mono ?_
      rintro e w3 ⟨u, rfl, hu, hb3⟩
      go_wp2_with fail
      refine (sameInts _ _ [] [] w3 (hv.below hb3) (Row.ints hu) (by simp)).mono ?_
      rintro e w4 ⟨rfl, hb4⟩
      rw [show eqL [] [] = true by simp [eqL]]
      obtain ⟨a', cap', rfl, _⟩ := hv
      have c2 := hb1.trans (hb2.mono hb1.size)
      have c3 := c2.trans (hb3.mono c2.size)
      go_wp2_with (go_at_call 19; refine (alive _).mono ?_; rintro e w' ⟨rfl, rfl⟩)
      go_ret
      exact ⟨rfl, c3.trans (hb4.mono c3.size)⟩

set_option maxRecDepth 100000 in
set_option maxHeartbeats 4000000 in
theorem FnBegunAt_walk (a0 : Option Addr) (len0 cap0 : Nat) (z0 : List Int) (w : World) (w0 : IsRow .u8 w a0 len0 cap0 z0) :
    Calls Try.prog 8 #[.slice a0 len0 cap0] w fun e w' => e = .returned (.bool true) ∧ Below w.heap.size w w' := by
  by_cases hl : 1048576 < len0
  · go_enter Try.func8, Try.ntmps8
    go_wp2
    go_ret
    exact ⟨rfl, Below.refl _ _⟩
  · go_enter Try.func8, Try.ntmps8
    go_wp2_with fail
    refine (drawBegunAt _ _ _ _ _ w0).mono ?_
    rintro e w1 ⟨n, u, b, rfl, ⟨n1, n2⟩, ⟨m1, m2⟩, ⟨b1, b2⟩, hb1⟩
    clear w0 hl
    have HI := Lib.hid (implBegunAt n u b)
    have HS := Lib.hid (specBegunAt n u b)
    cases hO : Pl.begunO n u b with
    | none =>
      rw [hO] at HI HS
      clear hO
      go_wp2_with fail
      refine (HI.out _).mono ?_
      rintro e w2 ⟨rfl, hb2⟩
      go_wp2_with fail
      refine (HS.out _).mono ?_
      rintro e w3 ⟨rfl, rfl⟩
      simp only [Pl.wV, Pl.wB]
      go_wp2_with (go_at_call 19; refine (alive _).mono ?_; rintro e w' ⟨rfl, rfl⟩)
      go_ret
      exact ⟨rfl, hb1.trans (hb2.mono hb1.size)⟩
    | some A =>
      rw [hO] at HI HS
      have hov : Pl.overB n u b = true ∧ 2 ≤ u := Classical.byContradiction fun hno => by
        rw [Pl.begunO_no hno] at hO; cases hO
      have hovb := hov.1
      obtain ⟨x, v, k, rfl, rfl, rfl, h1, hv, h3, h4, h5, h6⟩ := Pl.overB_nat hov.1
      have hv2 : 2 ≤ v := by have := hov.2; omega
      obtain ⟨_, hA, hAx, _⟩ := Pl.begunO_some hO
      obtain ⟨hper, hple, _⟩ := Pl.periodN_per (b := k) (u := v) (by omega) h5
      have hone := Pl.over_one h6 hv2
      have hlen := Pl.round_len hovb
      have hlen1' := Pl.round_len (x := 1) hone
      have hlen1 : (Pl.roundA 1 (v : Int) (k : Int)).length = Pl.periodN k v := hlen1'
      have HPER := Lib.hid (Pl.periodI_yes h6)
      have hp1 := hper.pos
      have HD : Hid (∀ j, j < Pl.periodN k v → ∃ d : Nat, (Pl.roundA (x : Int) (v : Int) (k : Int))[j]?.getD 0 = (d : Int) ∧ (Pl.roundA 1 (v : Int) (k : Int))[(A + j) % Pl.periodN k v]?.getD 0 = (d : Int)) := Lib.hid fun j hj => by
        refine ⟨Pl.digitN k v x j, Pl.round_dig hovb hj, ?_⟩
        rw [Pl.round_one_get hone (Nat.mod_lt _ (by omega)), Pl.begun_digit hper hAx, Nat.mod_eq_of_lt (show 1 < v by omega)]
      have HRI := Lib.hid (implRoundI (x : Int) (v : Int) (k : Int))
      have HRS := Lib.hid (specRoundOf 1 (v : Int) (k : Int))
      have e1 : (1 : Int).tmod (v : Int) = 1 := by
        rw [show (1 : Int).tmod (v : Int) = ((1 % v : Nat) : Int) from rfl, Nat.mod_eq_of_lt (by omega)]; rfl
      have hv0 : ((v : Int) == 0) = false := by rw [beq_eq_false_iff_ne]; omega
      clear hO hov hovb h5 h6 hAx hper hone hlen1'
      generalize Pl.periodN k v = p at *
      generalize Pl.roundA (x : Int) (v : Int) (k : Int) = E at *
      generalize Pl.roundA 1 (v : Int) (k : Int) = F at *
      have HL := Lib.hid hlen
      have HL1 := Lib.hid hlen1
      clear hlen hlen1
      go_wp2_with fail
      refine (HI.out _).mono ?_
      rintro e w2 ⟨rfl, hb2⟩
      go_wp2_with fail
      refine (HS.out _).mono ?_
      rintro e w3 ⟨rfl, rfl⟩
      simp only [Pl.wV, Pl.wB]
      have c2 : Below w.heap.size w w2 := hb1.trans (hb2.mono hb1.size)
      clear hb1 hb2 HI HS
      go_wp2_with fail
      refine (HRS.out _).mono ?_
      rintro e w4 ⟨ov, rfl, hr4, hb4⟩
      obtain ⟨g, gc, rfl, hg, hgl, _, _, hcg⟩ := hr4.lies (by rw [HL1.out]; exact hp1)
      go_wp2_with fail
      refine (HRI.out _).mono ?_
      rintro e w5 ⟨lv, rfl, hv5, hb5⟩
      have c4 := c2.trans (hb4.mono c2.size)
      have c5 : Below w.heap.size w w5 := c4.trans (hb5.mono c4.size)
      obtain ⟨a', cap', rfl, ha⟩ := hv5
      rw [HL1.out] at hcg ⊢
      rw [HL.out] at ha ⊢
      have HCG : Hid (∀ j, j < p → w5.cell? ⟨g, j, none⟩ = some (.int .i64 (F[j]?.getD 0))) := Lib.hid fun j hj => (hb5.cell (p := ⟨g, j, none⟩) hgl).trans (hcg j hj)
      have HA := Lib.hid ha
      have hgl5 : g < w5.heap.size := Nat.lt_of_lt_of_le hgl hb5.size
      have hAp : ¬ (p : Int) ≤ (A : Int) := by omega
      have hApn : ¬ p ≤ A := by omega
      have hApd : decide (p ≤ A) = false := decide_eq_false hApn
      have hpp : ((p : Int) != (p : Int)) = false := by simp
      clear hr4 hb4 hcg hb5 ha c2 c4 HRS HRI hgl hg
      go_wp2_with fail
      go_loopw [2, 12] (fun _ kv wr => ∃ K : Nat, K ≤ p ∧ kv = .int .i64 K ∧ Below w5.heap.size w5 wr) (fun _ kv _ => p - (intOf kv).toNat)
      case atStart => exact ⟨0, by omega, rfl, Below.refl _ _⟩
      case round =>
        obtain ⟨K, hK, rfl, hbw⟩ := hrel
        by_cases hlt : K < p
        · have i1 : (K : Int) < (p : Int) := by omega
          obtain ⟨Q, q1, q2⟩ := HD.out K hlt
          obtain ⟨bb, off, rfl, hc0⟩ := HA.out K hlt
          have hcQ := HCG.out ((A + K) % p) (Nat.mod_lt _ (by omega))
          rw [q2] at hcQ
          rw [q1] at hc0
          have hbl := World.block_lt_of_cell? _ _ hc0
          have dP := (hbw.cell (p := ⟨bb, off + K, none⟩) hbl).trans hc0
          have dQ := (hbw.cell (p := ⟨g, (A + K) % p, none⟩) hgl5).trans hcQ
          have hA1 : 0 ≤ ((A : Int) + (K : Int)) % (p : Int) := Int.emod_nonneg _ (by omega)
          have hA2 : ((A : Int) + (K : Int)) % (p : Int) < (p : Int) := Int.emod_lt_of_pos _ (by omega)
          have hAB : (0 ≤ ((A : Int) + (K : Int)) % (p : Int) ∧ ((A : Int) + (K : Int)) % (p : Int) < (p : Int)) = True := by simp [hA1, hA2]
          have hw1 : IntKind.i64.wrap ((A : Int) + (K : Int)) = (A : Int) + (K : Int) := IntWalk.i64_in _ (by omega)
          have hi4 : 0 ≤ (A : Int) + (K : Int) := by omega
          have hQQ : ((Q : Int) != (Q : Int)) = false := by simp
          have hp0 : ¬ p = 0 := by omega
          have hp0' : ¬ (p : Int) = 0 := by omega
          have hblr : bb < wr.heap.size := Nat.lt_of_lt_of_le hbl hbw.size
          have hglr : g < wr.heap.size := Nat.lt_of_lt_of_le hgl5 hbw.size
          clear hcQ hc0 q1 q2 hA1 hA2
          go_wp2_with fail
          refine wp_region_calm mixed (by kernel_rfl) ?_
          repeat (first
            | go_big_quiet_skip
            | (go_big_quiet_want
               first
                 | (go_big_quiet_op; go_big_quiet_on)
                 | (apply Exists.intro
                    refine ⟨fun W hW => ?_, ?_⟩
                    · have hcW1 := (hW.cell (p := ⟨bb, off + K, none⟩) hblr).trans dP
                      have hcW2 := (hW.cell (p := ⟨g, (A + K) % p, none⟩) hglr).trans dQ
                      go_simp
                      first | done | exact rfl
                    simp only [Act.put, List.setIfInBounds_toArray, List.set_cons_zero, List.set_cons_succ]
                    go_big_quiet_on)
                 | (go_big_quiet_op
                    simp only [hAB, if_true]
                    apply Exists.intro
                    refine ⟨fun W hW => ⟨trivial, rfl⟩, ?_⟩
                    go_big_quiet_on)))
          refine wpQuiet_nil ?_
          intro W hW
          go_wp2_with fail
          go_roundw
          case rel => exact ⟨K + 1, by omega, by simp, hbw.trans (hW.mono hbw.size)⟩
          case measure => simp [intOf]; omega
        · obtain rfl : K = p := by omega
          have i1 : ¬ (K : Int) < (K : Int) := by omega
          have i2 : (A : Int) < (K : Int) := by omega
          have c6 : Below w.heap.size w wr := c5.trans (hbw.mono c5.size)
          go_wp2_with fail
          refine (implPeriodOf _ _ _).mono ?_
          rintro e w8 ⟨rfl, hb8⟩
          rw [HPER.out]
          go_wp2
          go_ret
          exact ⟨rfl, c6.trans (hb8.mono c6.size)⟩

end Go.Proofs.Ytnogcoijlnnbdaa
