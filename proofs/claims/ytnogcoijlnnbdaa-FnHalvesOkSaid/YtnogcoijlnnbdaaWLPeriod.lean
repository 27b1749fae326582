/-
  The walks of the laws of UnderOk, PeriodOf, FullOk and HalvesOk.
-/
import Derived.Test.YtnogcoijlnnbdaaDraws9
import Derived.Test.YtnogcoijlnnbdaaSpecHalves
import Derived.Test.YtnogcoijlnnbdaaPeriod
namespace Go.Proofs.Ytnogcoijlnnbdaa
open Go.RowKit

theorem Pl.under_facts {k : Nat} (h1 : 2 ≤ k) (h2 : k ≤ 16) : Pl.underB 1 k = true ∧ Pl.underB ((k : Int) + 1) k = true ∧ Pl.underB k k = false := by
  refine ⟨(Pl.underB_iff 1 k).2 ⟨by omega, by omega, Nat.coprime_one_left k⟩, (Pl.underB_iff (k + 1) k).2 ⟨by omega, by omega, ?_⟩, ?_⟩
  · have hall : ∀ j, j < 17 → Nat.gcd (j + 1) j = 1 := by decide
    exact hall k (by omega)
  · rw [← Bool.not_eq_true, Pl.underB_iff]
    rintro ⟨_, _, h⟩
    have : Nat.gcd k k = 1 := h
    rw [Nat.gcd_self] at this; omega

set_option maxRecDepth 100000 in
set_option maxHeartbeats 2000000 in
theorem FnUnderOk_walk (a0 : Option Addr) (len0 cap0 : Nat) (z0 : List Int) (w : World) (w0 : IsRow .u8 w a0 len0 cap0 z0) :
    Calls Try.prog 3 #[.slice a0 len0 cap0] w fun e w' => e = .returned (.bool true) ∧ Below w.heap.size w w' := by
  by_cases hl : 1048576 < len0
  · go_enter Try.func3, Try.ntmps3
    go_wp2
    go_ret
    exact ⟨rfl, Below.refl _ _⟩
  · go_enter Try.func3, Try.ntmps3
    go_wp2_with fail
    refine (drawUnderOk _ _ _ _ _ w0).mono ?_
    rintro e w1 ⟨u, b, rfl, ⟨n1, n2⟩, ⟨b1, b2⟩, hb1⟩
    clear w0 hl
    have HI := Lib.hid (implUnderOk u b)
    have HS := Lib.hid (specUnderOk u b)
    by_cases hB : Pl.baseB b = true
    · obtain ⟨k, rfl, k1, k2⟩ := baseB_nat hB
      obtain ⟨f1, f2, f3⟩ := Pl.under_facts k1 k2
      have F1 := Lib.hid f1
      have F2 := Lib.hid f2
      have F3 := Lib.hid f3
      clear f1 f2 f3
      generalize Pl.underB u (k : Int) = U at *
      cases U
      all_goals
        go_wp2_with fail
        refine (HI.out _).mono ?_
        rintro e w2 ⟨rfl, hb2⟩
        go_wp2_with fail
        refine (HS.out _).mono ?_
        rintro e w3 ⟨rfl, rfl⟩
        go_wp2_with (go_at_call 18; refine (specBaseOk _ _).mono ?_; rintro e w' ⟨rfl, rfl⟩; rw [hB])
        refine (implUnderOk _ _ _).mono ?_
        rintro e w4 ⟨rfl, hb4⟩
        rw [F1.out]
        go_wp2_with fail
        refine (implUnderOk _ _ _).mono ?_
        rintro e w5 ⟨rfl, hb5⟩
        rw [F2.out]
        have c2 := hb1.trans (hb2.mono hb1.size)
        have c4 := c2.trans (hb4.mono c2.size)
        have c5 : Below w.heap.size w w5 := c4.trans (hb5.mono c4.size)
        go_wp2_with fail
        refine (implUnderOk _ _ _).mono ?_
        rintro e w6 ⟨rfl, hb6⟩
        rw [F3.out]
        go_wp2_with (go_at_call 19; refine (alive _).mono ?_; rintro e w' ⟨rfl, rfl⟩)
        go_ret
        exact ⟨rfl, c5.trans (hb6.mono c5.size)⟩
    · have hB' : Pl.baseB b = false := by simpa using hB
      have hU : Pl.underB u b = false := by simp [Pl.underB, hB']
      rw [hU] at HI HS
      clear hB hU
      go_wp2_with fail
      refine (HI.out _).mono ?_
      rintro e w2 ⟨rfl, hb2⟩
      go_wp2_with fail
      refine (HS.out _).mono ?_
      rintro e w3 ⟨rfl, rfl⟩
      go_wp2_with (first | (go_at_call 18; refine (specBaseOk _ _).mono ?_; rintro e w' ⟨rfl, rfl⟩; rw [hB']) | (go_at_call 19; refine (alive _).mono ?_; rintro e w' ⟨rfl, rfl⟩))
      go_ret
      exact ⟨rfl, hb1.trans (hb2.mono hb1.size)⟩

set_option maxRecDepth 100000 in
set_option maxHeartbeats 2000000 in
theorem FnPeriodOf_walk (a0 : Option Addr) (len0 cap0 : Nat) (z0 : List Int) (w : World) (w0 : IsRow .u8 w a0 len0 cap0 z0) :
    Calls Try.prog 4 #[.slice a0 len0 cap0] w fun e w' => e = .returned (.bool true) ∧ Below w.heap.size w w' := by
  by_cases hl : 1048576 < len0
  · go_enter Try.func4, Try.ntmps4
    go_wp2
    go_ret
    exact ⟨rfl, Below.refl _ _⟩
  · go_enter Try.func4, Try.ntmps4
    go_wp2_with fail
    refine (drawPeriodOf _ _ _ _ _ w0).mono ?_
    rintro e w1 ⟨u, b, rfl, ⟨n1, n2⟩, ⟨b1, b2⟩, hb1⟩
    clear w0 hl
    have HI := Lib.hid (implPeriodOf u b)
    have HS := Lib.hid (specPeriodOf u b)
    by_cases hU : Pl.underB u b = true
    · have hU' := hU
      obtain ⟨v, k, rfl, rfl, h1, h2, h3, h4, h5⟩ := Pl.underB_nat hU
      rw [Pl.periodI_yes hU'] at HI HS
      obtain ⟨hper, hple, hple2⟩ := Pl.periodN_per h1 h5
      have HBACK := Lib.hid hper.back
      have HLEAST := Lib.hid hper.least
      have hp1 := hper.pos
      have hv0 : ((v : Int) == 0) = false := by rw [beq_eq_false_iff_ne]; omega
      have HST : Hid (∀ n, k ^ n % v * k % v = k ^ (n + 1) % v ∧ k ^ n % v < v) := Lib.hid fun n => ⟨by rw [Nat.pow_succ, Nat.mul_mod, Nat.mul_mod (k ^ n) k, Nat.mod_mod], Nat.mod_lt _ (by omega)⟩
      have e1 : (1 : Int).tmod (v : Int) = ((1 % v : Nat) : Int) := rfl
      have e1' : (1 : Int) % (v : Int) = ((1 % v : Nat) : Int) := rfl
      have H1 : Hid (k ^ 0 % v = 1 % v) := Lib.hid (by rw [Nat.pow_zero])
      clear hU hU' h5 hper
      generalize Pl.periodN k v = p at *
      generalize 1 % v = ONE at *
      have hend : v = 1 ∨ (¬ v = 1 ∧ p ≤ v - 1) := by
        by_cases h : v = 1
        · exact .inl h
        · exact .inr ⟨h, hple2 (by omega)⟩
      clear hple2
      go_wp2_with fail
      refine (HI.out _).mono ?_
      rintro e w2 ⟨rfl, hb2⟩
      go_wp2_with fail
      refine (HS.out _).mono ?_
      rintro e w3 ⟨rfl, rfl⟩
      have c2 : Below w.heap.size w w2 := hb1.trans (hb2.mono hb1.size)
      clear hb1 hb2 HI HS
      go_wp2_with fail
      go_loop [6, 7] (fun qv kv => ∃ K : Nat, K ≤ p ∧ kv = .int .i64 ((K : Int) + 1) ∧ qv = .int .i64 ((k ^ K % v : Nat) : Int)) (fun _ kv => p + 1 - (intOf kv).toNat)
      case atStart => exact ⟨0, by omega, rfl, by rw [H1.out]⟩
      case round =>
        clear H1
        obtain ⟨K, hK, rfl, rfl⟩ := hrel
        obtain ⟨s1, s2⟩ := HST.out K
        by_cases hlt : K < p
        · have i1 : (K : Int) + 1 ≤ (p : Int) := by omega
          have i2 : (K : Int) + 1 ≤ 200 := by omega
          have HLK := Lib.hid (fun h => HLEAST.out (K + 1) (by omega) h)
          have HBK : Hid (K + 1 = p → k ^ (K + 1) % v = ONE) := Lib.hid fun h => by rw [h]; exact HBACK.out
          rw [← s1] at HLK HBK
          have HS1 := Lib.hid s1
          clear s1
          generalize k ^ K % v = Q at *
          have hQk : Q * k ≤ 200 * 16 := Nat.mul_le_mul (by omega) h4
          have e3 : IntKind.i64.wrap ((Q : Int) * (k : Int)) = ((Q * k : Nat) : Int) := by rw [← Int.natCast_mul]; exact IntWalk.i64_in _ (by omega)
          have e4 := tmod_nat (Q * k) v
          have hr : Q * k % v < v := Nat.mod_lt _ (by omega)
          generalize Q * k % v = R at *
          generalize Q * k = X at *
          by_cases hKp : K + 1 = p
          · have hR := HBK.out hKp
            have t1 : ((R : Int) == (ONE : Int)) = true := by rw [hR]; simp
            have t2 : ((K : Int) + 1 == (p : Int)) = true := by rw [beq_iff_eq]; omega
            clear hR hKp
            go_wp2_with fail
            go_round
            case rel => exact ⟨K + 1, by omega, by go_num, by rw [← HS1.out]⟩
            case measure => simp [intOf]; omega
          · have hR := HLK.out (by omega)
            have t1 : ((R : Int) == (ONE : Int)) = false := by rw [beq_eq_false_iff_ne]; exact fun h => hR (by exact_mod_cast h)
            have t2 : ((K : Int) + 1 == (p : Int)) = false := by rw [beq_eq_false_iff_ne]; omega
            clear hR hKp
            go_wp2_with fail
            go_round
            case rel => exact ⟨K + 1, by omega, by go_num, by rw [← HS1.out]⟩
            case measure => simp [intOf]; omega
        · obtain rfl : K = p := by omega
          have i1 : ¬ (K : Int) + 1 ≤ (K : Int) := by omega
          have i3 : (1 : Int) ≤ (K : Int) := by omega
          clear s1 s2
          generalize k ^ K % v = Q at *
          rcases hend with h | ⟨h, h'⟩
          · have t1 : ((v : Int) == 1) = true := by rw [h]; rfl
            go_wp2_with fail
            go_ret
            exact ⟨rfl, c2⟩
          · have t1 : ((v : Int) == 1) = false := by rw [beq_eq_false_iff_ne]; omega
            have t2 : (K : Int) ≤ (v : Int) - 1 := by omega
            go_wp2_with fail
            go_ret
            exact ⟨rfl, c2⟩
    · rw [Pl.periodI_no hU] at HI HS
      have hU' : Hid (Pl.underB u b = false) := Lib.hid (by simpa using hU)
      clear hU
      go_wp2_with fail
      refine (HI.out _).mono ?_
      rintro e w2 ⟨rfl, hb2⟩
      go_wp2_with fail
      refine (HS.out _).mono ?_
      rintro e w3 ⟨rfl, rfl⟩
      have c2 : Below w.heap.size w w2 := hb1.trans (hb2.mono hb1.size)
      go_wp2_with (first | (go_at_call 16; refine (implUnderOk _ _ _).mono ?_; rintro e w4 ⟨rfl, hb4⟩; rw [hU'.out]) | (go_at_call 19; refine (alive _).mono ?_; rintro e w' ⟨rfl, rfl⟩))
      go_ret
      exact ⟨rfl, c2.trans (hb4.mono c2.size)⟩

theorem Pl.full_facts {u b : Int} (h : Pl.fullB u b = true) : ∃ v k : Nat, u = (v : Int) ∧ b = (k : Int) ∧ 3 ≤ v ∧ v ≤ 200 ∧ 2 ≤ k ∧ k ≤ 16 ∧ Pl.TrialPrime v ∧ ∀ x : Nat, 1 ≤ x → x < v → ∃ at' : Nat, Pl.begunO x v k = some at' := by
  simp only [Pl.fullB, Bool.and_eq_true, decide_eq_true_eq] at h
  obtain ⟨h1, h2⟩ := h
  have hU : Pl.underB u b = true := Classical.byContradiction fun hno => by
    rw [Pl.periodI_no hno] at h2; omega
  have hU' := hU
  obtain ⟨v, k, rfl, rfl, g1, g2, g3, g4, g5⟩ := Pl.underB_nat hU
  obtain ⟨hper, _, _⟩ := Pl.periodN_per g1 g5
  rw [Pl.periodI_yes hU'] at h2
  have hp : Pl.periodN k v = v - 1 := by omega
  rw [hp] at hper
  refine ⟨v, k, rfl, rfl, by omega, g2, g3, g4, Pl.full_prime (by omega) g5 hper, fun x hx1 hx2 => ?_⟩
  obtain ⟨j, hj1, hj2⟩ := Pl.full_all (by omega) g5 hper hx1 hx2
  cases hO : Pl.begunO x v k with
  | some a => exact ⟨a, rfl⟩
  | none =>
    have hov : Pl.overB x v k = true := by rw [Pl.overB, hU']; simp; omega
    exact absurd hj2 (Pl.begunO_none hO ⟨hov, by omega⟩ j (by omega))

set_option maxRecDepth 100000 in
set_option maxHeartbeats 2000000 in
theorem FnFullOk_walk (a0 : Option Addr) (len0 cap0 : Nat) (z0 : List Int) (w : World) (w0 : IsRow .u8 w a0 len0 cap0 z0) :
    Calls Try.prog 7 #[.slice a0 len0 cap0] w fun e w' => e = .returned (.bool true) ∧ Below w.heap.size w w' := by
  by_cases hl : 1048576 < len0
  · go_enter Try.func7, Try.ntmps7
    go_wp2
    go_ret
    exact ⟨rfl, Below.refl _ _⟩
  · go_enter Try.func7, Try.ntmps7
    go_wp2_with fail
    refine (drawFullOk _ _ _ _ _ w0).mono ?_
    rintro e w1 ⟨u, b, rfl, ⟨n1, n2⟩, ⟨b1, b2⟩, hb1⟩
    clear w0 hl
    have HI := Lib.hid (implFullOk u b (by omega))
    have HS := Lib.hid (specFullOk u b (by omega))
    by_cases hF : Pl.fullB u b = true
    · rw [hF] at HI HS
      obtain ⟨v, k, rfl, rfl, h1, h2, h3, h4, hpr, hbeg⟩ := Pl.full_facts hF
      have HPR := Lib.hid hpr.2
      have HBEG := Lib.hid hbeg
      clear hF hpr hbeg
      go_wp2_with fail
      refine (HI.out _).mono ?_
      rintro e w2 ⟨rfl, hb2⟩
      go_wp2_with fail
      refine (HS.out _).mono ?_
      rintro e w3 ⟨rfl, rfl⟩
      have c2 : Below w.heap.size w w2 := hb1.trans (hb2.mono hb1.size)
      clear hb1 hb2 HI HS
      go_wp2_with fail
      go_loop [6] (fun kv => ∃ K : Nat, 2 ≤ K ∧ K ≤ 201 ∧ kv = .int .i64 K) (fun kv => 201 - (intOf kv).toNat)
      case atStart => exact ⟨2, by omega, by omega, rfl⟩
      case round =>
        obtain ⟨K, hK1, hK2, rfl⟩ := hrel
        have hKK : K * K ≤ 201 * 201 := Nat.mul_le_mul hK2 hK2
        have e3 : IntKind.i64.wrap ((K : Int) * (K : Int)) = ((K * K : Nat) : Int) := by rw [← Int.natCast_mul]; exact IntWalk.i64_in _ (by omega)
        by_cases hlt : K * K ≤ v
        · have hKv : K ≤ v := by
            have : K * 1 ≤ K * K := Nat.mul_le_mul_left K (by omega)
            omega
          have hne := HPR.out K hK1 hlt
          have i1 : ((K * K : Nat) : Int) ≤ (v : Int) := by omega
          have hK0 : ((K : Int) == 0) = false := by rw [beq_eq_false_iff_ne]; omega
          have e4 := tmod_nat v K
          have t1 : (((v % K : Nat) : Int) == 0) = false := by rw [beq_eq_false_iff_ne]; omega
          generalize v % K = R at *
          generalize K * K = KK at *
          clear hne
          go_wp2_with fail
          go_round
          case rel => exact ⟨K + 1, by omega, by omega, by go_num⟩
          case measure => simp [intOf]; omega
        · have i1 : ¬ ((K * K : Nat) : Int) ≤ (v : Int) := by omega
          generalize K * K = KK at *
          go_wp2_with fail
          go_loopw [7, 8, 9] (fun xv _ _ wr => ∃ x : Nat, 1 ≤ x ∧ x ≤ v ∧ xv = .int .i64 x ∧ Below w.heap.size w wr) (fun xv _ _ _ => v - (intOf xv).toNat)
          case atStart => exact ⟨1, by omega, by omega, rfl, c2⟩
          case round =>
            clear c2
            obtain ⟨x, hx1, hx2, rfl, hbw⟩ := hrel
            by_cases hxl : x < v
            · have i2 : (x : Int) < (v : Int) := by omega
              obtain ⟨a, ha⟩ := HBEG.out x hx1 hxl
              have HA := Lib.hid ha
              clear ha
              go_wp2_with fail
              refine (implBegunAt _ _ _ _).mono ?_
              rintro e w5 ⟨rfl, hb5⟩
              rw [HA.out]
              simp only [Pl.wV, Pl.wB]
              go_wp2_with fail
              go_roundw
              case rel => exact ⟨x + 1, by omega, by omega, by go_num, hbw.trans (hb5.mono hbw.size)⟩
              case measure => simp [intOf]; omega
            · obtain rfl : x = v := by omega
              have i2 : ¬ (x : Int) < (x : Int) := by omega
              go_wp2_with fail
              go_ret
              exact ⟨rfl, hbw⟩
    · rw [Bool.eq_false_iff.2 hF] at HI HS
      clear hF
      go_wp2_with fail
      refine (HI.out _).mono ?_
      rintro e w2 ⟨rfl, hb2⟩
      go_wp2_with fail
      refine (HS.out _).mono ?_
      rintro e w3 ⟨rfl, rfl⟩
      go_wp2_with (go_at_call 19; refine (alive _).mono ?_; rintro e w' ⟨rfl, rfl⟩)
      go_ret
      exact ⟨rfl, hb1.trans (hb2.mono hb1.size)⟩

/-- What the law of halves asks: a prime of an even period has halves; halves have an even period. -/
theorem Pl.halves_facts {v k : Nat} (h : Pl.underB v k = true) : (Pl.halvesB v k = true → Pl.periodN k v % 2 = 0) ∧ (Pl.TrialPrime v → Pl.periodN k v % 2 = 0 → Pl.halvesB v k = true) := by
  obtain ⟨h1, h3, h5⟩ := (Pl.underB_iff v k).1 h
  constructor
  · intro hh
    by_cases h2 : 2 ≤ v
    · exact ((Pl.halvesB_iff h h2).1 hh).1
    · rw [Pl.halvesB_no fun hc => by omega] at hh; cases hh
  · intro hp he
    obtain ⟨hper, _, _⟩ := Pl.periodN_per h1.1 h5
    refine (Pl.halvesB_iff h hp.1).2 ⟨he, fun j _ => ?_⟩
    have hh : Pl.periodN k v = 2 * (Pl.periodN k v / 2) := by omega
    rw [hh] at hper
    exact Pl.digit_half (by omega) hp.1 h5 (Pl.half_back hp hper)

theorem Pl.halves_seven : Pl.halvesB 7 10 = true := by decide +kernel

theorem Pl.halves_under {u b : Int} (h : ¬ Pl.underB u b = true) : Pl.halvesB u b = false := Pl.halvesB_no fun hh => h hh.1

set_option maxRecDepth 100000 in
set_option maxHeartbeats 4000000 in
theorem FnHalvesOk_walk (a0 : Option Addr) (len0 cap0 : Nat) (z0 : List Int) (w : World) (w0 : IsRow .u8 w a0 len0 cap0 z0) :
    Calls Try.prog 6 #[.slice a0 len0 cap0] w fun e w' => e = .returned (.bool true) ∧ Below w.heap.size w w' := by
  by_cases hl : 1048576 < len0
  · go_enter Try.func6, Try.ntmps6
    go_wp2
    go_ret
    exact ⟨rfl, Below.refl _ _⟩
  · go_enter Try.func6, Try.ntmps6
    go_wp2_with fail
    refine (drawHalvesOk _ _ _ _ _ w0).mono ?_
    rintro e w1 ⟨u, b, rfl, ⟨n1, n2⟩, ⟨b1, b2⟩, hb1⟩
    clear w0 hl
    obtain ⟨v, rfl⟩ : ∃ v : Nat, u = (v : Int) := ⟨u.toNat, by omega⟩
    have HI := Lib.hid (implHalvesOk (v : Int) b)
    have HS := Lib.hid (specHalvesOk (v : Int) b)
    have HP := Lib.hid (implPeriodOf (v : Int) b)
    have H7 := Lib.hid Pl.halves_seven
    -- what the end asks
    have hend : (Pl.periodI (v : Int) b = -1 ∧ Pl.halvesB (v : Int) b = false) ∨ ∃ p : Nat, Pl.periodI (v : Int) b = (p : Int) ∧ (Pl.halvesB (v : Int) b = true → p % 2 = 0) ∧ (Pl.TrialPrime v → p % 2 = 0 → Pl.halvesB (v : Int) b = true) := by
      by_cases hU : Pl.underB (v : Int) b = true
      · obtain ⟨v', k, hv', rfl, _⟩ := Pl.underB_nat hU
        right
        obtain ⟨f1, f2⟩ := Pl.halves_facts hU
        exact ⟨Pl.periodN k v, Pl.periodI_yes hU, f1, f2⟩
      · exact .inl ⟨Pl.periodI_no hU, Pl.halves_under hU⟩
    have HEND := Lib.hid hend
    have HTP : Hid (Pl.TrialPrime v ↔ 2 ≤ v ∧ ∀ j, 2 ≤ j → j * j ≤ v → v % j ≠ 0) := Lib.hid Iff.rfl
    clear hend
    generalize Pl.TrialPrime v = TP at *
    generalize Pl.halvesB (v : Int) b = HV at *
    generalize Pl.periodI (v : Int) b = PI at *
    have hVV : (HV != HV) = false := by cases HV <;> rfl
    go_wp2_with fail
    refine (HI.out _).mono ?_
    rintro e w2 ⟨rfl, hb2⟩
    go_wp2_with fail
    refine (HS.out _).mono ?_
    rintro e w3 ⟨rfl, hb3⟩
    have c2 := hb1.trans (hb2.mono hb1.size)
    have c3 : Below w.heap.size w w3 := c2.trans (hb3.mono c2.size)
    clear hb1 hb2 hb3 c2 HI HS
    obtain ⟨S0, hS0, hS1⟩ : ∃ S0, decide ((2 : Int) ≤ (v : Int)) = S0 ∧ (S0 = true ↔ 2 ≤ v) := ⟨_, rfl, by rw [decide_eq_true_eq]; omega⟩
    have HS1 := Lib.hid hS1
    clear hS1
    go_wp2_with fail
    go_loop [6, 7] (fun sv kv => ∃ (K : Nat) (s : Bool), 2 ≤ K ∧ K ≤ 401 ∧ kv = .int .i64 K ∧ sv = .bool s ∧ (s = true ↔ 2 ≤ v ∧ ∀ j, 2 ≤ j → j < K → v % j ≠ 0)) (fun _ kv => 401 - (intOf kv).toNat)
    case atStart => exact ⟨2, S0, by omega, by omega, rfl, rfl, by rw [HS1.out]; exact ⟨fun h => ⟨h, fun j hj1 hj2 => by omega⟩, fun h => h.1⟩⟩
    case round =>
      clear HS1 hS0
      obtain ⟨K, s, hK1, hK2, rfl, rfl, hs⟩ := hrel
      have HSS := Lib.hid hs
      clear hs
      have hKK : K * K ≤ 401 * 401 := Nat.mul_le_mul hK2 hK2
      have e3 : IntKind.i64.wrap ((K : Int) * (K : Int)) = ((K * K : Nat) : Int) := by rw [← Int.natCast_mul]; exact IntWalk.i64_in _ (by omega)
      have hKgt : v < K * K → ∀ j, j * j ≤ v → j < K := fun h j hj => Classical.byContradiction fun hno => by
        have : K * K ≤ j * j := Nat.mul_le_mul (by omega) (by omega)
        omega
      have hKle : K * K ≤ v → K < v ∨ K * K = K := fun h => by
        have : K * 2 ≤ K * K := Nat.mul_le_mul_left K hK1
        left; omega
      have HGT := Lib.hid hKgt
      by_cases hlt : K * K ≤ v
      · have hKv : K < v := by
          have : K * 2 ≤ K * K := Nat.mul_le_mul_left K hK1
          omega
        have i1 : ((K * K : Nat) : Int) ≤ (v : Int) := by omega
        have hK0 : ((K : Int) == 0) = false := by rw [beq_eq_false_iff_ne]; omega
        have e4 := tmod_nat v K
        clear hKgt hKle HGT
        generalize K * K = KK at *
        cases s
        · have HN : Hid (False ↔ 2 ≤ v ∧ ∀ j, 2 ≤ j → j < K + 1 → v % j ≠ 0) := Lib.hid ⟨fun h => h.elim, fun h => by
            have := HSS.out.2 ⟨h.1, fun j h1 h2 => h.2 j h1 (by omega)⟩
            cases this⟩
          generalize v % K = R at *
          go_wp2_with fail
          go_round
          case rel => exact ⟨K + 1, false, by omega, by omega, by go_num, rfl, ⟨fun h => (by cases h), fun h => (HN.out.2 h).elim⟩⟩
          case measure => simp [intOf]; omega
        · have hold := HSS.out.1 rfl
          by_cases hz : v % K = 0
          · have t1' : ¬ (0 : Int) < ((v % K : Nat) : Int) := by omega
            have HZ : Hid (¬ 0 < v % K) := Lib.hid (by omega)
            have HN : Hid (¬ (2 ≤ v ∧ ∀ j, 2 ≤ j → j < K + 1 → v % j ≠ 0)) := Lib.hid fun h => h.2 K hK1 (by omega) hz
            clear hz hold
            generalize v % K = R at *
            go_wp2_with fail
            go_round
            case rel => exact ⟨K + 1, decide (0 < R), by omega, by omega, by go_num, rfl, ⟨fun h => absurd (of_decide_eq_true h) HZ.out, fun h => (HN.out h).elim⟩⟩
            case measure => simp [intOf]; omega
          · have t1' : (0 : Int) < ((v % K : Nat) : Int) := by omega
            have HZ : Hid (0 < v % K) := Lib.hid (by omega)
            have HN : Hid (2 ≤ v ∧ ∀ j, 2 ≤ j → j < K + 1 → v % j ≠ 0) := Lib.hid ⟨hold.1, fun j h1 h2 => by
              by_cases h : j = K
              · rw [h]; exact hz
              · exact hold.2 j h1 (by omega)⟩
            clear hz hold
            generalize v % K = R at *
            go_wp2_with fail
            go_round
            case rel => exact ⟨K + 1, decide (0 < R), by omega, by omega, by go_num, rfl, ⟨fun _ => HN.out, fun _ => decide_eq_true HZ.out⟩⟩
            case measure => simp [intOf]; omega
      · have i1 : ¬ ((K * K : Nat) : Int) ≤ (v : Int) := by omega
        have HT : Hid (s = true → TP) := Lib.hid fun h => HTP.out.2 ⟨(HSS.out.1 h).1, fun j h1 h2 => (HSS.out.1 h).2 j h1 (HGT.out (by omega) j h2)⟩
        clear hKgt hKle HGT
        generalize K * K = KK at *
        go_wp2_with fail
        refine (HP.out _).mono ?_
        rintro e w5 ⟨rfl, hb5⟩
        have c5 : Below w.heap.size w w5 := c3.trans (hb5.mono c3.size)
        clear hb5 HP HSS HTP
        rcases HEND.out with ⟨rfl, rfl⟩ | ⟨p, rfl, f1, f2⟩
        · cases s
          all_goals
            go_wp2_with fail
            refine (implHalvesOk _ _ _).mono ?_
            rintro e w6 ⟨rfl, hb6⟩
            rw [H7.out]
            go_wp2
            go_ret
            exact ⟨rfl, c5.trans (hb6.mono c5.size)⟩
        · have i2 : ¬ (p : Int) < 0 := by omega
          have F1 := Lib.hid f1
          have F2 := Lib.hid f2
          clear f1 f2
          by_cases hpe : p % 2 = 0
          · have t1 : ((p : Int) % 2 == 1) = false := by rw [beq_eq_false_iff_ne]; omega
            have t2 : ((p : Int) % 2 == 0) = true := by rw [beq_iff_eq]; omega
            cases s
            · cases HV
              all_goals
                clear hpe
                go_wp2_with fail
                refine (implHalvesOk _ _ _).mono ?_
                rintro e w6 ⟨rfl, hb6⟩
                rw [H7.out]
                go_wp2
                go_ret
                exact ⟨rfl, c5.trans (hb6.mono c5.size)⟩
            · obtain rfl := F2.out (HT.out rfl) hpe
              clear hpe
              go_wp2_with fail
              refine (implHalvesOk _ _ _).mono ?_
              rintro e w6 ⟨rfl, hb6⟩
              rw [H7.out]
              go_wp2
              go_ret
              exact ⟨rfl, c5.trans (hb6.mono c5.size)⟩
          · have t1 : ((p : Int) % 2 == 1) = true := by rw [beq_iff_eq]; omega
            have t2 : ((p : Int) % 2 == 0) = false := by rw [beq_eq_false_iff_ne]; omega
            cases HV
            · cases s
              all_goals
                clear hpe
                go_wp2_with fail
                refine (implHalvesOk _ _ _).mono ?_
                rintro e w6 ⟨rfl, hb6⟩
                rw [H7.out]
                go_wp2
                go_ret
                exact ⟨rfl, c5.trans (hb6.mono c5.size)⟩
            · exact absurd (F1.out rfl) hpe

end Go.Proofs.Ytnogcoijlnnbdaa
