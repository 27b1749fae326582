/-
  spec.UnderOk, spec.PeriodOf, spec.RoundOf, spec.HalvesOk, spec.FullOk, spec.BegunAt: what they answer.
-/
import Derived.Test.YtnogcoijlnnbdaaDigitsOf
import Derived.Test.YtnogcoijlnnbdaaWhole
import Derived.Test.YtnogcoijlnnbdaaMathPeriod2
namespace Go.Proofs.Ytnogcoijlnnbdaa
open Go.RowKit Go.Shelf

theorem tmod_nat (a c : Nat) : ((a : Int)).tmod (c : Int) = ((a % c : Nat) : Int) := rfl
theorem emod_nat (a c : Nat) : (a : Int) % (c : Int) = ((a % c : Nat) : Int) := rfl

set_option maxHeartbeats 800000 in
theorem specCommon (u b : Nat) (hu : u ≤ 1000000000) (hb : b ≤ 1000000000) (w : World) :
    Calls Try.prog 45 #[.int .i64 u, .int .i64 b] w fun e w' => e = .returned (.int .i64 ((Nat.gcd u b : Nat) : Int)) ∧ w = w' := by
  obtain ⟨G, hG⟩ : ∃ G, Nat.gcd u b = G := ⟨_, rfl⟩
  have HG := Lib.hid hG
  rw [hG]
  clear hG
  go_enter Try.func45, Try.ntmps45
  go_wp2
  go_loop [0, 1, 5] (fun av bv _ => ∃ A B : Nat, av = .int .i64 A ∧ bv = .int .i64 B ∧ A ≤ 1000000000 ∧ B ≤ 1000000000 ∧ Nat.gcd A B = G) (fun _ bv _ => (intOf bv).toNat)
  case atStart => exact ⟨u, b, rfl, rfl, hu, hb, HG.out⟩
  case round =>
    clear HG hu hb
    obtain ⟨A, B, rfl, rfl, hA, hB, hg⟩ := hrel
    by_cases h0 : 0 < B
    · have hi : (0 : Int) < (B : Int) := by omega
      have hb0 : ((B : Int) == 0) = false := by rw [beq_eq_false_iff_ne]; omega
      have hlt := Nat.mod_lt A h0
      have e1 := tmod_nat A B
      have HN : Hid (Nat.gcd B (A % B) = G) := Lib.hid (by rw [← hg, Nat.gcd_comm A B, Nat.gcd_rec B A, Nat.gcd_comm])
      clear hg
      generalize A % B = R at *
      go_wp2
      go_round
      case rel => exact ⟨B, R, rfl, rfl, hB, by omega, HN.out⟩
      case measure => simp [intOf]; omega
    · obtain rfl : B = 0 := by omega
      rw [Nat.gcd_zero_right] at hg
      have HA := Lib.hid hg
      clear hg
      go_wp2
      go_ret
      exact ⟨ret_int (by rw [HA.out]), rfl⟩

set_option maxHeartbeats 400000 in
theorem specUnderOk (u b : Int) (w : World) :
    Calls Try.prog 17 #[.int .i64 u, .int .i64 b] w fun e w' => e = .returned (.bool (Pl.underB u b)) ∧ w = w' := by
  by_cases h1 : (decide (1 ≤ u) && decide (u ≤ 200)) = true
  · by_cases h2 : Pl.baseB b = true
    · have h1' := h1
      simp only [Bool.and_eq_true, decide_eq_true_eq] at h1'
      have h2' := (Pl.baseB_iff b).1 h2
      obtain ⟨v, rfl⟩ : ∃ v : Nat, u = (v : Int) := ⟨u.toNat, by omega⟩
      obtain ⟨k, rfl⟩ : ∃ k : Nat, b = (k : Int) := ⟨b.toNat, by omega⟩
      have HC := Lib.hid (specCommon v k (by omega) (by omega))
      have hE : Pl.underB v k = (((Nat.gcd v k : Nat) : Int) == 1) := by
        rw [Bool.eq_iff_iff, Pl.underB_iff, beq_iff_eq]
        unfold Nat.Coprime
        omega
      rw [hE]
      clear hE h1' h2'
      generalize ((Nat.gcd v k : Nat) : Int) = G at *
      go_enter Try.func17, Try.ntmps17
      go_wp2_with (first | (go_at_call 44; refine (specIn _ _ _ _).mono ?_; rintro e w' ⟨rfl, rfl⟩; rw [h1]) | (go_at_call 18; refine (specBaseOk _ _).mono ?_; rintro e w' ⟨rfl, rfl⟩; rw [h2]) | (go_at_call 45; refine (HC.out _).mono ?_; rintro e w' ⟨rfl, rfl⟩))
      go_ret
      exact ⟨rfl, rfl⟩
    · have h2' : Pl.baseB b = false := by simpa using h2
      have hE : Pl.underB u b = false := by simp [Pl.underB, h2']
      rw [hE]
      clear hE h2
      go_enter Try.func17, Try.ntmps17
      go_wp2_with (first | (go_at_call 44; refine (specIn _ _ _ _).mono ?_; rintro e w' ⟨rfl, rfl⟩; rw [h1]) | (go_at_call 18; refine (specBaseOk _ _).mono ?_; rintro e w' ⟨rfl, rfl⟩; rw [h2']))
      go_ret
      exact ⟨rfl, rfl⟩
  · have h1' : (decide (1 ≤ u) && decide (u ≤ 200)) = false := by simpa using h1
    have hE : Pl.underB u b = false := by
      unfold Pl.underB; rw [h1']; rfl
    rw [hE]
    clear hE h1
    go_enter Try.func17, Try.ntmps17
    go_wp2_with (first | (go_at_call 44; refine (specIn _ _ _ _).mono ?_; rintro e w' ⟨rfl, rfl⟩; rw [h1']))
    go_ret
    exact ⟨rfl, rfl⟩

set_option maxHeartbeats 800000 in
theorem specPeriodOf (u b : Int) (w : World) :
    Calls Try.prog 22 #[.int .i64 u, .int .i64 b] w fun e w' => e = .returned (.int .i64 (Pl.periodI u b)) ∧ w = w' := by
  have HU := Lib.hid (specUnderOk u b)
  by_cases h : Pl.underB u b = true
  · rw [h] at HU
    have h' := h
    obtain ⟨v, k, rfl, rfl, h1, h2, h3, h4, h5⟩ := Pl.underB_nat h
    rw [Pl.periodI_yes h']
    obtain ⟨hper, hle, _⟩ := Pl.periodN_per h1 h5
    have HBACK := Lib.hid hper.back
    have HLEAST := Lib.hid hper.least
    have hp1 := hper.pos
    clear h h' h5 hper
    generalize Pl.periodN k v = p at *
    have hv0 : ((v : Int) == 0) = false := by rw [beq_eq_false_iff_ne]; omega
    have e1 : (1 : Int).tmod (v : Int) = ((1 % v : Nat) : Int) := rfl
    have e1' : (1 : Int) % (v : Int) = ((1 % v : Nat) : Int) := rfl
    have e2 := tmod_nat k v
    have HP1 : Hid (k ^ 1 % v = k % v) := Lib.hid (by rw [Nat.pow_one])
    have HST : Hid (∀ n, k ^ n % v * k % v = k ^ (n + 1) % v) := Lib.hid fun n => by rw [Nat.pow_succ, Nat.mul_mod, Nat.mul_mod (k ^ n) k, Nat.mod_mod]
    have hlt : ∀ n, k ^ n % v < v := fun n => Nat.mod_lt _ (by omega)
    have HLT := Lib.hid hlt
    clear hlt
    obtain ⟨K1, hK1⟩ : ∃ K1, k % v = K1 := ⟨_, rfl⟩
    have hk1 : K1 < v := by rw [← hK1]; exact Nat.mod_lt _ (by omega)
    rw [hK1] at e2 HP1
    clear hK1
    generalize 1 % v = ONE at *
    go_enter Try.func22, Try.ntmps22
    go_wp2_with (go_at_call 17; refine (HU.out _).mono ?_; rintro e w' ⟨rfl, rfl⟩)
    go_loop [5, 6] (fun nv qv => ∃ n : Nat, 1 ≤ n ∧ n ≤ p ∧ nv = .int .i64 n ∧ qv = .int .i64 ((k ^ n % v : Nat) : Int)) (fun nv _ => p - (intOf nv).toNat)
    case atStart => exact ⟨1, by omega, hp1, rfl, by rw [HP1.out]⟩
    case round =>
      clear HP1 e2 hk1 HU
      obtain ⟨n, hn1, hn2, rfl, rfl⟩ := hrel
      by_cases hb : k ^ n % v = ONE
      · obtain rfl : n = p := by
          refine Classical.byContradiction fun hne => ?_
          exact HLEAST.out n hn1 (by omega) hb
        have ht : (((k ^ n % v : Nat) : Int) != (ONE : Int)) = false := by rw [hb]; simp
        clear hb
        generalize k ^ n % v = Q at *
        go_wp2
        go_ret
        exact ⟨rfl, rfl⟩
      · have ht : (((k ^ n % v : Nat) : Int) != (ONE : Int)) = true := by
          rw [bne_iff_ne]; exact fun h => hb (by exact_mod_cast h)
        have HN := Lib.hid (HST.out n)
        have hq := HLT.out n
        have hnp : n < p := by
          refine Classical.byContradiction fun hno => hb ?_
          obtain rfl : n = p := by omega
          exact HBACK.out
        clear hb
        generalize k ^ n % v = Q at *
        have hQk : Q * k ≤ 200 * 16 := Nat.mul_le_mul (by omega) h4
        have e3 : IntKind.i64.wrap ((Q : Int) * (k : Int)) = ((Q * k : Nat) : Int) := by rw [← Int.natCast_mul]; exact IntWalk.i64_in _ (by omega)
        have e4 := tmod_nat (Q * k) v
        have hr : Q * k % v < v := Nat.mod_lt _ (by omega)
        generalize Q * k % v = R at *
        generalize Q * k = X at *
        go_wp2
        go_round
        case rel => exact ⟨n + 1, by omega, by omega, by go_num, by rw [← HN.out]⟩
        case measure => simp [intOf]; omega
  · rw [Pl.periodI_no h]
    rw [Bool.eq_false_iff.2 h] at HU
    clear h
    go_enter Try.func22, Try.ntmps22
    go_wp2_with (go_at_call 17; refine (HU.out _).mono ?_; rintro e w' ⟨rfl, rfl⟩)
    go_ret
    exact ⟨rfl, rfl⟩

/-- The ring of rests: the next one. -/
theorem rest_step (k v x K : Nat) (hv : 1 ≤ v) (hv2 : v ≤ 200) (hk : k ≤ 16) : Pl.restN k v x K < v ∧ Pl.restN k v x K * k ≤ 3200 ∧ Pl.restN k v x (K + 1) = Pl.restN k v x K * k % v ∧ Pl.digitN k v x K = Pl.restN k v x K * k / v := by
  have h1 := Pl.restN_lt (b := k) (u := v) (x := x) (k := K) hv
  refine ⟨h1, ?_, Pl.restN_succ k v x K, rfl⟩
  have : Pl.restN k v x K * k ≤ 200 * 16 := Nat.mul_le_mul (by omega) hk
  omega

set_option maxHeartbeats 1000000 in
theorem specRoundOf (x u b : Int) (w : World) :
    Calls Try.prog 26 #[.int .i64 x, .int .i64 u, .int .i64 b] w (ListPost w (Pl.roundA x u b)) := by
  have HP := Lib.hid (specPeriodOf u b)
  have hb0 : Below w.heap.size w (w.alloc (.cells #[] 3)) := (Below.refl _ w).alloc (Nat.le_refl _) _
  by_cases h : Pl.overB x u b = true
  · have h' := h
    obtain ⟨y, v, k, rfl, rfl, rfl, h1, h2, h3, h4, h5, h6⟩ := Pl.overB_nat h
    rw [Pl.roundA_yes h']
    rw [Pl.periodI_yes h6] at HP
    have hple := (Pl.periodN_per (b := k) (u := v) (by omega) h5).2.1
    have hin : (decide ((0 : Int) ≤ (y : Int)) && decide ((y : Int) ≤ (v : Int) - 1)) = true := by simp; omega
    have HR0 : Hid (Pl.restN k v y 0 = y) := Lib.hid (Pl.restN_zero h1)
    have HST : Hid (∀ K, Pl.restN k v y K < v ∧ Pl.restN k v y K * k ≤ 3200 ∧ Pl.restN k v y (K + 1) = Pl.restN k v y K * k % v ∧ Pl.digitN k v y K = Pl.restN k v y K * k / v) := Lib.hid fun K => rest_step k v y K (by omega) h2 h4
    have hv0 : ((v : Int) == 0) = false := by rw [beq_eq_false_iff_ne]; omega
    obtain ⟨i0, hi0, hz0, hz1, hz2⟩ := info_parts info_int
    clear h h' h5 h6
    generalize Pl.periodN k v = p at *
    go_enter Try.func26, Try.ntmps26
    go_wp2_with (first | (go_at_call 22; refine (HP.out _).mono ?_; rintro e w' ⟨rfl, rfl⟩) | (go_at_call 44; refine (specIn _ _ _ _).mono ?_; rintro e w' ⟨rfl, rfl⟩; rw [hin]))
    go_loopw [7, 9, 10] (fun ov rv kv wr => ∃ (K : Nat) (vv : Value), vv = ov ∧ K ≤ p ∧ kv = .int .i64 K ∧ rv = .int .i64 ((Pl.restN k v y K : Nat) : Int) ∧ Row w.heap.size wr vv ((Pl.roundD k v y K).map fun d : Nat => (d : Int)) ∧ Below w.heap.size w wr) (fun _ _ kv _ => p - (intOf kv).toNat)
    case atStart => exact ⟨0, _, rfl, by omega, rfl, by rw [HR0.out], row_empty w, hb0⟩
    case round =>
      clear hb0 hin HR0 HP
      obtain ⟨K, vv, rfl, hK, rfl, rfl, hr, hbw⟩ := hrel
      by_cases hlt : K < p
      · have hi : (K : Int) < (p : Int) := by omega
        obtain ⟨s1, s2, s3, s4⟩ := HST.out K
        have HS3 := Lib.hid s3
        have HS4 : Hid ((Pl.roundD k v y (K + 1)).map (fun d : Nat => (d : Int)) = (Pl.roundD k v y K).map (fun d : Nat => (d : Int)) ++ [((Pl.restN k v y K * k / v : Nat) : Int)]) := Lib.hid (by rw [Pl.roundD_succ, List.map_append, ← s4]; rfl)
        have hll : ((Pl.roundD k v y K).map fun d : Nat => (d : Int)).length ≤ 200 := by rw [List.length_map, Pl.roundD_len]; omega
        clear s3 s4
        generalize (Pl.roundD k v y K).map (fun d : Nat => (d : Int)) = X at *
        generalize Pl.restN k v y K = R at *
        have e3 : IntKind.i64.wrap ((R : Int) * (k : Int)) = ((R * k : Nat) : Int) := by rw [← Int.natCast_mul]; exact IntWalk.i64_in _ (by omega)
        have e4 := tmod_nat (R * k) v
        have e5 : (((R * k : Nat) : Int)).tdiv (v : Int) = ((R * k / v : Nat) : Int) := rfl
        have hq : R * k / v ≤ R * k := Nat.div_le_self _ _
        have hrr : R * k % v < v := Nat.mod_lt _ (by omega)
        generalize R * k / v = QQ at *
        generalize R * k % v = RR at *
        generalize R * k = Y at *
        have e6 : IntKind.i64.wrap (QQ : Int) = (QQ : Int) := IntWalk.i64_in _ (by omega)
        have hr' : wr.ownsRow w.heap.size 3 1 vv X.length (X.map (Value.int .i64)) := hr
        have hsz := hbw.size
        clear hr
        go_wp2_with (at_builtin; refine wpList_append_own _ rfl _ _ 32 rfl w.heap.size 3 i0 (.int .i64 0) 1 8 Try.underlying32 hi0 hz0 hz1 hz2 rfl (by decide) _ _ _ rfl (hr'.alloc _) ⟨wr.heap.size, 0, none⟩ 1 1 [.int .i64 (QQ : Int)] rfl rfl (cell_one_new _ _ _) (by simp [Value.oneCell']) (by unfold maxLen; omega) (by omega) (by simp; omega) ?_; intro v2 w1 hown1 hgrow1 _)
        go_roundw
        case rel => exact ⟨K + 1, _, rfl, by omega, by go_num, by rw [HS3.out], by rw [HS4.out]; exact row_snoc hown1, below_append (hbw.alloc hbw.size _) (hr'.alloc _) hgrow1⟩
        case measure => simp [intOf]; omega
      · obtain rfl : K = p := by omega
        have hi : ¬ (K : Int) < (K : Int) := by omega
        have HR := Lib.hid hr
        clear hr
        go_wp2_with fail
        go_ret
        exact ⟨_, rfl, HR.out, hbw⟩
  · rw [Pl.roundA_no h]
    by_cases hin : (decide ((0 : Int) ≤ x) && decide (x ≤ wrap64 (u - 1))) = true
    · by_cases hu : Pl.underB u b = true
      · exfalso
        refine h ?_
        obtain ⟨v, k, rfl, rfl, g1, g2, _, _, _⟩ := Pl.underB_nat hu
        simp only [Bool.and_eq_true, decide_eq_true_eq] at hin
        have hw : wrap64 ((v : Int) - 1) = (v : Int) - 1 := IntWalk.wrap64_in _ (by omega)
        rw [hw] at hin
        rw [Pl.overB, hu]
        simp; omega
      · rw [Pl.periodI_no hu] at HP
        clear h hu
        go_enter Try.func26, Try.ntmps26
        go_wp2_with (first | (go_at_call 22; refine (HP.out _).mono ?_; rintro e w' ⟨rfl, rfl⟩) | (go_at_call 44; refine (specIn _ _ _ _).mono ?_; rintro e w' ⟨rfl, rfl⟩; rw [hin]))
        go_loopw [7, 9, 10] (fun ov _ kv wr => ov = .slice (some ⟨w.heap.size, 0, none⟩) 0 0 ∧ kv = .int .i64 0 ∧ wr = w.alloc (.cells #[] 3)) (fun _ _ _ _ => 0)
        case atStart => exact ⟨rfl, rfl, rfl⟩
        case round =>
          obtain ⟨rfl, rfl, rfl⟩ := hrel
          go_wp2_with fail
          go_ret
          exact ⟨_, rfl, row_empty w, hb0⟩
    · have hin' : (decide ((0 : Int) ≤ x) && decide (x ≤ wrap64 (u - 1))) = false := by simpa using hin
      generalize Pl.periodI u b = PI at *
      clear h hin
      go_enter Try.func26, Try.ntmps26
      go_wp2_with (first | (go_at_call 22; refine (HP.out _).mono ?_; rintro e w' ⟨rfl, rfl⟩) | (go_at_call 44; refine (specIn _ _ _ _).mono ?_; rintro e w' ⟨rfl, rfl⟩; rw [hin']))
      go_ret
      exact ⟨_, rfl, row_empty w, hb0⟩

set_option maxHeartbeats 400000 in
theorem specFullOk (u b : Int) (hu : u ≤ 9223372036854775807) (w : World) :
    Calls Try.prog 33 #[.int .i64 u, .int .i64 b] w fun e w' => e = .returned (.bool (Pl.fullB u b)) ∧ w = w' := by
  have HP := Lib.hid (specPeriodOf u b)
  unfold Pl.fullB
  by_cases h3 : 3 ≤ u
  · have e : (decide (3 ≤ u) && decide (Pl.periodI u b = u - 1)) = (Pl.periodI u b == u - 1) := by
      rw [Bool.eq_iff_iff]; simp [h3]
    rw [e]
    clear e
    generalize Pl.periodI u b = P at *
    go_enter Try.func33, Try.ntmps33
    go_wp2_with (go_at_call 22; refine (HP.out _).mono ?_; rintro e w' ⟨rfl, rfl⟩)
    go_ret
    exact ⟨rfl, rfl⟩
  · have e : (decide (3 ≤ u) && decide (Pl.periodI u b = u - 1)) = false := by simp [h3]
    rw [e]
    clear e
    generalize Pl.periodI u b = P at *
    go_enter Try.func33, Try.ntmps33
    go_wp2_with fail
    go_ret
    exact ⟨rfl, rfl⟩

set_option maxHeartbeats 1000000 in
theorem specBegunYes (x u b : Nat) (hok : Pl.overB x u b = true) (h2 : 2 ≤ u) (w : World) :
    Calls Try.prog 36 #[.int .i64 x, .int .i64 u, .int .i64 b] w fun e w' => e = .returned (.tuple #[.int .i64 (Pl.wV (Pl.begunO x u b)), .bool (Pl.wB (Pl.begunO x u b))]) ∧ w = w' := by
  obtain ⟨y, v, k, e1, e2, e3, h1, hv, h3, h4, h5, h6⟩ := Pl.overB_nat hok
  obtain rfl : x = y := by omega
  obtain rfl : u = v := by omega
  obtain rfl : b = k := by omega
  have HU := Lib.hid (specUnderOk u b)
  rw [h6] at HU
  have HP := Lib.hid (specPeriodOf u b)
  rw [Pl.periodI_yes h6] at HP
  have hple := (Pl.periodN_per (b := b) (u := u) (by omega) h5).2.1
  have hin : (decide ((0 : Int) ≤ (x : Int)) && decide ((x : Int) ≤ (u : Int) - 1)) = true := by simp; omega
  have hv0 : ((u : Int) == 0) = false := by rw [beq_eq_false_iff_ne]; omega
  have i2 : ¬ (u : Int) < 2 := by omega
  have HST : Hid (∀ n, b ^ n % u * b % u = b ^ (n + 1) % u ∧ b ^ n % u < u) := Lib.hid fun n => ⟨by rw [Nat.pow_succ, Nat.mul_mod, Nat.mul_mod (b ^ n) b, Nat.mod_mod], Nat.mod_lt _ (by omega)⟩
  have HO : Hid ((∀ k, Pl.begunO x u b = some k → k < Pl.periodN b u ∧ b ^ k % u = x ∧ ∀ j, j < k → b ^ j % u ≠ x) ∧ (Pl.begunO x u b = none → ∀ k, k < Pl.periodN b u → b ^ k % u ≠ x)) :=
    Lib.hid ⟨fun k h => (Pl.begunO_some h).2, fun h => Pl.begunO_none h ⟨hok, h2⟩⟩
  have H1 : Hid (1 % u = b ^ 0 % u) := Lib.hid (by rw [Nat.pow_zero])
  have e1 : (1 : Int).tmod (u : Int) = ((1 % u : Nat) : Int) := rfl
  have e1' : (1 : Int) % (u : Int) = ((1 % u : Nat) : Int) := rfl
  rw [H1.out] at e1 e1'
  obtain ⟨Z, hZ⟩ : ∃ Z, b ^ 0 % u = Z := ⟨_, rfl⟩
  rw [hZ] at e1 e1'
  have HZ := Lib.hid hZ
  clear H1 hok h5 h6 hZ
  generalize Pl.periodN b u = p at *
  generalize Pl.begunO x u b = O at *
  go_enter Try.func36, Try.ntmps36
  go_wp2_with (first | (go_at_call 17; refine (HU.out _).mono ?_; rintro e w' ⟨rfl, rfl⟩) | (go_at_call 44; refine (specIn _ _ _ _).mono ?_; rintro e w' ⟨rfl, rfl⟩; rw [hin]))
  go_loop [8, 9] (fun rv kv => ∃ K : Nat, K ≤ p ∧ kv = .int .i64 K ∧ rv = .int .i64 ((b ^ K % u : Nat) : Int) ∧ ∀ j, j < K → b ^ j % u ≠ x) (fun _ kv => p - (intOf kv).toNat)
  case atStart => exact ⟨0, by omega, rfl, by rw [HZ.out], fun j hj => by omega⟩
  case round =>
    clear e1 e1' hin HU
    obtain ⟨K, hK, rfl, rfl, hno⟩ := hrel
    have HNO := Lib.hid hno
    obtain ⟨s1, s2⟩ := HST.out K
    have HS := Lib.hid s1
    clear hno s1
    by_cases hlt : K < p
    · have hi : (K : Int) < (p : Int) := by omega
      by_cases hx : b ^ K % u = x
      · have ht : (((b ^ K % u : Nat) : Int) == (x : Int)) = true := by rw [hx]; simp
        have HOK : Hid (O = some K) := Lib.hid (by
          cases hO : O with
          | none => exact absurd hx (HO.out.2 hO K hlt)
          | some k' =>
            obtain ⟨g1, g2, g3⟩ := HO.out.1 k' hO
            rcases Nat.lt_trichotomy k' K with h | h | h
            · exact absurd g2 (HNO.out k' h)
            · rw [h]
            · exact absurd hx (g3 K h))
        clear hx
        generalize b ^ K % u = Q at *
        go_wp2_with (go_at_call 22; refine (HP.out _).mono ?_; rintro e w' ⟨rfl, rfl⟩)
        go_ret2
        exact ⟨ret_whole (by rw [HOK.out]; rfl) (by rw [HOK.out]; rfl), rfl⟩
      · have ht : (((b ^ K % u : Nat) : Int) == (x : Int)) = false := by
          rw [beq_eq_false_iff_ne]; exact fun h => hx (by exact_mod_cast h)
        have HX : Hid (∀ j, j < K + 1 → b ^ j % u ≠ x) := Lib.hid fun j hj => by
          by_cases h : j = K
          · rw [h]; exact hx
          · exact HNO.out j (by omega)
        clear hx HNO
        generalize b ^ K % u = Q at *
        have hQk : Q * b ≤ 200 * 16 := Nat.mul_le_mul (by omega) h4
        have e3 : IntKind.i64.wrap ((Q : Int) * (b : Int)) = ((Q * b : Nat) : Int) := by rw [← Int.natCast_mul]; exact IntWalk.i64_in _ (by omega)
        have e4 := tmod_nat (Q * b) u
        have hr : Q * b % u < u := Nat.mod_lt _ (by omega)
        generalize Q * b % u = R at *
        generalize Q * b = X at *
        go_wp2_with (go_at_call 22; refine (HP.out _).mono ?_; rintro e w' ⟨rfl, rfl⟩)
        go_round
        case rel => exact ⟨K + 1, by omega, by go_num, by rw [← HS.out], HX.out⟩
        case measure => simp [intOf]; omega
    · obtain rfl : K = p := by omega
      have hi : ¬ (K : Int) < (K : Int) := by omega
      have HOK : Hid (O = none) := Lib.hid (by
        cases hO : O with
        | none => rfl
        | some k' =>
          obtain ⟨g1, g2, _⟩ := HO.out.1 k' hO
          exact absurd g2 (HNO.out k' g1))
      generalize b ^ K % u = Q at *
      go_wp2_with (go_at_call 22; refine (HP.out _).mono ?_; rintro e w' ⟨rfl, rfl⟩)
      go_ret2
      exact ⟨ret_whole (by rw [HOK.out]; rfl) (by rw [HOK.out]; rfl), rfl⟩

set_option maxHeartbeats 400000 in
theorem specBegunAt (x u b : Int) (w : World) :
    Calls Try.prog 36 #[.int .i64 x, .int .i64 u, .int .i64 b] w fun e w' => e = .returned (.tuple #[.int .i64 (Pl.wV (Pl.begunO x u b)), .bool (Pl.wB (Pl.begunO x u b))]) ∧ w = w' := by
  by_cases h : Pl.overB x u b = true ∧ 2 ≤ u
  · obtain ⟨y, v, k, rfl, rfl, rfl, _⟩ := Pl.overB_nat h.1
    exact specBegunYes y v k h.1 (by omega) w
  · rw [Pl.begunO_no h]
    have HU := Lib.hid (specUnderOk u b)
    by_cases hu : Pl.underB u b = true
    · rw [hu] at HU
      obtain ⟨v, k, rfl, rfl, g1, g2, _⟩ := Pl.underB_nat hu
      by_cases h2 : 2 ≤ v
      · have hin : (decide ((0 : Int) ≤ x) && decide (x ≤ (v : Int) - 1)) = false := by
          rw [← Bool.not_eq_true]
          intro hh
          refine h ⟨?_, by omega⟩
          simp only [Bool.and_eq_true, decide_eq_true_eq] at hh
          rw [Pl.overB, hu]
          simp; omega
        have i2 : ¬ (v : Int) < 2 := by omega
        clear h hu
        go_enter Try.func36, Try.ntmps36
        go_wp2_with (first | (go_at_call 17; refine (HU.out _).mono ?_; rintro e w' ⟨rfl, rfl⟩) | (go_at_call 44; refine (specIn _ _ _ _).mono ?_; rintro e w' ⟨rfl, rfl⟩; rw [hin]))
        go_ret2
        exact ⟨rfl, rfl⟩
      · have i2 : (v : Int) < 2 := by omega
        clear h hu
        go_enter Try.func36, Try.ntmps36
        go_wp2_with (first | (go_at_call 17; refine (HU.out _).mono ?_; rintro e w' ⟨rfl, rfl⟩))
        go_ret2
        exact ⟨rfl, rfl⟩
    · rw [Bool.eq_false_iff.2 hu] at HU
      clear h hu
      go_enter Try.func36, Try.ntmps36
      go_wp2_with (first | (go_at_call 17; refine (HU.out _).mono ?_; rintro e w' ⟨rfl, rfl⟩))
      go_ret2
      exact ⟨rfl, rfl⟩

end Go.Proofs.Ytnogcoijlnnbdaa
