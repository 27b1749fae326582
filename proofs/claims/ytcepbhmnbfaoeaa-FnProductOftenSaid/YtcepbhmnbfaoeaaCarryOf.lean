/-
  The program's CarriesOf, PrimeBaseOk, ProductOften, ChoiceOften: what they answer.
-/
import Derived.Test.YtcepbhmnbfaoeaaSumOf
import Derived.Test.YtcepbhmnbfaoeaaDigitsOf
import Derived.Test.YtcepbhmnbfaoeaaSpecCarry
namespace Go.Proofs.Ytcepbhmnbfaoeaa
open Go.RowKit Go.Shelf

set_option maxHeartbeats 2000000 in
theorem implCarriesYes (n m b : Nat) (hb : 2 ≤ b) (hb' : b ≤ 16) (hn : n ≤ 1000000000) (hm : m ≤ 1000000000) (w : World) :
    Calls Try.prog 16 #[.int .i64 n, .int .i64 m, .int .i64 b] w fun e w' => e = .returned (.int .i64 ((Pl.carN b n m : Nat) : Int)) ∧ Below w.heap.size w w' := by
  have i1 : Pl.okB n b = true := by rw [Pl.okB_iff]; omega
  have i2 : Pl.okB m b = true := by rw [Pl.okB_iff]; omega
  have hb0 : ((b : Int) == 0) = false := by rw [beq_eq_false_iff_ne]; omega
  have hb1 : ¬ b = 0 := by omega
  have hb2 : ¬ (b : Int) = 0 := by omega
  obtain ⟨R, hR⟩ : ∃ R, Pl.carN b n m = R := ⟨_, rfl⟩
  have HS : Hid (Pl.CarAt b R 30 n m 0 0) := Lib.hid ⟨by omega, by omega, by omega, by omega, by rw [Nat.zero_add]; exact hR⟩
  rw [hR]
  clear hR
  go_enter Try.func16, Try.ntmps16
  go_wp2_with (go_at_call 40; refine (hasDigits _ _ _).mono ?_; rintro e w' ⟨rfl, rfl⟩; first | rw [i1] | rw [i2])
  go_loopw [0, 1, 7, 8] (fun nv mv sv cv wr => ∃ (f N M C q : Nat) (CC : Int), nv = .int .i64 N ∧ mv = .int .i64 M ∧ sv = .int .i64 C ∧ cv = .int .i64 CC ∧ (CC = 0 ∨ CC = 1) ∧ N ≤ 1000000000 ∧ M ≤ 1000000000 ∧ Pl.CarAt b R f N M CC.toNat C ∧ wr = w.drewN q) (fun nv mv _ _ _ => (intOf nv).toNat + (intOf mv).toNat)
  case atStart => exact ⟨30, n, m, 0, 0, 0, rfl, rfl, rfl, rfl, .inl rfl, hn, hm, HS.out, rfl⟩
  case round =>
    clear i1 i2 HS
    obtain ⟨f, N, M, C, q, CC, rfl, rfl, rfl, rfl, hCC, hN, hM, hAt, rfl⟩ := hrel
    by_cases hz : N = 0 ∧ M = 0
    · obtain ⟨rfl, rfl⟩ := hz
      have HE : Hid (C = R) := Lib.hid (by
        have := hAt.2.2.2.2
        rw [Pl.carK_zero, Nat.add_zero] at this; exact this)
      clear hAt
      go_wp2_with fail
      go_ret
      exact ⟨ret_int (by rw [HE.out]), drewN_below w q⟩
    · obtain ⟨a1, a2, a3, a4, a5⟩ := hAt
      obtain ⟨g, rfl⟩ : ∃ g, f = g + 1 := ⟨f - 1, by
        have : f ≠ 0 := fun e => by rw [e] at a1 a2; simp at a1 a2; omega
        omega⟩
      rw [Pl.carK, if_neg hz] at a5
      have q1 : N / b < 2 ^ g := by
        have g1 : N / b ≤ N / 2 := Nat.div_le_div_left hb (by omega)
        rw [Nat.pow_succ] at a1; omega
      have q2 : M / b < 2 ^ g := by
        have g1 : M / b ≤ M / 2 := Nat.div_le_div_left hb (by omega)
        rw [Nat.pow_succ] at a2; omega
      have hNb : N % b < b := Nat.mod_lt _ (by omega)
      have hMb : M % b < b := Nat.mod_lt _ (by omega)
      have hNd : N / b ≤ N := Nat.div_le_self _ _
      have hMd : M / b ≤ M := Nat.div_le_self _ _
      have hless : N / b + M / b < N + M := by
        by_cases h : 0 < N
        · have := Nat.div_lt_self h (show 1 < b by omega); omega
        · have := Nat.div_lt_self (show 0 < M by omega) (show 1 < b by omega); omega
      have e1 : ((N : Int)).tmod (b : Int) = ((N % b : Nat) : Int) := rfl
      have e2 : ((M : Int)).tmod (b : Int) = ((M % b : Nat) : Int) := rfl
      have e1' : ((N : Int)) % (b : Int) = ((N % b : Nat) : Int) := rfl
      have e2' : ((M : Int)) % (b : Int) = ((M % b : Nat) : Int) := rfl
      have e3 : ((N : Int)).tdiv (b : Int) = ((N / b : Nat) : Int) := rfl
      have e4 : ((M : Int)).tdiv (b : Int) = ((M / b : Nat) : Int) := rfl
      have A5 : Hid (C + (if b ≤ N % b + M % b + CC.toNat then 1 + Pl.carK b g (N / b) (M / b) 1 else Pl.carK b g (N / b) (M / b) 0) = R) := Lib.hid a5
      have Q1 := Lib.hid q1
      have Q2 := Lib.hid q2
      have A4 := Lib.hid a4
      clear a1 a2 a3 a4 a5 q1 q2
      generalize N % b = rN at *
      generalize M % b = rM at *
      generalize N / b = dN at *
      generalize M / b = dM at *
      have e5 : IntKind.i64.wrap (dN : Int) = (dN : Int) := IntWalk.i64_in _ (by omega)
      have e6 : IntKind.i64.wrap (dM : Int) = (dM : Int) := IntWalk.i64_in _ (by omega)
      have hsum : b ≤ rN + rM + CC.toNat ↔ (b : Int) ≤ (rN : Int) + (rM : Int) + CC := by omega
      have HSUM := Lib.hid hsum
      have hlim : rN + rM + CC.toNat < 2 * b := by omega
      have hquo : ((rN : Int) + (rM : Int) + CC).tdiv (b : Int) = (((rN + rM + CC.toNat) / b : Nat) : Int) := by
        rw [show (rN : Int) + (rM : Int) + CC = ((rN + rM + CC.toNat : Nat) : Int) by omega]; rfl
      have hqv : (rN + rM + CC.toNat) / b = if b ≤ rN + rM + CC.toNat then 1 else 0 := by
        split
        · exact Nat.div_eq_of_lt_le (by omega) (by omega)
        · exact Nat.div_eq_of_lt (by omega)
      rw [hqv] at hquo
      clear hsum hqv hlim
      obtain ⟨RN, hRN⟩ : ∃ RN : Int, (rN : Int) = RN := ⟨_, rfl⟩
      obtain ⟨RM, hRM⟩ : ∃ RM : Int, (rM : Int) = RM := ⟨_, rfl⟩
      rw [hRN] at e1 e1' HSUM hquo
      rw [hRM] at e2 e2' HSUM hquo
      have b1 : 0 ≤ RN ∧ RN < 16 := by omega
      have b2 : 0 ≤ RM ∧ RM < 16 := by omega
      have b3 : 0 ≤ CC ∧ CC ≤ 1 := by omega
      have w1 : IntKind.i64.wrap (RN + RM) = RN + RM := IntWalk.i64_in _ (by omega)
      have w2 : IntKind.i64.wrap (RN + RM + CC) = RN + RM + CC := IntWalk.i64_in _ (by omega)
      clear hRN hRM hNb hMb
      have hCb : C ≤ 29 := by have := A4.out; omega
      by_cases hcar : (b : Int) ≤ RN + RM + CC
      · have HN : Hid (Pl.CarAt b R g dN dM 1 (C + 1)) := Lib.hid ⟨Q1.out, Q2.out, by omega, by have := A4.out; omega, by
          have := A5.out
          rw [if_pos (HSUM.out.2 hcar)] at this; omega⟩
        rw [if_pos (HSUM.out.2 hcar)] at hquo
        replace hquo : (RN + RM + CC).tdiv (b : Int) = 1 := hquo
        have w3 : IntKind.i64.wrap 1 = 1 := rfl
        by_cases hNz : 0 < N
        · have t1 : (0 : Int) < (N : Int) := by omega
          clear hz
          go_wp2_with fail
          go_big_quiet (fail)
          go_wp2_with fail
          go_big_quiet (fail)
          go_wp2_with fail
          go_roundw
          case rel => exact ⟨g, dN, dM, C + 1, _, 1, rfl, rfl, by go_num, rfl, .inr rfl, by omega, by omega, HN.out, by rw [World.drewN_drewN]⟩
          case measure => simp [intOf]; omega
        · have t1 : ¬ (0 : Int) < (N : Int) := by omega
          have t2 : (0 : Int) < (M : Int) := by omega
          clear hz
          go_wp2_with fail
          go_big_quiet (fail)
          go_wp2_with fail
          go_big_quiet (fail)
          go_wp2_with fail
          go_roundw
          case rel => exact ⟨g, dN, dM, C + 1, _, 1, rfl, rfl, by go_num, rfl, .inr rfl, by omega, by omega, HN.out, by rw [World.drewN_drewN]⟩
          case measure => simp [intOf]; omega
      · have HN : Hid (Pl.CarAt b R g dN dM 0 C) := Lib.hid ⟨Q1.out, Q2.out, by omega, by have := A4.out; omega, by
          have := A5.out
          rw [if_neg (fun h => hcar (HSUM.out.1 h))] at this; omega⟩
        rw [if_neg (fun h => hcar (HSUM.out.1 h))] at hquo
        replace hquo : (RN + RM + CC).tdiv (b : Int) = 0 := hquo
        have w3 : IntKind.i64.wrap 0 = 0 := rfl
        by_cases hNz : 0 < N
        · have t1 : (0 : Int) < (N : Int) := by omega
          clear hz
          go_wp2_with fail
          go_big_quiet (fail)
          go_wp2_with fail
          go_big_quiet (fail)
          go_wp2_with fail
          go_roundw
          case rel => exact ⟨g, dN, dM, C, _, 0, rfl, rfl, by go_num, rfl, .inl rfl, by omega, by omega, HN.out, by rw [World.drewN_drewN]⟩
          case measure => simp [intOf]; omega
        · have t1 : ¬ (0 : Int) < (N : Int) := by omega
          have t2 : (0 : Int) < (M : Int) := by omega
          clear hz
          go_wp2_with fail
          go_big_quiet (fail)
          go_wp2_with fail
          go_big_quiet (fail)
          go_wp2_with fail
          go_roundw
          case rel => exact ⟨g, dN, dM, C, _, 0, rfl, rfl, by go_num, rfl, .inl rfl, by omega, by omega, HN.out, by rw [World.drewN_drewN]⟩
          case measure => simp [intOf]; omega

set_option maxHeartbeats 800000 in
theorem implCarriesOf (n m b : Int) (w : World) :
    Calls Try.prog 16 #[.int .i64 n, .int .i64 m, .int .i64 b] w fun e w' => e = .returned (.int .i64 (Pl.carI n m b)) ∧ Below w.heap.size w w' := by
  by_cases h1 : Pl.okB n b = true
  · by_cases h2 : Pl.okB m b = true
    · obtain ⟨x, k, rfl, rfl, g1, g2, g3⟩ := Pl.okB_nat h1
      obtain ⟨y, k', rfl, e, _, _, g4⟩ := Pl.okB_nat h2
      rw [Pl.carI_yes h1 h2]
      exact implCarriesYes x y k g1 g2 g3 g4 w
    · have h2' : Pl.okB m b = false := by simpa using h2
      rw [Pl.carI_no fun h => h2 h.2]
      clear h2
      go_enter Try.func16, Try.ntmps16
      go_wp2_with (go_at_call 40; refine (hasDigits _ _ _).mono ?_; rintro e w' ⟨rfl, rfl⟩; first | rw [h1] | rw [h2'])
      go_ret
      exact ⟨rfl, Below.refl _ _⟩
  · have h1' : Pl.okB n b = false := by simpa using h1
    rw [Pl.carI_no fun h => h1 h.1]
    clear h1
    go_enter Try.func16, Try.ntmps16
    go_wp2_with (go_at_call 40; refine (hasDigits _ _ _).mono ?_; rintro e w' ⟨rfl, rfl⟩; rw [h1'])
    go_ret
    exact ⟨rfl, Below.refl _ _⟩

set_option maxHeartbeats 800000 in
theorem primeBase0 (p : Int) (w : World) :
    Calls Try.prog 21 #[.int .i64 p] w fun e w' => e = .returned (.bool (Pl.primeB p)) ∧ w = w' := by
  by_cases h : Pl.primeB p = true
  · rw [h]
    rw [Pl.primeB, decide_eq_true_eq] at h
    rcases h with rfl | rfl | rfl | rfl | rfl | rfl
    all_goals
      go_enter Try.func21, Try.ntmps21
      go_wp2
      go_ret
      exact ⟨rfl, rfl⟩
  · have h' : Pl.primeB p = false := by simpa using h
    rw [h']
    rw [Pl.primeB, decide_eq_true_eq] at h
    have t2 : (p == 2) = false := by rw [beq_eq_false_iff_ne]; omega
    have t3 : (p == 3) = false := by rw [beq_eq_false_iff_ne]; omega
    have t5 : (p == 5) = false := by rw [beq_eq_false_iff_ne]; omega
    have t7 : (p == 7) = false := by rw [beq_eq_false_iff_ne]; omega
    have t11 : (p == 11) = false := by rw [beq_eq_false_iff_ne]; omega
    have t13 : (p == 13) = false := by rw [beq_eq_false_iff_ne]; omega
    clear h h'
    go_enter Try.func21, Try.ntmps21
    go_wp2
    go_ret
    exact ⟨rfl, rfl⟩

theorem implPrimeBaseOk (p : Int) (w : World) :
    Calls Try.prog 21 #[.int .i64 p] w fun e w' => e = .returned (.bool (Pl.primeB p)) ∧ Below w.heap.size w w' :=
  (primeBase0 p w).mono fun _ _ h => ⟨h.1, by rw [← h.2]; exact Below.refl _ _⟩

set_option maxHeartbeats 800000 in
theorem implProductOften (n p : Int) (w : World) :
    Calls Try.prog 26 #[.int .i64 n, .int .i64 p] w fun e w' => e = .returned (.int .i64 (Pl.oftI n p)) ∧ Below w.heap.size w w' := by
  have HP := Lib.hid (primeBase0 p)
  by_cases hp : Pl.primeB p = true
  · rw [hp] at HP
    obtain ⟨q, rfl, hq⟩ := Pl.primeB_nat hp
    have hq2 := Pl.primes6_ge hq
    by_cases hn : Pl.okB n q = true
    · obtain ⟨x, k, rfl, ek, g1, g2, g3⟩ := Pl.okB_nat hn
      obtain rfl : q = k := by omega
      have e : Pl.oftI x q = ((Pl.oftN q x : Nat) : Int) := by rw [Pl.oftI, if_pos ⟨⟨by omega, by omega⟩, hp⟩]; rfl
      have HS := Lib.hid (implSumOf (x : Int) q)
      rw [Pl.sumI_yes x q hn] at HS
      have hs := Pl.oftK_sum hq2.1 30 x (by omega)
      have hle := Pl.oftN_le hq2.1 g3
      have es : (x : Int) - ((Pl.sumD q x : Nat) : Int) = ((Pl.oftN q x * (q - 1) : Nat) : Int) := by
        have : Pl.oftN q x * (q - 1) + Pl.sumD q x = x := hs
        omega
      have ed : (((Pl.oftN q x * (q - 1) : Nat) : Int)).tdiv ((q : Int) - 1) = ((Pl.oftN q x : Nat) : Int) := by
        rw [show (q : Int) - 1 = ((q - 1 : Nat) : Int) by omega]
        show (((Pl.oftN q x * (q - 1) / (q - 1) : Nat)) : Int) = _
        rw [Nat.mul_div_cancel _ (by omega)]
      have hsb : Pl.sumD q x ≤ x := by
        have : Pl.oftN q x * (q - 1) + Pl.sumD q x = x := hs
        omega
      rw [← es] at ed
      rw [e]
      clear e hs es hp hq ek
      generalize Pl.oftN q x = O at *
      generalize hSS : ((Pl.sumD q x : Nat) : Int) = S at *
      have hS1 : 0 ≤ S ∧ S ≤ (x : Int) := by omega
      clear hSS hsb
      obtain ⟨D, hD⟩ : ∃ D : Int, (x : Int) - S = D := ⟨_, rfl⟩
      have w1 : IntKind.i64.wrap ((x : Int) - S) = (x : Int) - S := IntWalk.i64_in _ (by omega)
      have hne : ((q : Int) - 1 == 0) = false := by rw [beq_eq_false_iff_ne]; omega
      have w3 : IntKind.i64.wrap (O : Int) = (O : Int) := IntWalk.i64_in _ (by omega)
      clear hD
      go_enter Try.func26, Try.ntmps26
      go_wp2_with (first | (go_at_call 21; refine (HP.out _).mono ?_; rintro e w' ⟨rfl, rfl⟩) | (go_at_call 40; refine (hasDigits _ _ _).mono ?_; rintro e w' ⟨rfl, rfl⟩; rw [hn]) | (go_at_call 19; refine (HS.out _).mono ?_; rintro e w1 ⟨rfl, hb1⟩))
      go_ret
      exact ⟨rfl, hb1⟩
    · have hn' : Pl.okB n q = false := by simpa using hn
      have e : Pl.oftI n q = -1 := by
        rw [Pl.oftI, if_neg fun h => hn (by rw [Pl.okB_iff]; omega)]
      rw [e]
      clear e hn hq hp
      go_enter Try.func26, Try.ntmps26
      go_wp2_with (first | (go_at_call 21; refine (HP.out _).mono ?_; rintro e w' ⟨rfl, rfl⟩) | (go_at_call 40; refine (hasDigits _ _ _).mono ?_; rintro e w' ⟨rfl, rfl⟩; rw [hn']))
      go_ret
      exact ⟨rfl, Below.refl _ _⟩
  · rw [Bool.eq_false_iff.2 hp] at HP
    have e : Pl.oftI n p = -1 := by rw [Pl.oftI, if_neg fun h => hp h.2]
    rw [e]
    clear e hp
    go_enter Try.func26, Try.ntmps26
    go_wp2_with (go_at_call 21; refine (HP.out _).mono ?_; rintro e w' ⟨rfl, rfl⟩)
    go_ret
    exact ⟨rfl, Below.refl _ _⟩

set_option maxHeartbeats 800000 in
theorem choiceTold (n k p : Int) (w : World) :
    Calls Try.prog 48 #[.int .i64 n, .int .i64 k, .int .i64 p] w fun e w' => e = .returned (.bool (Pl.chB n k p)) ∧ w = w' := by
  have HP := Lib.hid (primeBase0 p)
  rw [Pl.chB]
  generalize Pl.primeB p = P at *
  cases P
  · rw [Bool.and_false]
    go_enter Try.func48, Try.ntmps48
    go_wp2_with (go_at_call 21; refine (HP.out _).mono ?_; rintro e w' ⟨rfl, rfl⟩)
    go_ret
    exact ⟨rfl, rfl⟩
  · rw [Bool.and_true]
    by_cases h1 : 0 ≤ n
    · by_cases h2 : n ≤ 200
      · by_cases h3 : 0 ≤ k
        · go_enter Try.func48, Try.ntmps48
          go_wp2_with (go_at_call 21; refine (HP.out _).mono ?_; rintro e w' ⟨rfl, rfl⟩)
          go_ret
          exact ⟨by simp [h1, h2, h3], rfl⟩
        · go_enter Try.func48, Try.ntmps48
          go_wp2_with (go_at_call 21; refine (HP.out _).mono ?_; rintro e w' ⟨rfl, rfl⟩)
          go_ret
          exact ⟨by simp; omega, rfl⟩
      · go_enter Try.func48, Try.ntmps48
        go_wp2_with (go_at_call 21; refine (HP.out _).mono ?_; rintro e w' ⟨rfl, rfl⟩)
        go_ret
        exact ⟨by simp; omega, rfl⟩
    · go_enter Try.func48, Try.ntmps48
      go_wp2_with (go_at_call 21; refine (HP.out _).mono ?_; rintro e w' ⟨rfl, rfl⟩)
      go_ret
      exact ⟨by simp; omega, rfl⟩

set_option maxHeartbeats 800000 in
theorem implChoiceOften (n k p : Int) (w : World) :
    Calls Try.prog 29 #[.int .i64 n, .int .i64 k, .int .i64 p] w fun e w' => e = .returned (.int .i64 (Pl.choI n k p)) ∧ Below w.heap.size w w' := by
  have HT := Lib.hid (choiceTold n k p)
  by_cases hc : Pl.chB n k p = true
  · rw [hc] at HT
    obtain ⟨⟨g1, g2⟩, hp⟩ := (Pl.chB_iff n k p).1 hc
    have e : Pl.choI n k p = ((Pl.carN p.toNat k.toNat (n.toNat - k.toNat) : Nat) : Int) := by rw [Pl.choI, if_pos ⟨⟨g1, g2⟩, hp⟩]
    obtain ⟨q, rfl, hq⟩ := Pl.primeB_nat hp
    obtain ⟨x, rfl⟩ : ∃ x : Nat, n = (x : Int) := ⟨n.toNat, by omega⟩
    obtain ⟨y, rfl⟩ : ∃ y : Nat, k = (y : Int) := ⟨k.toNat, by omega⟩
    have hq2 := Pl.primes6_ge hq
    rw [e, Int.toNat_natCast, Int.toNat_natCast, Int.toNat_natCast]
    have HC : Hid (∀ W, Calls Try.prog 16 #[.int .i64 y, .int .i64 ((x : Int) - (y : Int)), .int .i64 q] W fun e W' => e = .returned (.int .i64 ((Pl.carN q y (x - y) : Nat) : Int)) ∧ Below W.heap.size W W') := Lib.hid fun W => by
      have h := implCarriesYes y (x - y) q hq2.1 (by omega) (by omega) (by omega) W
      rw [show ((x - y : Nat) : Int) = (x : Int) - (y : Int) by omega] at h
      exact h
    clear e hp hq hc
    generalize Pl.carN q y (x - y) = O at *
    go_enter Try.func29, Try.ntmps29
    go_wp2_with (first | (go_at_call 48; refine (HT.out _).mono ?_; rintro e w' ⟨rfl, rfl⟩) | (go_at_call 16; refine (HC.out _).mono ?_; rintro e w1 ⟨rfl, hb⟩))
    go_ret
    exact ⟨rfl, hb⟩
  · rw [Bool.eq_false_iff.2 hc] at HT
    have e : Pl.choI n k p = -1 := by rw [Pl.choI, if_neg fun h => hc ((Pl.chB_iff n k p).2 h)]
    rw [e]
    clear e hc
    go_enter Try.func29, Try.ntmps29
    go_wp2_with (go_at_call 48; refine (HT.out _).mono ?_; rintro e w' ⟨rfl, rfl⟩)
    go_ret
    exact ⟨rfl, Below.refl _ _⟩

end Go.Proofs.Ytcepbhmnbfaoeaa
