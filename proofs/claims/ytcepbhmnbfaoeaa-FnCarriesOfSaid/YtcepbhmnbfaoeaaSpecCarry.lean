/-
  spec.CarriesOf, spec.PrimeBaseOk, spec.ProductOften, spec.ChoiceOften: what they answer.
-/
import Derived.Test.YtcepbhmnbfaoeaaDigitsOf
import Derived.Test.YtcepbhmnbfaoeaaMathCarry2
namespace Go.Proofs.Ytcepbhmnbfaoeaa
open Go.RowKit Go.Shelf

/-- What is counted and what is left to add. -/
def Pl.CarAt (b R f N M c C : Nat) : Prop := N < 2 ^ f ∧ M < 2 ^ f ∧ c ≤ 1 ∧ f + C ≤ 30 ∧ C + Pl.carK b f N M c = R

set_option maxHeartbeats 2000000 in
theorem specCarriesYes (n m b : Nat) (hb : 2 ≤ b) (hb' : b ≤ 16) (hn : n ≤ 1000000000) (hm : m ≤ 1000000000) (w : World) :
    Calls Try.prog 17 #[.int .i64 n, .int .i64 m, .int .i64 b] w fun e w' => e = .returned (.int .i64 ((Pl.carN b n m : Nat) : Int)) ∧ Below w.heap.size w w' := by
  have i1 : (decide ((0 : Int) ≤ (n : Int)) && decide ((n : Int) ≤ 1000000000)) = true := by simp; omega
  have i2 : (decide ((0 : Int) ≤ (m : Int)) && decide ((m : Int) ≤ 1000000000)) = true := by simp; omega
  have hB : Pl.baseB b = true := by rw [Pl.baseB_iff]; omega
  have hb0 : ((b : Int) == 0) = false := by rw [beq_eq_false_iff_ne]; omega
  have hb1 : ¬ b = 0 := by omega
  have hb2 : ¬ (b : Int) = 0 := by omega
  obtain ⟨R, hR⟩ : ∃ R, Pl.carN b n m = R := ⟨_, rfl⟩
  have HS : Hid (Pl.CarAt b R 30 n m 0 0) := Lib.hid ⟨by omega, by omega, by omega, by omega, by rw [Nat.zero_add]; exact hR⟩
  rw [hR]
  clear hR
  go_enter Try.func17, Try.ntmps17
  go_wp2_with (first | (go_at_call 41; refine (specIn _ _ _ _).mono ?_; rintro e w' ⟨rfl, rfl⟩; first | rw [i1] | rw [i2]) | (go_at_call 42; refine (specBaseOk _ _).mono ?_; rintro e w' ⟨rfl, rfl⟩; rw [hB]))
  go_loopw [0, 1, 7, 8] (fun nv mv sv cv wr => ∃ (f N M C q : Nat) (CC : Int), nv = .int .i64 N ∧ mv = .int .i64 M ∧ sv = .int .i64 C ∧ cv = .int .i64 CC ∧ (CC = 0 ∨ CC = 1) ∧ N ≤ 1000000000 ∧ M ≤ 1000000000 ∧ Pl.CarAt b R f N M CC.toNat C ∧ wr = w.drewN q) (fun nv mv _ _ _ => (intOf nv).toNat + (intOf mv).toNat)
  case atStart => exact ⟨30, n, m, 0, 0, 0, rfl, rfl, rfl, rfl, .inl rfl, hn, hm, HS.out, rfl⟩
  case round =>
    clear i1 i2 hB HS
    obtain ⟨f, N, M, C, q, CC, rfl, rfl, rfl, rfl, hCC, hN, hM, hAt, rfl⟩ := hrel
    by_cases hz : N = 0 ∧ M = 0
    · obtain ⟨rfl, rfl⟩ := hz
      have HE : Hid (C = R) := Lib.hid (by
        have := hAt.2.2.2.2
        rw [Pl.carK_zero, Nat.add_zero] at this; exact this)
      clear hAt
      go_wp2_with fail
      go_ret
      exact ⟨ret_int (by rw [HE.out]), drewN_below w q⟩
    · obtain ⟨a1, a2, a3, a4, a5⟩ := hAt
      obtain ⟨g, rfl⟩ : ∃ g, f = g + 1 := ⟨f - 1, by
        have : f ≠ 0 := fun e => by rw [e] at a1 a2; simp at a1 a2; omega
        omega⟩
      rw [Pl.carK, if_neg hz] at a5
      have q1 : N / b < 2 ^ g := by
        have g1 : N / b ≤ N / 2 := Nat.div_le_div_left hb (by omega)
        rw [Nat.pow_succ] at a1; omega
      have q2 : M / b < 2 ^ g := by
        have g1 : M / b ≤ M / 2 := Nat.div_le_div_left hb (by omega)
        rw [Nat.pow_succ] at a2; omega
      have hNb : N % b < b := Nat.mod_lt _ (by omega)
      have hMb : M % b < b := Nat.mod_lt _ (by omega)
      have hNd : N / b ≤ N := Nat.div_le_self _ _
      have hMd : M / b ≤ M := Nat.div_le_self _ _
      have hless : N / b + M / b < N + M := by
        by_cases h : 0 < N
        · have := Nat.div_lt_self h (show 1 < b by omega); omega
        · have := Nat.div_lt_self (show 0 < M by omega) (show 1 < b by omega); omega
      have e1 : ((N : Int)).tmod (b : Int) = ((N % b : Nat) : Int) := rfl
      have e2 : ((M : Int)).tmod (b : Int) = ((M % b : Nat) : Int) := rfl
      have e1' : ((N : Int)) % (b : Int) = ((N % b : Nat) : Int) := rfl
      have e2' : ((M : Int)) % (b : Int) = ((M % b : Nat) : Int) := rfl
      have e3 : ((N : Int)).tdiv (b : Int) = ((N / b : Nat) : Int) := rfl
      have e4 : ((M : Int)).tdiv (b : Int) = ((M / b : Nat) : Int) := rfl
      have A5 : Hid (C + (if b ≤ N % b + M % b + CC.toNat then 1 + Pl.carK b g (N / b) (M / b) 1 else Pl.carK b g (N / b) (M / b) 0) = R) := Lib.hid a5
      have Q1 := Lib.hid q1
      have Q2 := Lib.hid q2
      have A4 := Lib.hid a4
      clear a1 a2 a3 a4 a5 q1 q2
      generalize N % b = rN at *
      generalize M % b = rM at *
      generalize N / b = dN at *
      generalize M / b = dM at *
      have e5 : IntKind.i64.wrap (dN : Int) = (dN : Int) := IntWalk.i64_in _ (by omega)
      have e6 : IntKind.i64.wrap (dM : Int) = (dM : Int) := IntWalk.i64_in _ (by omega)
      have hsum : b ≤ rN + rM + CC.toNat ↔ (b : Int) ≤ (rN : Int) + (rM : Int) + CC := by omega
      have HSUM := Lib.hid hsum
      clear hsum
      obtain ⟨RN, hRN⟩ : ∃ RN : Int, (rN : Int) = RN := ⟨_, rfl⟩
      obtain ⟨RM, hRM⟩ : ∃ RM : Int, (rM : Int) = RM := ⟨_, rfl⟩
      rw [hRN] at e1 e1' HSUM
      rw [hRM] at e2 e2' HSUM
      have b1 : 0 ≤ RN ∧ RN < 16 := by omega
      have b2 : 0 ≤ RM ∧ RM < 16 := by omega
      have b3 : 0 ≤ CC ∧ CC ≤ 1 := by omega
      have w1 : IntKind.i64.wrap (RN + RM) = RN + RM := IntWalk.i64_in _ (by omega)
      have w2 : IntKind.i64.wrap (RN + RM + CC) = RN + RM + CC := IntWalk.i64_in _ (by omega)
      clear hRN hRM hNb hMb
      have hCb : C ≤ 29 := by have := A4.out; omega
      by_cases hcar : (b : Int) ≤ RN + RM + CC
      · have hd : decide ((b : Int) ≤ RN + RM + CC) = true := by simpa using hcar
        have HN : Hid (Pl.CarAt b R g dN dM 1 (C + 1)) := Lib.hid ⟨Q1.out, Q2.out, by omega, by have := A4.out; omega, by
          have := A5.out
          rw [if_pos (HSUM.out.2 hcar)] at this; omega⟩
        by_cases hNz : 0 < N
        · have t1 : (0 : Int) < (N : Int) := by omega
          clear hz
          go_wp2_with fail
          go_big_quiet (fail)
          go_wp2_with fail
          go_roundw
          case rel => exact ⟨g, dN, dM, C + 1, q + nq, 1, rfl, rfl, by go_num, rfl, .inr rfl, by omega, by omega, HN.out, rfl⟩
          case measure => simp [intOf]; omega
        · have t1 : ¬ (0 : Int) < (N : Int) := by omega
          have t2 : (0 : Int) < (M : Int) := by omega
          clear hz
          go_wp2_with fail
          go_big_quiet (fail)
          go_wp2_with fail
          go_roundw
          case rel => exact ⟨g, dN, dM, C + 1, q + nq, 1, rfl, rfl, by go_num, rfl, .inr rfl, by omega, by omega, HN.out, rfl⟩
          case measure => simp [intOf]; omega
      · have hd : decide ((b : Int) ≤ RN + RM + CC) = false := by simpa using hcar
        have HN : Hid (Pl.CarAt b R g dN dM 0 C) := Lib.hid ⟨Q1.out, Q2.out, by omega, by have := A4.out; omega, by
          have := A5.out
          rw [if_neg (fun h => hcar (HSUM.out.1 h))] at this; omega⟩
        by_cases hNz : 0 < N
        · have t1 : (0 : Int) < (N : Int) := by omega
          clear hz
          go_wp2_with fail
          go_big_quiet (fail)
          go_wp2_with fail
          go_roundw
          case rel => exact ⟨g, dN, dM, C, q + nq, 0, rfl, rfl, rfl, rfl, .inl rfl, by omega, by omega, HN.out, rfl⟩
          case measure => simp [intOf]; omega
        · have t1 : ¬ (0 : Int) < (N : Int) := by omega
          have t2 : (0 : Int) < (M : Int) := by omega
          clear hz
          go_wp2_with fail
          go_big_quiet (fail)
          go_wp2_with fail
          go_roundw
          case rel => exact ⟨g, dN, dM, C, q + nq, 0, rfl, rfl, rfl, rfl, .inl rfl, by omega, by omega, HN.out, rfl⟩
          case measure => simp [intOf]; omega

set_option maxHeartbeats 800000 in
theorem specCarriesOf (n m b : Int) (w : World) :
    Calls Try.prog 17 #[.int .i64 n, .int .i64 m, .int .i64 b] w fun e w' => e = .returned (.int .i64 (Pl.carI n m b)) ∧ Below w.heap.size w w' := by
  by_cases h1 : (decide (0 ≤ n) && decide (n ≤ 1000000000)) = true
  · by_cases h2 : (decide (0 ≤ m) && decide (m ≤ 1000000000)) = true
    · by_cases hB : Pl.baseB b = true
      · have k1 : Pl.okB n b = true := by rw [okB_halves, h1, hB]; rfl
        have k2 : Pl.okB m b = true := by rw [okB_halves, h2, hB]; rfl
        obtain ⟨x, k, rfl, rfl, g1, g2, g3⟩ := Pl.okB_nat k1
        obtain ⟨y, k', rfl, e, _, _, g4⟩ := Pl.okB_nat k2
        rw [Pl.carI_yes k1 k2]
        exact specCarriesYes x y k g1 g2 g3 g4 w
      · have hB' : Pl.baseB b = false := by simpa using hB
        rw [Pl.carI_no fun h => by rw [okB_halves, h1] at h; exact hB (by simpa using h.1)]
        clear hB
        go_enter Try.func17, Try.ntmps17
        go_wp2_with (first | (go_at_call 41; refine (specIn _ _ _ _).mono ?_; rintro e w' ⟨rfl, rfl⟩; first | rw [h1] | rw [h2]) | (go_at_call 42; refine (specBaseOk _ _).mono ?_; rintro e w' ⟨rfl, rfl⟩; rw [hB']))
        go_ret
        exact ⟨rfl, Below.refl _ _⟩
    · have h2' : (decide (0 ≤ m) && decide (m ≤ 1000000000)) = false := by simpa using h2
      rw [Pl.carI_no fun h => by
        have := h.2
        rw [okB_halves] at this; simp [h2'] at this]
      clear h2
      go_enter Try.func17, Try.ntmps17
      go_wp2_with (first | (go_at_call 41; refine (specIn _ _ _ _).mono ?_; rintro e w' ⟨rfl, rfl⟩; first | rw [h1] | rw [h2']))
      go_ret
      exact ⟨rfl, Below.refl _ _⟩
  · have h1' : (decide (0 ≤ n) && decide (n ≤ 1000000000)) = false := by simpa using h1
    rw [Pl.carI_no fun h => by
      have := h.1
      rw [okB_halves] at this; simp [h1'] at this]
    clear h1
    go_enter Try.func17, Try.ntmps17
    go_wp2_with (first | (go_at_call 41; refine (specIn _ _ _ _).mono ?_; rintro e w' ⟨rfl, rfl⟩; rw [h1']))
    go_ret
    exact ⟨rfl, Below.refl _ _⟩

theorem Pl.oftN_le {p n : Nat} (hp : 2 ≤ p) (hn : n ≤ 1000000000) : Pl.oftN p n ≤ n := by
  have h := Pl.oftK_sum hp 30 n (by omega)
  have : Pl.oftK p 30 n ≤ Pl.oftK p 30 n * (p - 1) := Nat.le_mul_of_pos_right _ (by omega)
  show Pl.oftK p 30 n ≤ n
  omega

theorem Pl.oftK_zero (p : Nat) : ∀ f, Pl.oftK p f 0 = 0 := by
  intro f
  induction f with
  | zero => rfl
  | succ f ih => rw [Pl.oftK, Nat.zero_div, ih]

set_option maxHeartbeats 1000000 in
theorem l10Often (n p : Nat) (hp : 2 ≤ p) (hp' : p ≤ 1000000000) (hn : n ≤ 1000000000) (w : World) :
    Calls Try.prog 46 #[.int .i64 n, .int .i64 p] w fun e w' => e = .returned (.int .i64 ((Pl.oftN p n : Nat) : Int)) ∧ w = w' := by
  have hle := Pl.oftN_le hp hn
  have hne : ((p : Int) == 0) = false := by rw [beq_eq_false_iff_ne]; omega
  obtain ⟨R, hR⟩ : ∃ R, Pl.oftN p n = R := ⟨_, rfl⟩
  have HS : Hid (0 + (n / p + Pl.oftK p 29 (n / p)) = R) := Lib.hid (by rw [Nat.zero_add]; exact hR)
  rw [hR] at hle ⊢
  clear hR
  have hq : n / p < 2 ^ 29 := by
    have : n / p ≤ n / 2 := Nat.div_le_div_left hp (by omega)
    omega
  have HQ := Lib.hid hq
  have e1 : ((n : Int)).tdiv (p : Int) = ((n / p : Nat) : Int) := rfl
  have hq' := Nat.div_le_self n p
  clear hq
  generalize n / p = Q at *
  have e2 : IntKind.i64.wrap (Q : Int) = (Q : Int) := IntWalk.i64_in _ (by omega)
  go_enter Try.func46, Try.ntmps46
  go_wp2
  go_loop [5, 6] (fun sv lv => ∃ f S left : Nat, sv = .int .i64 S ∧ lv = .int .i64 left ∧ left ≤ 1000000000 ∧ left < 2 ^ f ∧ S + (left + Pl.oftK p f left) = R) (fun _ lv => (intOf lv).toNat)
  case atStart => exact ⟨29, 0, Q, rfl, rfl, by omega, HQ.out, HS.out⟩
  case round =>
    clear e1 e2 HS HQ hq'
    obtain ⟨f, S, left, rfl, rfl, hl, hf, hs⟩ := hrel
    by_cases h0 : 0 < left
    · obtain ⟨g, rfl⟩ : ∃ g, f = g + 1 := ⟨f - 1, by
        have : f ≠ 0 := fun e => by rw [e] at hf; simp at hf; omega
        omega⟩
      rw [Pl.oftK] at hs
      have hi : (0 : Int) < (left : Int) := by omega
      have e1 : ((left : Int)).tdiv (p : Int) = ((left / p : Nat) : Int) := rfl
      have q1 : left / p < 2 ^ g := by
        have g1 : left / p ≤ left / 2 := Nat.div_le_div_left hp (by omega)
        rw [Nat.pow_succ] at hf; omega
      have q2 : left / p < left := Nat.div_lt_self h0 (by omega)
      have HS := Lib.hid hs
      have Q1 := Lib.hid q1
      have hsb : S + left ≤ R := by rw [← hs]; exact Nat.add_le_add_left (Nat.le_add_right _ _) _
      clear hs hf q1
      generalize left / p = D at *
      have e2 : IntKind.i64.wrap (D : Int) = (D : Int) := IntWalk.i64_in _ (by omega)
      obtain ⟨SS, hSS⟩ : ∃ SS : Int, (S : Int) = SS := ⟨_, rfl⟩
      have b1 : 0 ≤ SS ∧ SS + (left : Int) ≤ 1000000000 := by omega
      have HSS : Hid (SS + (left : Int) = ((S + left : Nat) : Int)) := Lib.hid (by omega)
      rw [hSS]
      clear hSS hsb
      go_wp2
      go_round
      case rel => exact ⟨g, S + left, D, by rw [HSS.out], rfl, by omega, Q1.out, by have := HS.out; omega⟩
      case measure => simp [intOf]; omega
    · obtain rfl : left = 0 := by omega
      rw [Pl.oftK_zero] at hs
      have HE : Hid (S = R) := Lib.hid (by omega)
      clear hs
      go_wp2
      go_ret
      exact ⟨ret_int (by rw [HE.out]), rfl⟩

set_option maxHeartbeats 800000 in
theorem specPrimeBaseOk (p : Int) (w : World) :
    Calls Try.prog 22 #[.int .i64 p] w fun e w' => e = .returned (.bool (Pl.primeB p)) ∧ w = w' := by
  by_cases h2 : p = 2
  · subst h2
    go_enter Try.func22, Try.ntmps22
    go_wp2
    go_ret
    exact ⟨rfl, rfl⟩
  by_cases h3 : p = 3
  · subst h3
    go_enter Try.func22, Try.ntmps22
    go_wp2
    go_ret
    exact ⟨rfl, rfl⟩
  by_cases h5 : p = 5
  · subst h5
    go_enter Try.func22, Try.ntmps22
    go_wp2
    go_ret
    exact ⟨rfl, rfl⟩
  by_cases h7 : p = 7
  · subst h7
    go_enter Try.func22, Try.ntmps22
    go_wp2
    go_ret
    exact ⟨rfl, rfl⟩
  by_cases h11 : p = 11
  · subst h11
    go_enter Try.func22, Try.ntmps22
    go_wp2
    go_ret
    exact ⟨rfl, rfl⟩
  · have e : Pl.primeB p = (p == 13) := by
      rw [Bool.eq_iff_iff, beq_iff_eq, Pl.primeB, decide_eq_true_eq]; omega
    rw [e]
    have t2 : (p == 2) = false := by simpa using h2
    have t3 : (p == 3) = false := by simpa using h3
    have t5 : (p == 5) = false := by simpa using h5
    have t7 : (p == 7) = false := by simpa using h7
    have t11 : (p == 11) = false := by simpa using h11
    clear h2 h3 h5 h7 h11 e
    go_enter Try.func22, Try.ntmps22
    go_wp2
    go_ret
    exact ⟨rfl, rfl⟩

set_option maxHeartbeats 400000 in
theorem specProductOften (n p : Int) (w : World) :
    Calls Try.prog 27 #[.int .i64 n, .int .i64 p] w fun e w' => e = .returned (.int .i64 (Pl.oftI n p)) ∧ w = w' := by
  have HP := Lib.hid (specPrimeBaseOk p)
  by_cases hn : (decide (0 ≤ n) && decide (n ≤ 1000000000)) = true
  · have hn' : 0 ≤ n ∧ n ≤ 1000000000 := by simpa using hn
    by_cases hp : Pl.primeB p = true
    · rw [hp] at HP
      have e : Pl.oftI n p = ((Pl.oftN p.toNat n.toNat : Nat) : Int) := by rw [Pl.oftI, if_pos ⟨hn', hp⟩]
      obtain ⟨q, rfl, hq⟩ := Pl.primeB_nat hp
      obtain ⟨x, rfl⟩ : ∃ x : Nat, n = (x : Int) := ⟨n.toNat, by omega⟩
      have hq2 := Pl.primes6_ge hq
      rw [e, Int.toNat_natCast, Int.toNat_natCast]
      have HO := Lib.hid (l10Often x q hq2.1 (by omega) (by omega))
      clear e hp hq hn'
      generalize Pl.oftN q x = O at *
      go_enter Try.func27, Try.ntmps27
      go_wp2_with (first | (go_at_call 41; refine (specIn _ _ _ _).mono ?_; rintro e w' ⟨rfl, rfl⟩; rw [hn]) | (go_at_call 22; refine (HP.out _).mono ?_; rintro e w' ⟨rfl, rfl⟩) | (go_at_call 46; refine (HO.out _).mono ?_; rintro e w' ⟨rfl, rfl⟩))
      go_ret
      exact ⟨rfl, rfl⟩
    · rw [Bool.eq_false_iff.2 hp] at HP
      have e : Pl.oftI n p = -1 := by rw [Pl.oftI, if_neg fun h => hp h.2]
      rw [e]
      clear e hp hn'
      go_enter Try.func27, Try.ntmps27
      go_wp2_with (first | (go_at_call 41; refine (specIn _ _ _ _).mono ?_; rintro e w' ⟨rfl, rfl⟩; rw [hn]) | (go_at_call 22; refine (HP.out _).mono ?_; rintro e w' ⟨rfl, rfl⟩))
      go_ret
      exact ⟨rfl, rfl⟩
  · have hn' : (decide (0 ≤ n) && decide (n ≤ 1000000000)) = false := by simpa using hn
    have e : Pl.oftI n p = -1 := by rw [Pl.oftI, if_neg fun h => hn (by simpa using h.1)]
    rw [e]
    clear e hn
    go_enter Try.func27, Try.ntmps27
    go_wp2_with (first | (go_at_call 41; refine (specIn _ _ _ _).mono ?_; rintro e w' ⟨rfl, rfl⟩; rw [hn']))
    go_ret
    exact ⟨rfl, rfl⟩

/-- Whether a choice is asked of that is told. -/
def Pl.chB (n k p : Int) : Bool := ((decide (0 ≤ n) && decide (n ≤ 200)) && (decide (0 ≤ k) && decide (k ≤ n))) && Pl.primeB p
theorem Pl.chB_iff (n k p : Int) : Pl.chB n k p = true ↔ ((0 ≤ n ∧ n ≤ 200) ∧ 0 ≤ k ∧ k ≤ n) ∧ Pl.primeB p = true := by
  simp only [Pl.chB, Bool.and_eq_true, decide_eq_true_eq]

set_option maxHeartbeats 800000 in
theorem specChoiceOften (n k p : Int) (w : World) :
    Calls Try.prog 30 #[.int .i64 n, .int .i64 k, .int .i64 p] w fun e w' => e = .returned (.int .i64 (Pl.choI n k p)) ∧ Below w.heap.size w w' := by
  have HP := Lib.hid (specPrimeBaseOk p)
  by_cases h1 : (decide (0 ≤ n) && decide (n ≤ 200)) = true
  · by_cases h2 : (decide (0 ≤ k) && decide (k ≤ n)) = true
    · have g1 : 0 ≤ n ∧ n ≤ 200 := by simpa using h1
      have g2 : 0 ≤ k ∧ k ≤ n := by simpa using h2
      by_cases hp : Pl.primeB p = true
      · rw [hp] at HP
        have e : Pl.choI n k p = ((Pl.carN p.toNat k.toNat (n.toNat - k.toNat) : Nat) : Int) := by rw [Pl.choI, if_pos ⟨⟨g1, g2⟩, hp⟩]
        obtain ⟨q, rfl, hq⟩ := Pl.primeB_nat hp
        obtain ⟨x, rfl⟩ : ∃ x : Nat, n = (x : Int) := ⟨n.toNat, by omega⟩
        obtain ⟨y, rfl⟩ : ∃ y : Nat, k = (y : Int) := ⟨k.toNat, by omega⟩
        have hq2 := Pl.primes6_ge hq
        rw [e, Int.toNat_natCast, Int.toNat_natCast, Int.toNat_natCast]
        have HC : Hid (∀ W, Calls Try.prog 17 #[.int .i64 y, .int .i64 ((x : Int) - (y : Int)), .int .i64 q] W fun e W' => e = .returned (.int .i64 ((Pl.carN q y (x - y) : Nat) : Int)) ∧ Below W.heap.size W W') := Lib.hid fun W => by
          have h := specCarriesYes y (x - y) q hq2.1 (by omega) (by omega) (by omega) W
          rw [show ((x - y : Nat) : Int) = (x : Int) - (y : Int) by omega] at h
          exact h
        clear e hp hq
        generalize Pl.carN q y (x - y) = O at *
        go_enter Try.func30, Try.ntmps30
        go_wp2_with (first | (go_at_call 41; refine (specIn _ _ _ _).mono ?_; rintro e w' ⟨rfl, rfl⟩; first | rw [h1] | rw [h2]) | (go_at_call 22; refine (HP.out _).mono ?_; rintro e w' ⟨rfl, rfl⟩) | (go_at_call 17; refine (HC.out _).mono ?_; rintro e w1 ⟨rfl, hb⟩))
        go_ret
        exact ⟨rfl, hb⟩
      · rw [Bool.eq_false_iff.2 hp] at HP
        have e : Pl.choI n k p = -1 := by rw [Pl.choI, if_neg fun h => hp h.2]
        rw [e]
        clear e hp g1 g2
        go_enter Try.func30, Try.ntmps30
        go_wp2_with (first | (go_at_call 41; refine (specIn _ _ _ _).mono ?_; rintro e w' ⟨rfl, rfl⟩; first | rw [h1] | rw [h2]) | (go_at_call 22; refine (HP.out _).mono ?_; rintro e w' ⟨rfl, rfl⟩))
        go_ret
        exact ⟨rfl, Below.refl _ _⟩
    · have h2' : (decide (0 ≤ k) && decide (k ≤ n)) = false := by simpa using h2
      have e : Pl.choI n k p = -1 := by rw [Pl.choI, if_neg fun h => h2 (by simpa using h.1.2)]
      rw [e]
      clear e h2
      go_enter Try.func30, Try.ntmps30
      go_wp2_with (first | (go_at_call 41; refine (specIn _ _ _ _).mono ?_; rintro e w' ⟨rfl, rfl⟩; first | rw [h1] | rw [h2']))
      go_ret
      exact ⟨rfl, Below.refl _ _⟩
  · have h1' : (decide (0 ≤ n) && decide (n ≤ 200)) = false := by simpa using h1
    have e : Pl.choI n k p = -1 := by rw [Pl.choI, if_neg fun h => h1 (by simpa using h.1.1)]
    rw [e]
    clear e h1
    go_enter Try.func30, Try.ntmps30
    go_wp2_with (first | (go_at_call 41; refine (specIn _ _ _ _).mono ?_; rintro e w' ⟨rfl, rfl⟩; rw [h1']))
    go_ret
    exact ⟨rfl, Below.refl _ _⟩

end Go.Proofs.Ytcepbhmnbfaoeaa
