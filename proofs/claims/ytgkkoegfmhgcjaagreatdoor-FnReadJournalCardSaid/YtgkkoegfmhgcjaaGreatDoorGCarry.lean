/-
  spec.CarriesOf, spec.PrimeBaseOk, spec.ProductOften, spec.ChoiceOften: what they answer.
-/
import Derived.Test.YtgkkoegfmhgcjaaGreatDoorGNum
import Derived.Test.YtgkkoegfmhgcjaaGreatDoorGPlain
import Derived.Deep.AppendLies
import Derived.Laws.Rows
namespace Go.Proofs.YtgkkoegfmhgcjaaGreatDoor
open Go.RowKit Go.Shelf

/-- What is counted and what is left to add. -/
def Pl.CarAt (b R f N M c C : Nat) : Prop := N < 2 ^ f ∧ M < 2 ^ f ∧ c ≤ 1 ∧ f + C ≤ 30 ∧ C + Pl.carK b f N M c = R

set_option maxHeartbeats 2000000 in
theorem specCarriesYes (n m b : Nat) (hb : 2 ≤ b) (hb' : b ≤ 16) (hn : n ≤ 1000000000) (hm : m ≤ 1000000000) (w : World) :
    Calls Tryz.prog 77 #[.int .i64 n, .int .i64 m, .int .i64 b] w fun e w' => e = .returned (.int .i64 ((Pl.carN b n m : Nat) : Int)) ∧ Below w.heap.size w w' := by
  have i1 : (decide ((0 : Int) ≤ (n : Int)) && decide ((n : Int) ≤ 1000000000)) = true := by simp; omega
  have i2 : (decide ((0 : Int) ≤ (m : Int)) && decide ((m : Int) ≤ 1000000000)) = true := by simp; omega
  have hB : Pl.baseB b = true := by rw [Pl.baseB_iff]; omega
  have hb0 : ((b : Int) == 0) = false := by rw [beq_eq_false_iff_ne]; omega
  have hb1 : ¬ b = 0 := by omega
  have hb2 : ¬ (b : Int) = 0 := by omega
  obtain ⟨R, hR⟩ : ∃ R, Pl.carN b n m = R := ⟨_, rfl⟩
  have HS : Hid (Pl.CarAt b R 30 n m 0 0) := Lib.hid ⟨by omega, by omega, by omega, by omega, by rw [Nat.zero_add]; exact hR⟩
  rw [hR]
  clear hR
  go_enter Tryz.func77, Tryz.ntmps77
  go_wp2_with (first | (go_at_call 49; refine (specIn _ _ _ _).mono ?_; rintro e w' ⟨rfl, rfl⟩; first | rw [i1] | rw [i2]) | (go_at_call 50; refine (specBaseOk _ _).mono ?_; rintro e w' ⟨rfl, rfl⟩; rw [hB]))
  go_loopw [0, 1, 7, 8] (fun nv mv sv cv wr => ∃ (f N M C q : Nat) (CC : Int), nv = .int .i64 N ∧ mv = .int .i64 M ∧ sv = .int .i64 C ∧ cv = .int .i64 CC ∧ (CC = 0 ∨ CC = 1) ∧ N ≤ 1000000000 ∧ M ≤ 1000000000 ∧ Pl.CarAt b R f N M CC.toNat C ∧ wr = w.drewN q) (fun nv mv _ _ _ => (intOf nv).toNat + (intOf mv).toNat)
  case atStart => exact ⟨30, n, m, 0, 0, 0, rfl, rfl, rfl, rfl, .inl rfl, hn, hm, HS.out, rfl⟩
  case round =>
    clear i1 i2 hB HS
    obtain ⟨f, N, M, C, q, CC, rfl, rfl, rfl, rfl, hCC, hN, hM, hAt, rfl⟩ := hrel
    by_cases hz : N = 0 ∧ M = 0
    · obtain ⟨rfl, rfl⟩ := hz
      have HE : Hid (C = R) := Lib.hid (by
        have := hAt.2.2.2.2
        rw [Pl.carK_zero, Nat.add_zero] at this; exact this)
      clear hAt
      go_wp2_with fail
      go_ret
      exact ⟨ret_int (by rw [HE.out]), drewN_below w q⟩
    · obtain ⟨a1, a2, a3, a4, a5⟩ := hAt
      obtain ⟨g, rfl⟩ : ∃ g, f = g + 1 := ⟨f - 1, by
        have : f ≠ 0 := fun e => by rw [e] at a1 a2; simp at a1 a2; omega
        omega⟩
      rw [Pl.carK, if_neg hz] at a5
      have q1 : N / b < 2 ^ g := by
        have g1 : N / b ≤ N / 2 := Nat.div_le_div_left hb (by omega)
        rw [Nat.pow_succ] at a1; omega
      have q2 : M / b < 2 ^ g := by
        have g1 : M / b ≤ M / 2 := Nat.div_le_div_left hb (by omega)
        rw [Nat.pow_succ] at a2; omega
      have hNb : N % b < b := Nat.mod_lt _ (by omega)
      have hMb : M % b < b := Nat.mod_lt _ (by omega)
      have hNd : N / b ≤ N := Nat.div_le_self _ _
      have hMd : M / b ≤ M := Nat.div_le_self _ _
      have hless : N / b + M / b < N + M := by
        by_cases h : 0 < N
        · have := Nat.div_lt_self h (show 1 < b by omega); omega
        · have := Nat.div_lt_self (show 0 < M by omega) (show 1 < b by omega); omega
      have e1 : ((N : Int)).tmod (b : Int) = ((N % b : Nat) : Int) := rfl
      have e2 : ((M : Int)).tmod (b : Int) = ((M % b : Nat) : Int) := rfl
      have e1' : ((N : Int)) % (b : Int) = ((N % b : Nat) : Int) := rfl
      have e2' : ((M : Int)) % (b : Int) = ((M % b : Nat) : Int) := rfl
      have e3 : ((N : Int)).tdiv (b : Int) = ((N / b : Nat) : Int) := rfl
      have e4 : ((M : Int)).tdiv (b : Int) = ((M / b : Nat) : Int) := rfl
      have A5 : Hid (C + (if b ≤ N % b + M % b + CC.toNat then 1 + Pl.carK b g (N / b) (M / b) 1 else Pl.carK b g (N / b) (M / b) 0) = R) := Lib.hid a5
      have Q1 := Lib.hid q1
      have Q2 := Lib.hid q2
      have A4 := Lib.hid a4
      clear a1 a2 a3 a4 a5 q1 q2
      generalize N % b = rN at *
      generalize M % b = rM at *
      generalize N / b = dN at *
      generalize M / b = dM at *
      have e5 : IntKind.i64.wrap (dN : Int) = (dN : Int) := IntWalk.i64_in _ (by omega)
      have e6 : IntKind.i64.wrap (dM : Int) = (dM : Int) := IntWalk.i64_in _ (by omega)
      have hsum : b ≤ rN + rM + CC.toNat ↔ (b : Int) ≤ (rN : Int) + (rM : Int) + CC := by omega
      have HSUM := Lib.hid hsum
      clear hsum
      obtain ⟨RN, hRN⟩ : ∃ RN : Int, (rN : Int) = RN := ⟨_, rfl⟩
      obtain ⟨RM, hRM⟩ : ∃ RM : Int, (rM : Int) = RM := ⟨_, rfl⟩
      rw [hRN] at e1 e1' HSUM
      rw [hRM] at e2 e2' HSUM
      have b1 : 0 ≤ RN ∧ RN < 16 := by omega
      have b2 : 0 ≤ RM ∧ RM < 16 := by omega
      have b3 : 0 ≤ CC ∧ CC ≤ 1 := by omega
      have w1 : IntKind.i64.wrap (RN + RM) = RN + RM := IntWalk.i64_in _ (by omega)
      have w2 : IntKind.i64.wrap (RN + RM + CC) = RN + RM + CC := IntWalk.i64_in _ (by omega)
      clear hRN hRM hNb hMb
      have hCb : C ≤ 29 := by have := A4.out; omega
      by_cases hcar : (b : Int) ≤ RN + RM + CC
      · have hd : decide ((b : Int) ≤ RN + RM + CC) = true := by simpa using hcar
        have HN : Hid (Pl.CarAt b R g dN dM 1 (C + 1)) := Lib.hid ⟨Q1.out, Q2.out, by omega, by have := A4.out; omega, by
          have := A5.out
          rw [if_pos (HSUM.out.2 hcar)] at this; omega⟩
        by_cases hNz : 0 < N
        · have t1 : (0 : Int) < (N : Int) := by omega
          clear hz
          go_wp2_with fail
          go_big_quiet (fail)
          go_wp2_with fail
          go_roundw
          case rel => exact ⟨g, dN, dM, C + 1, q + nq, 1, rfl, rfl, by go_num, rfl, .inr rfl, by omega, by omega, HN.out, rfl⟩
          case measure => simp [intOf]; omega
        · have t1 : ¬ (0 : Int) < (N : Int) := by omega
          have t2 : (0 : Int) < (M : Int) := by omega
          clear hz
          go_wp2_with fail
          go_big_quiet (fail)
          go_wp2_with fail
          go_roundw
          case rel => exact ⟨g, dN, dM, C + 1, q + nq, 1, rfl, rfl, by go_num, rfl, .inr rfl, by omega, by omega, HN.out, rfl⟩
          case measure => simp [intOf]; omega
      · have hd : decide ((b : Int) ≤ RN + RM + CC) = false := by simpa using hcar
        have HN : Hid (Pl.CarAt b R g dN dM 0 C) := Lib.hid ⟨Q1.out, Q2.out, by omega, by have := A4.out; omega, by
          have := A5.out
          rw [if_neg (fun h => hcar (HSUM.out.1 h))] at this; omega⟩
        by_cases hNz : 0 < N
        · have t1 : (0 : Int) < (N : Int) := by omega
          clear hz
          go_wp2_with fail
          go_big_quiet (fail)
          go_wp2_with fail
          go_roundw
          case rel => exact ⟨g, dN, dM, C, q + nq, 0, rfl, rfl, rfl, rfl, .inl rfl, by omega, by omega, HN.out, rfl⟩
          case measure => simp [intOf]; omega
        · have t1 : ¬ (0 : Int) < (N : Int) := by omega
          have t2 : (0 : Int) < (M : Int) := by omega
          clear hz
          go_wp2_with fail
          go_big_quiet (fail)
          go_wp2_with fail
          go_roundw
          case rel => exact ⟨g, dN, dM, C, q + nq, 0, rfl, rfl, rfl, rfl, .inl rfl, by omega, by omega, HN.out, rfl⟩
          case measure => simp [intOf]; omega

set_option maxHeartbeats 800000 in
theorem specCarriesOf (n m b : Int) (w : World) :
    Calls Tryz.prog 77 #[.int .i64 n, .int .i64 m, .int .i64 b] w fun e w' => e = .returned (.int .i64 (Pl.carI n m b)) ∧ Below w.heap.size w w' := by
  by_cases h1 : (decide (0 ≤ n) && decide (n ≤ 1000000000)) = true
  · by_cases h2 : (decide (0 ≤ m) && decide (m ≤ 1000000000)) = true
    · by_cases hB : Pl.baseB b = true
      · have k1 : Pl.okB n b = true := by rw [okB_halves, h1, hB]; rfl
        have k2 : Pl.okB m b = true := by rw [okB_halves, h2, hB]; rfl
        obtain ⟨x, k, rfl, rfl, g1, g2, g3⟩ := Pl.okB_nat k1
        obtain ⟨y, k', rfl, e, _, _, g4⟩ := Pl.okB_nat k2
        rw [Pl.carI_yes k1 k2]
        exact specCarriesYes x y k g1 g2 g3 g4 w
      · have hB' : Pl.baseB b = false := by simpa using hB
        rw [Pl.carI_no fun h => by rw [okB_halves, h1] at h; exact hB (by simpa using h.1)]
        clear hB
        go_enter Tryz.func77, Tryz.ntmps77
        go_wp2_with (first | (go_at_call 49; refine (specIn _ _ _ _).mono ?_; rintro e w' ⟨rfl, rfl⟩; first | rw [h1] | rw [h2]) | (go_at_call 50; refine (specBaseOk _ _).mono ?_; rintro e w' ⟨rfl, rfl⟩; rw [hB']))
        go_ret
        exact ⟨rfl, Below.refl _ _⟩
    · have h2' : (decide (0 ≤ m) && decide (m ≤ 1000000000)) = false := by simpa using h2
      rw [Pl.carI_no fun h => by
        have := h.2
        rw [okB_halves] at this; simp [h2'] at this]
      clear h2
      go_enter Tryz.func77, Tryz.ntmps77
      go_wp2_with (first | (go_at_call 49; refine (specIn _ _ _ _).mono ?_; rintro e w' ⟨rfl, rfl⟩; first | rw [h1] | rw [h2']))
      go_ret
      exact ⟨rfl, Below.refl _ _⟩
  · have h1' : (decide (0 ≤ n) && decide (n ≤ 1000000000)) = false := by simpa using h1
    rw [Pl.carI_no fun h => by
      have := h.1
      rw [okB_halves] at this; simp [h1'] at this]
    clear h1
    go_enter Tryz.func77, Tryz.ntmps77
    go_wp2_with (first | (go_at_call 49; refine (specIn _ _ _ _).mono ?_; rintro e w' ⟨rfl, rfl⟩; rw [h1']))
    go_ret
    exact ⟨rfl, Below.refl _ _⟩

theorem Pl.oftN_le {p n : Nat} (hp : 2 ≤ p) (hn : n ≤ 1000000000) : Pl.oftN p n ≤ n := by
  have h := Pl.oftK_sum hp 30 n (by omega)
  have : Pl.oftK p 30 n ≤ Pl.oftK p 30 n * (p - 1) := Nat.le_mul_of_pos_right _ (by omega)
  show Pl.oftK p 30 n ≤ n
  omega

theorem Pl.oftK_zero (p : Nat) : ∀ f, Pl.oftK p f 0 = 0 := by
  intro f
  induction f with
  | zero => rfl
  | succ f ih => rw [Pl.oftK, Nat.zero_div, ih]

set_option maxHeartbeats 1000000 in
theorem l10Often (n p : Nat) (hp : 2 ≤ p) (hp' : p ≤ 1000000000) (hn : n ≤ 1000000000) (w : World) :
    Calls Tryz.prog 109 #[.int .i64 n, .int .i64 p] w fun e w' => e = .returned (.int .i64 ((Pl.oftN p n : Nat) : Int)) ∧ w = w' := by
  have hle := Pl.oftN_le hp hn
  have hne : ((p : Int) == 0) = false := by rw [beq_eq_false_iff_ne]; omega
  obtain ⟨R, hR⟩ : ∃ R, Pl.oftN p n = R := ⟨_, rfl⟩
  have HS : Hid (0 + (n / p + Pl.oftK p 29 (n / p)) = R) := Lib.hid (by rw [Nat.zero_add]; exact hR)
  rw [hR] at hle ⊢
  clear hR
  have hq : n / p < 2 ^ 29 := by
    have : n / p ≤ n / 2 := Nat.div_le_div_left hp (by omega)
    omega
  have HQ := Lib.hid hq
  have e1 : ((n : Int)).tdiv (p : Int) = ((n / p : Nat) : Int) := rfl
  have hq' := Nat.div_le_self n p
  clear hq
  generalize n / p = Q at *
  have e2 : IntKind.i64.wrap (Q : Int) = (Q : Int) := IntWalk.i64_in _ (by omega)
  go_enter Tryz.func109, Tryz.ntmps109
  go_wp2
  go_loop [5, 6] (fun sv lv => ∃ f S left : Nat, sv = .int .i64 S ∧ lv = .int .i64 left ∧ left ≤ 1000000000 ∧ left < 2 ^ f ∧ S + (left + Pl.oftK p f left) = R) (fun _ lv => (intOf lv).toNat)
  case atStart => exact ⟨29, 0, Q, rfl, rfl, by omega, HQ.out, HS.out⟩
  case round =>
    clear e1 e2 HS HQ hq'
    obtain ⟨f, S, left, rfl, rfl, hl, hf, hs⟩ := hrel
    by_cases h0 : 0 < left
    · obtain ⟨g, rfl⟩ : ∃ g, f = g + 1 := ⟨f - 1, by
        have : f ≠ 0 := fun e => by rw [e] at hf; simp at hf; omega
        omega⟩
      rw [Pl.oftK] at hs
      have hi : (0 : Int) < (left : Int) := by omega
      have e1 : ((left : Int)).tdiv (p : Int) = ((left / p : Nat) : Int) := rfl
      have q1 : left / p < 2 ^ g := by
        have g1 : left / p ≤ left / 2 := Nat.div_le_div_left hp (by omega)
        rw [Nat.pow_succ] at hf; omega
      have q2 : left / p < left := Nat.div_lt_self h0 (by omega)
      have HS := Lib.hid hs
      have Q1 := Lib.hid q1
      have hsb : S + left ≤ R := by rw [← hs]; exact Nat.add_le_add_left (Nat.le_add_right _ _) _
      clear hs hf q1
      generalize left / p = D at *
      have e2 : IntKind.i64.wrap (D : Int) = (D : Int) := IntWalk.i64_in _ (by omega)
      obtain ⟨SS, hSS⟩ : ∃ SS : Int, (S : Int) = SS := ⟨_, rfl⟩
      have b1 : 0 ≤ SS ∧ SS + (left : Int) ≤ 1000000000 := by omega
      have HSS : Hid (SS + (left : Int) = ((S + left : Nat) : Int)) := Lib.hid (by omega)
      rw [hSS]
      clear hSS hsb
      go_wp2
      go_round
      case rel => exact ⟨g, S + left, D, by rw [HSS.out], rfl, by omega, Q1.out, by have := HS.out; omega⟩
      case measure => simp [intOf]; omega
    · obtain rfl : left = 0 := by omega
      rw [Pl.oftK_zero] at hs
      have HE : Hid (S = R) := Lib.hid (by omega)
      clear hs
      go_wp2
      go_ret
      exact ⟨ret_int (by rw [HE.out]), rfl⟩

/-- Whether a choice is asked of that is told. -/
def Pl.chB (n k p : Int) : Bool := ((decide (0 ≤ n) && decide (n ≤ 200)) && (decide (0 ≤ k) && decide (k ≤ n))) && Pl.primeB p
theorem Pl.chB_iff (n k p : Int) : Pl.chB n k p = true ↔ ((0 ≤ n ∧ n ≤ 200) ∧ 0 ≤ k ∧ k ≤ n) ∧ Pl.primeB p = true := by
  simp only [Pl.chB, Bool.and_eq_true, decide_eq_true_eq]

end Go.Proofs.YtgkkoegfmhgcjaaGreatDoor

namespace Go.Proofs.YtgkkoegfmhgcjaaGreatDoor
open Go.RowKit Go.Shelf

/-- The least so far, as a number. -/
def Pl.optI : Option Nat → Int
  | none => -1
  | some x => (x : Int)
def Pl.NouAt (O : Nat → Nat) (R p left : Nat) (best : Option Nat) : Prop := ∃ f, 18 ≤ f + p ∧ Pl.nouK O f p left best = some R

set_option maxHeartbeats 2000000 in
theorem specNoughtsAtEnd (n b : Int) (w : World) :
    Calls Tryz.prog 73 #[.int .i64 n, .int .i64 b] w fun e w' => e = .returned (.int .i64 (Pl.nouI n b)) ∧ w = w' := by
  by_cases hok : Pl.okB n b = true
  · have hok2 := hok
    rw [okB_halves, Bool.and_eq_true] at hok2
    obtain ⟨g1, g2⟩ := hok2
    obtain ⟨x, k, rfl, rfl, hk1, hk2, hx⟩ := Pl.okB_nat hok
    rw [Pl.nouI_yes hok]
    clear hok
    have HO : Hid (∀ p : Nat, 2 ≤ p → p ≤ 16 → Pl.oftN p x ≤ 1000000000 ∧ ∀ W, Calls Tryz.prog 109 #[.int .i64 x, .int .i64 p] W fun e W' => e = .returned (.int .i64 ((Pl.oftN p x : Nat) : Int)) ∧ W = W') := Lib.hid fun p h1 h2 => ⟨by have := Pl.oftN_le h1 (show x ≤ 1000000000 by omega); omega, l10Often x p h1 (by omega) (by omega)⟩
    have HN : Hid (Pl.NouAt (fun p => Pl.oftN p x) (Pl.nouT (fun p => Pl.oftN p x) k) 2 k none) := Lib.hid ⟨20, by omega, Pl.nou_all _ hk1 hk2⟩
    generalize Pl.nouT (fun p => Pl.oftN p x) k = R at *
    go_enter Tryz.func73, Tryz.ntmps73
    go_wp2_with (first | (go_at_call 49; refine (specIn _ _ _ _).mono ?_; rintro e w' ⟨rfl, rfl⟩; rw [g1]) | (go_at_call 50; refine (specBaseOk _ _).mono ?_; rintro e w' ⟨rfl, rfl⟩; rw [g2]))
    go_loop [5, 6, 7] (fun bv lv pv => ∃ (best : Option Nat) (left p : Nat), bv = .int .i64 (Pl.optI best) ∧ lv = .int .i64 left ∧ pv = .int .i64 p ∧ 1 ≤ left ∧ left ≤ 16 ∧ 2 ≤ p ∧ p ≤ 17 ∧ (∀ y, best = some y → y ≤ 1000000000) ∧ Pl.NouAt (fun p => Pl.oftN p x) R p left best) (fun _ _ pv => 17 - (intOf pv).toNat)
    case atStart => exact ⟨none, k, 2, rfl, rfl, rfl, by omega, hk2, by omega, by omega, fun y hy => (by simp at hy), HN.out⟩
    case round =>
      clear g1 g2 HN
      obtain ⟨best, left, p, rfl, rfl, rfl, hl1, hl2, hp1, hp2, hby, f, hf, hcnt⟩ := hrel
      by_cases hle : p ≤ left
      · have hi : (p : Int) ≤ (left : Int) := by omega
        have hp0 : ((p : Int) == 0) = false := by simp; omega
        obtain ⟨F, rfl⟩ : ∃ F, f = F + 1 := ⟨f - 1, by omega⟩
        rw [Pl.nouK, if_pos hle] at hcnt
        obtain ⟨hOb, hOC⟩ := HO.out p hp1 (by omega)
        have HOC := Lib.hid hOC
        have HBY := Lib.hid hby
        have hT := Pl.tms_le p 5 left
        have hPick : Hid (Pl.nouPick (fun p => Pl.oftN p x) best p (Pl.tmsN p 5 left) = Pl.nouC (Pl.oftN p x / Pl.tmsN p 5 left) best (Pl.tmsN p 5 left)) := Lib.hid rfl
        clear hOC hby
        have hOO : Hid (Pl.oftN p x = Pl.oftN p x) := Lib.hid rfl
        generalize hBB : Pl.nouPick (fun p => Pl.oftN p x) best p (Pl.tmsN p 5 left) = BB at hcnt hPick
        generalize hO : Pl.oftN p x = Op at hPick HOC hOb
        have HCNT := Lib.hid hcnt
        clear hcnt hBB hOO hO
        generalize hS : Pl.stripN p 5 left = S at *
        have HS := Lib.hid hS
        generalize hTT : Pl.tmsN p 5 left = T at *
        have HT := Lib.hid hTT
        have hspos : 1 ≤ S := by rw [← hS]; exact Pl.strip_pos 5 left hl1
        have hsle : S ≤ left := by rw [← hS]; exact Pl.strip_le p 5 left
        clear hS hTT
        go_wp2_with fail
        go_loop [6, 8] (fun lv tv => ∃ (q t g : Nat), lv = .int .i64 q ∧ tv = .int .i64 t ∧ 1 ≤ q ∧ q ≤ 16 ∧ q < 2 ^ g ∧ t + g ≤ 5 ∧ Pl.stripN p g q = S ∧ t + Pl.tmsN p g q = T) (fun lv _ => (intOf lv).toNat)
        case atStart => exact ⟨left, 0, 5, rfl, rfl, hl1, hl2, by omega, by omega, HS.out, by rw [HT.out, Nat.zero_add]⟩
        case round =>
          obtain ⟨q, t, g, rfl, rfl, hq1, hq2, hqg, hg, hqS, hqT⟩ := hrel
          obtain ⟨G, rfl⟩ : ∃ G, g = G + 1 := ⟨g - 1, by
            have : g ≠ 0 := fun e => by rw [e] at hqg; simp at hqg; omega
            omega⟩
          rw [Pl.stripN] at hqS
          rw [Pl.tmsN] at hqT
          by_cases hz : q % p = 0
          · rw [if_pos hz] at hqS hqT
            have htq : ((q : Int) % (p : Int) == 0) = true := by
              have e : (q : Int) % (p : Int) = ((q % p : Nat) : Int) := rfl
              rw [e, hz]; rfl
            have hd1 := Nat.div_add_mod q p
            have hdq : 1 ≤ q / p := Classical.byContradiction fun hno => by
              rw [Nat.eq_zero_of_not_pos hno, hz] at hd1; omega
            have hd2 : q / p < q := Nat.div_lt_self (by omega) (by omega)
            have hd3 : q / p < 2 ^ G := by
              have g1 : q / p ≤ q / 2 := Nat.div_le_div_left hp1 (by omega)
              rw [Nat.pow_succ] at hqg; omega
            have e1 : ((q : Int)).tdiv (p : Int) = ((q / p : Nat) : Int) := rfl
            have HQ := Lib.hid hqS
            have HQT := Lib.hid hqT
            have HD3 := Lib.hid hd3
            clear hqS hqT hz hd1 hqg hd3
            generalize q / p = Q at *
            have e2 : IntKind.i64.wrap (Q : Int) = (Q : Int) := IntWalk.i64_in _ (by omega)
            go_wp2_with fail
            go_round
            case rel => exact ⟨Q, t + 1, G, rfl, by go_num, hdq, by omega, HD3.out, by omega, HQ.out, by have := HQT.out; omega⟩
            case measure => simp [intOf]; omega
          · rw [if_neg hz] at hqS hqT
            have htq : ((q : Int) % (p : Int) == 0) = false := by
              have e : (q : Int) % (p : Int) = ((q % p : Nat) : Int) := rfl
              rw [e, beq_eq_false_iff_ne]; omega
            rw [Nat.add_zero] at hqT
            subst hqS
            subst hqT
            clear hz hqg
            by_cases ht0 : 0 < t
            · have ti : (0 : Int) < (t : Int) := by omega
              have tz : ((t : Int) == 0) = false := by simp; omega
              have e1 : ((Op : Int)).tdiv (t : Int) = ((Op / t : Nat) : Int) := rfl
              have hdle : Op / t ≤ Op := Nat.div_le_self _ _
              have hP := hPick.out
              clear hPick
              generalize Op / t = D at *
              have e2 : IntKind.i64.wrap (D : Int) = (D : Int) := IntWalk.i64_in _ (by omega)
              cases best with
              | none =>
                replace hP := Lib.hid (hP.trans (Pl.nouC_first D ht0))
                have eo : Pl.optI none = -1 := rfl
                rw [eo]
                go_wp2_with (go_at_call 109; refine (HOC.out _).mono ?_; rintro e w' ⟨rfl, rfl⟩)
                go_round
                case rel => exact ⟨some D, q, p + 1, rfl, rfl, by go_num, hq1, hq2, by omega, by omega, fun y hy => by rw [← Option.some.inj hy]; omega, F, by omega, by rw [← hP.out]; exact HCNT.out⟩
                case measure => simp [intOf]; omega
              | some y =>
                have hyb := HBY.out y rfl
                replace hP := Lib.hid (hP.trans (Pl.nouC_next D y ht0))
                have eo : Pl.optI (some y) = (y : Int) := rfl
                rw [eo]
                have hyn : ¬ (y : Int) < 0 := by omega
                by_cases hDy : D < y
                · have hDi : (D : Int) < (y : Int) := by omega
                  go_wp2_with (go_at_call 109; refine (HOC.out _).mono ?_; rintro e w' ⟨rfl, rfl⟩)
                  go_round
                  case rel => exact ⟨some D, q, p + 1, rfl, rfl, by go_num, hq1, hq2, by omega, by omega, fun z hz => by rw [← Option.some.inj hz]; omega, F, by omega, by rw [← show BB = some D by rw [hP.out, if_pos hDy]]; exact HCNT.out⟩
                  case measure => simp [intOf]; omega
                · have hDi : ¬ (D : Int) < (y : Int) := by omega
                  go_wp2_with (go_at_call 109; refine (HOC.out _).mono ?_; rintro e w' ⟨rfl, rfl⟩)
                  go_round
                  case rel => exact ⟨some y, q, p + 1, rfl, rfl, by go_num, hq1, hq2, by omega, by omega, fun z hz => by rw [← Option.some.inj hz]; omega, F, by omega, by rw [← show BB = some y by rw [hP.out, if_neg hDy]]; exact HCNT.out⟩
                  case measure => simp [intOf]; omega
            · obtain rfl : t = 0 := by omega
              have hP := Lib.hid (hPick.out.trans (Pl.nouC_none _ best))
              clear hPick
              generalize hob : Pl.optI best = OB at *
              have HOB := Lib.hid hob
              clear hob
              go_wp2_with fail
              go_round
              case rel => exact ⟨best, q, p + 1, by rw [HOB.out], rfl, by go_num, hq1, hq2, by omega, by omega, HBY.out, F, by omega, by rw [← hP.out]; exact HCNT.out⟩
              case measure => simp [intOf]; omega
      · have hi : ¬ (p : Int) ≤ (left : Int) := by omega
        have hR : best = some R := by
          cases f with
          | zero => exact hcnt
          | succ f => rw [Pl.nouK, if_neg hle] at hcnt; exact hcnt
        subst hR
        have eo : Pl.optI (some R) = (R : Int) := rfl
        rw [eo]
        clear hcnt hle
        go_wp2_with fail
        go_ret
        exact ⟨rfl, rfl⟩
  · rw [Pl.nouI_no hok]
    by_cases g1 : (decide (0 ≤ n) && decide (n ≤ 1000000000)) = true
    · have g2 : Pl.baseB b = false := by
        rw [← Bool.not_eq_true]; intro hh; exact hok (by rw [okB_halves, g1, hh]; rfl)
      clear hok
      go_enter Tryz.func73, Tryz.ntmps73
      go_wp2_with (first | (go_at_call 49; refine (specIn _ _ _ _).mono ?_; rintro e w' ⟨rfl, rfl⟩; rw [g1]) | (go_at_call 50; refine (specBaseOk _ _).mono ?_; rintro e w' ⟨rfl, rfl⟩; rw [g2]))
      go_ret
      exact ⟨rfl, rfl⟩
    · have g1' : (decide (0 ≤ n) && decide (n ≤ 1000000000)) = false := by simpa using g1
      clear hok g1
      go_enter Tryz.func73, Tryz.ntmps73
      go_wp2_with (first | (go_at_call 49; refine (specIn _ _ _ _).mono ?_; rintro e w' ⟨rfl, rfl⟩; rw [g1']))
      go_ret
      exact ⟨rfl, rfl⟩

end Go.Proofs.YtgkkoegfmhgcjaaGreatDoor

namespace Go.Proofs.YtgkkoegfmhgcjaaGreatDoor
open Go.RowKit Go.Shelf

namespace Pl
/-- So many of a row of choices. -/
def crL (p n m : Nat) : List Int := (List.range m).map fun k => ((cr p n k : Nat) : Int)
theorem crL_len (p n m : Nat) : (crL p n m).length = m := by simp [crL]
theorem crL_get {p n m k : Nat} (h : k < m) : (crL p n m)[k]?.getD 0 = ((cr p n k : Nat) : Int) := by
  simp [crL, h]
theorem crL_snoc (p n m : Nat) : crL p n (m + 1) = crL p n m ++ [((cr p n m : Nat) : Int)] := by
  simp [crL, List.range_succ]
theorem crL_one (p n : Nat) : crL p n 1 = [((1 % p : Nat) : Int)] := by
  rw [crL_snoc, cr_zero]; rfl
end Pl

end Go.Proofs.YtgkkoegfmhgcjaaGreatDoor

namespace Go.Proofs.YtgkkoegfmhgcjaaGreatDoor
open Go.RowKit Go.Shelf

set_option maxHeartbeats 2000000 in
theorem implCarriesYes (n m b : Nat) (hb : 2 ≤ b) (hb' : b ≤ 16) (hn : n ≤ 1000000000) (hm : m ≤ 1000000000) (w : World) :
    Calls Tryz.prog 156 #[.int .i64 n, .int .i64 m, .int .i64 b] w fun e w' => e = .returned (.int .i64 ((Pl.carN b n m : Nat) : Int)) ∧ Below w.heap.size w w' := by
  have i1 : Pl.okB n b = true := by rw [Pl.okB_iff]; omega
  have i2 : Pl.okB m b = true := by rw [Pl.okB_iff]; omega
  have hb0 : ((b : Int) == 0) = false := by rw [beq_eq_false_iff_ne]; omega
  have hb1 : ¬ b = 0 := by omega
  have hb2 : ¬ (b : Int) = 0 := by omega
  obtain ⟨R, hR⟩ : ∃ R, Pl.carN b n m = R := ⟨_, rfl⟩
  have HS : Hid (Pl.CarAt b R 30 n m 0 0) := Lib.hid ⟨by omega, by omega, by omega, by omega, by rw [Nat.zero_add]; exact hR⟩
  rw [hR]
  clear hR
  go_enter Tryz.func156, Tryz.ntmps156
  go_wp2_with (go_at_call 79; refine (hasDigits _ _ _).mono ?_; rintro e w' ⟨rfl, rfl⟩; first | rw [i1] | rw [i2])
  go_loopw [0, 1, 7, 8] (fun nv mv sv cv wr => ∃ (f N M C q : Nat) (CC : Int), nv = .int .i64 N ∧ mv = .int .i64 M ∧ sv = .int .i64 C ∧ cv = .int .i64 CC ∧ (CC = 0 ∨ CC = 1) ∧ N ≤ 1000000000 ∧ M ≤ 1000000000 ∧ Pl.CarAt b R f N M CC.toNat C ∧ wr = w.drewN q) (fun nv mv _ _ _ => (intOf nv).toNat + (intOf mv).toNat)
  case atStart => exact ⟨30, n, m, 0, 0, 0, rfl, rfl, rfl, rfl, .inl rfl, hn, hm, HS.out, rfl⟩
  case round =>
    clear i1 i2 HS
    obtain ⟨f, N, M, C, q, CC, rfl, rfl, rfl, rfl, hCC, hN, hM, hAt, rfl⟩ := hrel
    by_cases hz : N = 0 ∧ M = 0
    · obtain ⟨rfl, rfl⟩ := hz
      have HE : Hid (C = R) := Lib.hid (by
        have := hAt.2.2.2.2
        rw [Pl.carK_zero, Nat.add_zero] at this; exact this)
      clear hAt
      go_wp2_with fail
      go_ret
      exact ⟨ret_int (by rw [HE.out]), drewN_below w q⟩
    · obtain ⟨a1, a2, a3, a4, a5⟩ := hAt
      obtain ⟨g, rfl⟩ : ∃ g, f = g + 1 := ⟨f - 1, by
        have : f ≠ 0 := fun e => by rw [e] at a1 a2; simp at a1 a2; omega
        omega⟩
      rw [Pl.carK, if_neg hz] at a5
      have q1 : N / b < 2 ^ g := by
        have g1 : N / b ≤ N / 2 := Nat.div_le_div_left hb (by omega)
        rw [Nat.pow_succ] at a1; omega
      have q2 : M / b < 2 ^ g := by
        have g1 : M / b ≤ M / 2 := Nat.div_le_div_left hb (by omega)
        rw [Nat.pow_succ] at a2; omega
      have hNb : N % b < b := Nat.mod_lt _ (by omega)
      have hMb : M % b < b := Nat.mod_lt _ (by omega)
      have hNd : N / b ≤ N := Nat.div_le_self _ _
      have hMd : M / b ≤ M := Nat.div_le_self _ _
      have hless : N / b + M / b < N + M := by
        by_cases h : 0 < N
        · have := Nat.div_lt_self h (show 1 < b by omega); omega
        · have := Nat.div_lt_self (show 0 < M by omega) (show 1 < b by omega); omega
      have e1 : ((N : Int)).tmod (b : Int) = ((N % b : Nat) : Int) := rfl
      have e2 : ((M : Int)).tmod (b : Int) = ((M % b : Nat) : Int) := rfl
      have e1' : ((N : Int)) % (b : Int) = ((N % b : Nat) : Int) := rfl
      have e2' : ((M : Int)) % (b : Int) = ((M % b : Nat) : Int) := rfl
      have e3 : ((N : Int)).tdiv (b : Int) = ((N / b : Nat) : Int) := rfl
      have e4 : ((M : Int)).tdiv (b : Int) = ((M / b : Nat) : Int) := rfl
      have A5 : Hid (C + (if b ≤ N % b + M % b + CC.toNat then 1 + Pl.carK b g (N / b) (M / b) 1 else Pl.carK b g (N / b) (M / b) 0) = R) := Lib.hid a5
      have Q1 := Lib.hid q1
      have Q2 := Lib.hid q2
      have A4 := Lib.hid a4
      clear a1 a2 a3 a4 a5 q1 q2
      generalize N % b = rN at *
      generalize M % b = rM at *
      generalize N / b = dN at *
      generalize M / b = dM at *
      have e5 : IntKind.i64.wrap (dN : Int) = (dN : Int) := IntWalk.i64_in _ (by omega)
      have e6 : IntKind.i64.wrap (dM : Int) = (dM : Int) := IntWalk.i64_in _ (by omega)
      have hsum : b ≤ rN + rM + CC.toNat ↔ (b : Int) ≤ (rN : Int) + (rM : Int) + CC := by omega
      have HSUM := Lib.hid hsum
      have hlim : rN + rM + CC.toNat < 2 * b := by omega
      have hquo : ((rN : Int) + (rM : Int) + CC).tdiv (b : Int) = (((rN + rM + CC.toNat) / b : Nat) : Int) := by
        rw [show (rN : Int) + (rM : Int) + CC = ((rN + rM + CC.toNat : Nat) : Int) by omega]; rfl
      have hqv : (rN + rM + CC.toNat) / b = if b ≤ rN + rM + CC.toNat then 1 else 0 := by
        split
        · exact Nat.div_eq_of_lt_le (by omega) (by omega)
        · exact Nat.div_eq_of_lt (by omega)
      rw [hqv] at hquo
      clear hsum hqv hlim
      obtain ⟨RN, hRN⟩ : ∃ RN : Int, (rN : Int) = RN := ⟨_, rfl⟩
      obtain ⟨RM, hRM⟩ : ∃ RM : Int, (rM : Int) = RM := ⟨_, rfl⟩
      rw [hRN] at e1 e1' HSUM hquo
      rw [hRM] at e2 e2' HSUM hquo
      have b1 : 0 ≤ RN ∧ RN < 16 := by omega
      have b2 : 0 ≤ RM ∧ RM < 16 := by omega
      have b3 : 0 ≤ CC ∧ CC ≤ 1 := by omega
      have w1 : IntKind.i64.wrap (RN + RM) = RN + RM := IntWalk.i64_in _ (by omega)
      have w2 : IntKind.i64.wrap (RN + RM + CC) = RN + RM + CC := IntWalk.i64_in _ (by omega)
      clear hRN hRM hNb hMb
      have hCb : C ≤ 29 := by have := A4.out; omega
      by_cases hcar : (b : Int) ≤ RN + RM + CC
      · have HN : Hid (Pl.CarAt b R g dN dM 1 (C + 1)) := Lib.hid ⟨Q1.out, Q2.out, by omega, by have := A4.out; omega, by
          have := A5.out
          rw [if_pos (HSUM.out.2 hcar)] at this; omega⟩
        rw [if_pos (HSUM.out.2 hcar)] at hquo
        replace hquo : (RN + RM + CC).tdiv (b : Int) = 1 := hquo
        have w3 : IntKind.i64.wrap 1 = 1 := rfl
        by_cases hNz : 0 < N
        · have t1 : (0 : Int) < (N : Int) := by omega
          clear hz
          go_wp2_with fail
          go_big_quiet (fail)
          go_wp2_with fail
          go_big_quiet (fail)
          go_wp2_with fail
          go_roundw
          case rel => exact ⟨g, dN, dM, C + 1, _, 1, rfl, rfl, by go_num, rfl, .inr rfl, by omega, by omega, HN.out, by rw [World.drewN_drewN]⟩
          case measure => simp [intOf]; omega
        · have t1 : ¬ (0 : Int) < (N : Int) := by omega
          have t2 : (0 : Int) < (M : Int) := by omega
          clear hz
          go_wp2_with fail
          go_big_quiet (fail)
          go_wp2_with fail
          go_big_quiet (fail)
          go_wp2_with fail
          go_roundw
          case rel => exact ⟨g, dN, dM, C + 1, _, 1, rfl, rfl, by go_num, rfl, .inr rfl, by omega, by omega, HN.out, by rw [World.drewN_drewN]⟩
          case measure => simp [intOf]; omega
      · have HN : Hid (Pl.CarAt b R g dN dM 0 C) := Lib.hid ⟨Q1.out, Q2.out, by omega, by have := A4.out; omega, by
          have := A5.out
          rw [if_neg (fun h => hcar (HSUM.out.1 h))] at this; omega⟩
        rw [if_neg (fun h => hcar (HSUM.out.1 h))] at hquo
        replace hquo : (RN + RM + CC).tdiv (b : Int) = 0 := hquo
        have w3 : IntKind.i64.wrap 0 = 0 := rfl
        by_cases hNz : 0 < N
        · have t1 : (0 : Int) < (N : Int) := by omega
          clear hz
          go_wp2_with fail
          go_big_quiet (fail)
          go_wp2_with fail
          go_big_quiet (fail)
          go_wp2_with fail
          go_roundw
          case rel => exact ⟨g, dN, dM, C, _, 0, rfl, rfl, by go_num, rfl, .inl rfl, by omega, by omega, HN.out, by rw [World.drewN_drewN]⟩
          case measure => simp [intOf]; omega
        · have t1 : ¬ (0 : Int) < (N : Int) := by omega
          have t2 : (0 : Int) < (M : Int) := by omega
          clear hz
          go_wp2_with fail
          go_big_quiet (fail)
          go_wp2_with fail
          go_big_quiet (fail)
          go_wp2_with fail
          go_roundw
          case rel => exact ⟨g, dN, dM, C, _, 0, rfl, rfl, by go_num, rfl, .inl rfl, by omega, by omega, HN.out, by rw [World.drewN_drewN]⟩
          case measure => simp [intOf]; omega

set_option maxHeartbeats 800000 in
theorem implCarriesOf (n m b : Int) (w : World) :
    Calls Tryz.prog 156 #[.int .i64 n, .int .i64 m, .int .i64 b] w fun e w' => e = .returned (.int .i64 (Pl.carI n m b)) ∧ Below w.heap.size w w' := by
  by_cases h1 : Pl.okB n b = true
  · by_cases h2 : Pl.okB m b = true
    · obtain ⟨x, k, rfl, rfl, g1, g2, g3⟩ := Pl.okB_nat h1
      obtain ⟨y, k', rfl, e, _, _, g4⟩ := Pl.okB_nat h2
      rw [Pl.carI_yes h1 h2]
      exact implCarriesYes x y k g1 g2 g3 g4 w
    · have h2' : Pl.okB m b = false := by simpa using h2
      rw [Pl.carI_no fun h => h2 h.2]
      clear h2
      go_enter Tryz.func156, Tryz.ntmps156
      go_wp2_with (go_at_call 79; refine (hasDigits _ _ _).mono ?_; rintro e w' ⟨rfl, rfl⟩; first | rw [h1] | rw [h2'])
      go_ret
      exact ⟨rfl, Below.refl _ _⟩
  · have h1' : Pl.okB n b = false := by simpa using h1
    rw [Pl.carI_no fun h => h1 h.1]
    clear h1
    go_enter Tryz.func156, Tryz.ntmps156
    go_wp2_with (go_at_call 79; refine (hasDigits _ _ _).mono ?_; rintro e w' ⟨rfl, rfl⟩; rw [h1'])
    go_ret
    exact ⟨rfl, Below.refl _ _⟩

set_option maxHeartbeats 800000 in
theorem primeBase0 (p : Int) (w : World) :
    Calls Tryz.prog 181 #[.int .i64 p] w fun e w' => e = .returned (.bool (Pl.primeB p)) ∧ w = w' := by
  by_cases h : Pl.primeB p = true
  · rw [h]
    rw [Pl.primeB, decide_eq_true_eq] at h
    rcases h with rfl | rfl | rfl | rfl | rfl | rfl
    all_goals
      go_enter Tryz.func181, Tryz.ntmps181
      go_wp2
      go_ret
      exact ⟨rfl, rfl⟩
  · have h' : Pl.primeB p = false := by simpa using h
    rw [h']
    rw [Pl.primeB, decide_eq_true_eq] at h
    have t2 : (p == 2) = false := by rw [beq_eq_false_iff_ne]; omega
    have t3 : (p == 3) = false := by rw [beq_eq_false_iff_ne]; omega
    have t5 : (p == 5) = false := by rw [beq_eq_false_iff_ne]; omega
    have t7 : (p == 7) = false := by rw [beq_eq_false_iff_ne]; omega
    have t11 : (p == 11) = false := by rw [beq_eq_false_iff_ne]; omega
    have t13 : (p == 13) = false := by rw [beq_eq_false_iff_ne]; omega
    clear h h'
    go_enter Tryz.func181, Tryz.ntmps181
    go_wp2
    go_ret
    exact ⟨rfl, rfl⟩

theorem implPrimeBaseOk (p : Int) (w : World) :
    Calls Tryz.prog 181 #[.int .i64 p] w fun e w' => e = .returned (.bool (Pl.primeB p)) ∧ Below w.heap.size w w' :=
  (primeBase0 p w).mono fun _ _ h => ⟨h.1, by rw [← h.2]; exact Below.refl _ _⟩

set_option maxHeartbeats 800000 in
theorem implProductOften (n p : Int) (w : World) :
    Calls Tryz.prog 182 #[.int .i64 n, .int .i64 p] w fun e w' => e = .returned (.int .i64 (Pl.oftI n p)) ∧ Below w.heap.size w w' := by
  have HP := Lib.hid (primeBase0 p)
  by_cases hp : Pl.primeB p = true
  · rw [hp] at HP
    obtain ⟨q, rfl, hq⟩ := Pl.primeB_nat hp
    have hq2 := Pl.primes6_ge hq
    by_cases hn : Pl.okB n q = true
    · obtain ⟨x, k, rfl, ek, g1, g2, g3⟩ := Pl.okB_nat hn
      obtain rfl : q = k := by omega
      have e : Pl.oftI x q = ((Pl.oftN q x : Nat) : Int) := by rw [Pl.oftI, if_pos ⟨⟨by omega, by omega⟩, hp⟩]; rfl
      have HS := Lib.hid (implSumOf (x : Int) q)
      rw [Pl.sumI_yes x q hn] at HS
      have hs := Pl.oftK_sum hq2.1 30 x (by omega)
      have hle := Pl.oftN_le hq2.1 g3
      have es : (x : Int) - ((Pl.sumD q x : Nat) : Int) = ((Pl.oftN q x * (q - 1) : Nat) : Int) := by
        have : Pl.oftN q x * (q - 1) + Pl.sumD q x = x := hs
        omega
      have ed : (((Pl.oftN q x * (q - 1) : Nat) : Int)).tdiv ((q : Int) - 1) = ((Pl.oftN q x : Nat) : Int) := by
        rw [show (q : Int) - 1 = ((q - 1 : Nat) : Int) by omega]
        show (((Pl.oftN q x * (q - 1) / (q - 1) : Nat)) : Int) = _
        rw [Nat.mul_div_cancel _ (by omega)]
      have hsb : Pl.sumD q x ≤ x := by
        have : Pl.oftN q x * (q - 1) + Pl.sumD q x = x := hs
        omega
      rw [← es] at ed
      rw [e]
      clear e hs es hp hq ek
      generalize Pl.oftN q x = O at *
      generalize hSS : ((Pl.sumD q x : Nat) : Int) = S at *
      have hS1 : 0 ≤ S ∧ S ≤ (x : Int) := by omega
      clear hSS hsb
      obtain ⟨D, hD⟩ : ∃ D : Int, (x : Int) - S = D := ⟨_, rfl⟩
      have w1 : IntKind.i64.wrap ((x : Int) - S) = (x : Int) - S := IntWalk.i64_in _ (by omega)
      have hne : ((q : Int) - 1 == 0) = false := by rw [beq_eq_false_iff_ne]; omega
      have w3 : IntKind.i64.wrap (O : Int) = (O : Int) := IntWalk.i64_in _ (by omega)
      clear hD
      go_enter Tryz.func182, Tryz.ntmps182
      go_wp2_with (first | (go_at_call 181; refine (HP.out _).mono ?_; rintro e w' ⟨rfl, rfl⟩) | (go_at_call 79; refine (hasDigits _ _ _).mono ?_; rintro e w' ⟨rfl, rfl⟩; rw [hn]) | (go_at_call 126; refine (HS.out _).mono ?_; rintro e w1 ⟨rfl, hb1⟩))
      go_ret
      exact ⟨rfl, hb1⟩
    · have hn' : Pl.okB n q = false := by simpa using hn
      have e : Pl.oftI n q = -1 := by
        rw [Pl.oftI, if_neg fun h => hn (by rw [Pl.okB_iff]; omega)]
      rw [e]
      clear e hn hq hp
      go_enter Tryz.func182, Tryz.ntmps182
      go_wp2_with (first | (go_at_call 181; refine (HP.out _).mono ?_; rintro e w' ⟨rfl, rfl⟩) | (go_at_call 79; refine (hasDigits _ _ _).mono ?_; rintro e w' ⟨rfl, rfl⟩; rw [hn']))
      go_ret
      exact ⟨rfl, Below.refl _ _⟩
  · rw [Bool.eq_false_iff.2 hp] at HP
    have e : Pl.oftI n p = -1 := by rw [Pl.oftI, if_neg fun h => hp h.2]
    rw [e]
    clear e hp
    go_enter Tryz.func182, Tryz.ntmps182
    go_wp2_with (go_at_call 181; refine (HP.out _).mono ?_; rintro e w' ⟨rfl, rfl⟩)
    go_ret
    exact ⟨rfl, Below.refl _ _⟩

end Go.Proofs.YtgkkoegfmhgcjaaGreatDoor

namespace Go.Proofs.YtgkkoegfmhgcjaaGreatDoor
open Go.RowKit Go.Shelf

namespace Pl
/-- The table as far as it is filled: all rows ahead of one, and so many places of that one. -/
def chL (p r c : Nat) : List Int := (List.range 256).map fun i => if (i / 16 < r ∧ i % 16 ≤ i / 16) ∨ (i / 16 = r ∧ i % 16 < c) then ((cr p (i / 16) (i % 16) : Nat) : Int) else 0
theorem chL_len (p r c : Nat) : (chL p r c).length = 256 := by simp [chL]
theorem chL_get (p r c : Nat) {a d : Nat} (ha : a < 16) (hd : d < 16) : (chL p r c)[a * 16 + d]?.getD 0 = if (a < r ∧ d ≤ a) ∨ (a = r ∧ d < c) then ((cr p a d : Nat) : Int) else 0 := by
  have e1 : (a * 16 + d) / 16 = a := by omega
  have e2 : (a * 16 + d) % 16 = d := by omega
  have h : a * 16 + d < 256 := by omega
  simp [chL, h, e1, e2]
theorem chL_none (p : Nat) : chL p 0 0 = List.replicate 256 0 := by
  apply List.ext_getElem
  · simp only [chL, List.length_map, List.length_range, List.length_replicate]
  · intro i h1 h2
    simp only [chL, List.getElem_map, List.getElem_range, List.getElem_replicate]
    rw [if_neg (by omega)]
theorem chL_set (p r c : Nat) (hc : c < 16) : (chL p r c).set (r * 16 + c) ((cr p r c : Nat) : Int) = chL p r (c + 1) := by
  apply List.ext_getElem
  · simp [chL]
  · intro i h1 h2
    simp only [chL, List.length_set, List.length_map, List.length_range] at h1
    simp only [chL, List.getElem_set, List.getElem_map, List.getElem_range]
    by_cases hi : r * 16 + c = i
    · subst hi
      have e1 : (r * 16 + c) / 16 = r := by omega
      have e2 : (r * 16 + c) % 16 = c := by omega
      rw [if_pos rfl, e1, e2, if_pos (Or.inr ⟨rfl, by omega⟩)]
    · rw [if_neg hi]
      have : ((i / 16 < r ∧ i % 16 ≤ i / 16) ∨ (i / 16 = r ∧ i % 16 < c)) ↔ ((i / 16 < r ∧ i % 16 ≤ i / 16) ∨ (i / 16 = r ∧ i % 16 < c + 1)) := by omega
      by_cases h : (i / 16 < r ∧ i % 16 ≤ i / 16) ∨ (i / 16 = r ∧ i % 16 < c)
      · rw [if_pos h, if_pos (this.1 h)]
      · rw [if_neg h, if_neg fun hh => h (this.2 hh)]
theorem chL_next (p r : Nat) : chL p r (r + 1) = chL p (r + 1) 0 := by
  apply List.ext_getElem
  · simp [chL]
  · intro i h1 h2
    simp only [chL, List.getElem_map, List.getElem_range]
    have : ((i / 16 < r ∧ i % 16 ≤ i / 16) ∨ (i / 16 = r ∧ i % 16 < r + 1)) ↔ ((i / 16 < r + 1 ∧ i % 16 ≤ i / 16) ∨ (i / 16 = r + 1 ∧ i % 16 < 0)) := by omega
    by_cases h : (i / 16 < r ∧ i % 16 ≤ i / 16) ∨ (i / 16 = r ∧ i % 16 < r + 1)
    · rw [if_pos h, if_pos (this.1 h)]
    · rw [if_neg h, if_neg fun hh => h (this.2 hh)]
/-- The whole table: the choice of each digit from each other one. -/
theorem chL_all (p : Nat) {a d : Nat} (ha : a < p) (hp : p ≤ 16) (hd : d < p) : (chL p p 0)[a * 16 + d]?.getD 0 = ((cr p a d : Nat) : Int) := by
  rw [chL_get p p 0 (by omega) (by omega)]
  by_cases h : d ≤ a
  · rw [if_pos (Or.inl ⟨ha, h⟩)]
  · rw [if_neg (by omega), cr_more p a d (by omega)]; rfl
end Pl

theorem below_setRow2 {B : Nat} {a w : World} (h : Below B a w) {g : Nat} (hg : B ≤ g) (c : Array Value) : Below B a (w.setRow g c) :=
  ⟨h.os, h.tape, h.output, by rw [show (w.setRow g c).heap.size = w.heap.size by simp [World.setRow]]; exact h.size, fun k hk => by rw [setRow_other _ _ _ _ (by omega)]; exact h.block k hk⟩

end Go.Proofs.YtgkkoegfmhgcjaaGreatDoor

namespace Go.Proofs.YtgkkoegfmhgcjaaGreatDoor
open Go.RowKit Go.Shelf

namespace Pl
/-- The least over all primes from one on, as the program takes it. -/
def nouM (O : Nat → Nat) (b : Nat) : Nat → Nat → Nat → Nat
  | 0, _, acc => acc
  | f + 1, p, acc => nouM O b f (p + 1) (if primeB (p : Int) = true ∧ 0 < tmsN p 5 b then (if acc < O p / tmsN p 5 b then acc else O p / tmsN p 5 b) else acc)
theorem nouM_all (O : Nat → Nat) {b n : Nat} (h1 : 2 ≤ b) (h2 : b ≤ 16) (hO : ∀ p, 2 ≤ p → O p ≤ n) : nouM O b (b - 1) 2 n = nouT O b := by
  have o2 := hO 2 (by omega)
  have o3 := hO 3 (by omega)
  have o5 := hO 5 (by omega)
  have o7 := hO 7 (by omega)
  have o11 := hO 11 (by omega)
  have o13 := hO 13 (by omega)
  have h : b = 2 ∨ b = 3 ∨ b = 4 ∨ b = 5 ∨ b = 6 ∨ b = 7 ∨ b = 8 ∨ b = 9 ∨ b = 10 ∨ b = 11 ∨ b = 12 ∨ b = 13 ∨ b = 14 ∨ b = 15 ∨ b = 16 := by omega
  rcases h with rfl | rfl | rfl | rfl | rfl | rfl | rfl | rfl | rfl | rfl | rfl | rfl | rfl | rfl | rfl
  all_goals
    simp [nouM, tmsN, primeB, nouT, less2]
    repeat' split
    all_goals omega
end Pl

set_option maxHeartbeats 1000000 in
theorem dividesOften (p b : Nat) (hp : 2 ≤ p) (hp' : p ≤ 16) (hb : 1 ≤ b) (hb' : b ≤ 16) (w : World) :
    Calls Tryz.prog 180 #[.int .i64 p, .int .i64 b] w fun e w' => e = .returned (.int .i64 ((Pl.tmsN p 5 b : Nat) : Int)) ∧ w = w' := by
  obtain ⟨T, hT⟩ : ∃ T, Pl.tmsN p 5 b = T := ⟨_, rfl⟩
  have HT := Lib.hid hT
  have hp0 : ((p : Int) == 0) = false := by simp; omega
  rw [hT]
  clear hT
  go_enter Tryz.func180, Tryz.ntmps180
  go_wp2_with fail
  go_loop [1, 5] (fun lv tv => ∃ (q t g : Nat), lv = .int .i64 q ∧ tv = .int .i64 t ∧ 1 ≤ q ∧ q ≤ 16 ∧ q < 2 ^ g ∧ t + g ≤ 5 ∧ t + Pl.tmsN p g q = T) (fun lv _ => (intOf lv).toNat)
  case atStart => exact ⟨b, 0, 5, rfl, rfl, hb, hb', by omega, by omega, by rw [HT.out, Nat.zero_add]⟩
  case round =>
    clear HT
    obtain ⟨q, t, g, rfl, rfl, hq1, hq2, hqg, hg, hqT⟩ := hrel
    obtain ⟨G, rfl⟩ : ∃ G, g = G + 1 := ⟨g - 1, by
      have : g ≠ 0 := fun e => by rw [e] at hqg; simp at hqg; omega
      omega⟩
    rw [Pl.tmsN] at hqT
    by_cases hz : q % p = 0
    · rw [if_pos hz] at hqT
      have htq : ((q : Int) % (p : Int) == 0) = true := by
        have e : (q : Int) % (p : Int) = ((q % p : Nat) : Int) := rfl
        rw [e, hz]; rfl
      have hd1 := Nat.div_add_mod q p
      have hdq : 1 ≤ q / p := Classical.byContradiction fun hno => by
        rw [Nat.eq_zero_of_not_pos hno, hz] at hd1; omega
      have hd2 : q / p < q := Nat.div_lt_self (by omega) (by omega)
      have hd3 : q / p < 2 ^ G := by
        have g1 : q / p ≤ q / 2 := Nat.div_le_div_left hp (by omega)
        rw [Nat.pow_succ] at hqg; omega
      have e1 : ((q : Int)).tdiv (p : Int) = ((q / p : Nat) : Int) := rfl
      have HQT := Lib.hid hqT
      have HD3 := Lib.hid hd3
      clear hqT hz hd1 hqg hd3
      generalize q / p = Q at *
      have e2 : IntKind.i64.wrap (Q : Int) = (Q : Int) := IntWalk.i64_in _ (by omega)
      go_wp2_with fail
      go_round
      case rel => exact ⟨Q, t + 1, G, rfl, by go_num, hdq, by omega, HD3.out, by omega, by have := HQT.out; omega⟩
      case measure => simp [intOf]; omega
    · rw [if_neg hz] at hqT
      have htq : ((q : Int) % (p : Int) == 0) = false := by
        have e : (q : Int) % (p : Int) = ((q % p : Nat) : Int) := rfl
        rw [e, beq_eq_false_iff_ne]; omega
      rw [Nat.add_zero] at hqT
      subst hqT
      clear hz hqg
      go_wp2_with fail
      go_ret
      exact ⟨rfl, rfl⟩

set_option maxHeartbeats 2000000 in
theorem implNoughtsAtEnd (n b : Int) (w : World) :
    Calls Tryz.prog 154 #[.int .i64 n, .int .i64 b] w fun e w' => e = .returned (.int .i64 (Pl.nouI n b)) ∧ Below w.heap.size w w' := by
  by_cases hok : Pl.okB n b = true
  · obtain ⟨x, k, rfl, rfl, hk1, hk2, hx⟩ := Pl.okB_nat hok
    rw [Pl.nouI_yes hok]
    have HO : Hid (∀ p : Nat, Pl.primeB p = true → Pl.oftN p x ≤ 1000000000 ∧ ∀ W, Calls Tryz.prog 182 #[.int .i64 x, .int .i64 p] W fun e W' => e = .returned (.int .i64 ((Pl.oftN p x : Nat) : Int)) ∧ Below W.heap.size W W') := Lib.hid fun p hp => by
      obtain ⟨q, hq, hm⟩ := Pl.primeB_nat hp
      obtain rfl : p = q := by omega
      have h2 := Pl.primes6_ge hm
      refine ⟨by have := Pl.oftN_le h2.1 (show x ≤ 1000000000 by omega); omega, fun W => ?_⟩
      have h := implProductOften (x : Int) p W
      rw [Pl.oftI, if_pos ⟨by omega, hp⟩] at h
      exact h
    have HN : Hid (Pl.nouM (fun p => Pl.oftN p x) k (k - 1) 2 x = Pl.nouT (fun p => Pl.oftN p x) k) := Lib.hid (Pl.nouM_all _ hk1 hk2 fun p hp => Pl.oftN_le hp (by omega))
    generalize Pl.nouT (fun p => Pl.oftN p x) k = R at *
    go_enter Tryz.func154, Tryz.ntmps154
    go_wp2_with (go_at_call 79; refine (hasDigits _ _ _).mono ?_; rintro e w' ⟨rfl, rfl⟩; rw [hok])
    go_loopw [5, 6, 7] (fun lv pv _ wr => ∃ (L p : Nat), lv = .int .i64 L ∧ pv = .int .i64 p ∧ 2 ≤ p ∧ p ≤ k + 1 ∧ L ≤ 1000000000 ∧ Pl.nouM (fun p => Pl.oftN p x) k (k + 1 - p) p L = R ∧ Below w.heap.size w wr) (fun _ pv _ _ => k + 1 - (intOf pv).toNat)
    case atStart => exact ⟨x, 2, rfl, rfl, by omega, by omega, hx, HN.out, Below.refl _ _⟩
    case round =>
      clear hok HN
      obtain ⟨L, p, rfl, rfl, hp1, hp2, hL, hcnt, hB⟩ := hrel
      by_cases hle : p ≤ k
      · have hi : (p : Int) ≤ (k : Int) := by omega
        rw [show k + 1 - p = (k + 1 - (p + 1)) + 1 by omega, Pl.nouM] at hcnt
        have HD := Lib.hid (dividesOften p k hp1 (by omega) (by omega) hk2)
        have HP := Lib.hid (primeBase0 (p : Int))
        have hT := Pl.tms_le p 5 k
        generalize Pl.tmsN p 5 k = T at *
        by_cases hpb : Pl.primeB (p : Int) = true
        · obtain ⟨hOb, hOC⟩ := HO.out p hpb
          have HOC := Lib.hid hOC
          rw [hpb] at HP
          clear hOC
          by_cases ht : 0 < T
          · rw [if_pos ⟨hpb, ht⟩] at hcnt
            have ti : (0 : Int) < (T : Int) := by omega
            have tz : ((T : Int) == 0) = false := by simp; omega
            have HCNT : Hid (Pl.nouM (fun p => Pl.oftN p x) k (k + 1 - (p + 1)) (p + 1) (if L < Pl.oftN p x / T then L else Pl.oftN p x / T) = R) := Lib.hid hcnt
            clear hcnt hpb
            have hdl : Pl.oftN p x / T ≤ Pl.oftN p x := Nat.div_le_self _ _
            have e1 : ((Pl.oftN p x : Nat) : Int).tdiv (T : Int) = ((Pl.oftN p x / T : Nat) : Int) := rfl
            generalize Pl.oftN p x / T = D at *
            generalize Pl.oftN p x = O at *
            have e2 : IntKind.i64.wrap (D : Int) = (D : Int) := IntWalk.i64_in _ (by omega)
            by_cases hLD : L < D
            · have hLi : (L : Int) < (D : Int) := by omega
              rw [if_pos hLD] at HCNT
              go_wp2_with (first | (go_at_call 180; refine (HD.out _).mono ?_; rintro e w' ⟨rfl, rfl⟩) | (go_at_call 181; refine (HP.out _).mono ?_; rintro e w' ⟨rfl, rfl⟩) | (go_at_call 182; refine (HOC.out _).mono ?_; rintro e w1 ⟨rfl, hb1⟩))
              all_goals
                go_roundw
                case rel => exact ⟨L, p + 1, rfl, by go_num, by omega, by omega, hL, HCNT.out, hB.trans (hb1.mono hB.size)⟩
                case measure => simp [intOf]; omega
            · have hLi : ¬ (L : Int) < (D : Int) := by omega
              rw [if_neg hLD] at HCNT
              go_wp2_with (first | (go_at_call 180; refine (HD.out _).mono ?_; rintro e w' ⟨rfl, rfl⟩) | (go_at_call 181; refine (HP.out _).mono ?_; rintro e w' ⟨rfl, rfl⟩) | (go_at_call 182; refine (HOC.out _).mono ?_; rintro e w1 ⟨rfl, hb1⟩))
              all_goals
                go_roundw
                case rel => exact ⟨D, p + 1, by rw [show (if D < L then (D : Int) else (L : Int)) = (D : Int) by split <;> omega], by go_num, by omega, by omega, by omega, HCNT.out, hB.trans (hb1.mono hB.size)⟩
                case measure => simp [intOf]; omega
          · rw [if_neg fun h => ht h.2] at hcnt
            have ti : ¬ (0 : Int) < (T : Int) := by omega
            have HCNT := Lib.hid hcnt
            clear hcnt hpb
            go_wp2_with (first | (go_at_call 180; refine (HD.out _).mono ?_; rintro e w' ⟨rfl, rfl⟩) | (go_at_call 181; refine (HP.out _).mono ?_; rintro e w' ⟨rfl, rfl⟩))
            go_roundw
            case rel => exact ⟨L, p + 1, rfl, by go_num, by omega, by omega, hL, HCNT.out, hB⟩
            case measure => simp [intOf]; omega
        · rw [if_neg fun h => hpb h.1] at hcnt
          rw [Bool.eq_false_iff.2 hpb] at HP
          have HCNT := Lib.hid hcnt
          clear hcnt hpb
          go_wp2_with (first | (go_at_call 180; refine (HD.out _).mono ?_; rintro e w' ⟨rfl, rfl⟩) | (go_at_call 181; refine (HP.out _).mono ?_; rintro e w' ⟨rfl, rfl⟩))
          go_roundw
          case rel => exact ⟨L, p + 1, rfl, by go_num, by omega, by omega, hL, HCNT.out, hB⟩
          case measure => simp [intOf]; omega
      · have hi : ¬ (p : Int) ≤ (k : Int) := by omega
        rw [show k + 1 - p = 0 by omega, Pl.nouM] at hcnt
        subst hcnt
        clear hle
        go_wp2_with fail
        go_ret
        exact ⟨rfl, hB⟩
  · rw [Pl.nouI_no hok]
    have hok' : Pl.okB n b = false := by simpa using hok
    clear hok
    go_enter Tryz.func154, Tryz.ntmps154
    go_wp2_with (go_at_call 79; refine (hasDigits _ _ _).mono ?_; rintro e w' ⟨rfl, rfl⟩; rw [hok'])
    go_ret
    exact ⟨rfl, Below.refl _ _⟩

end Go.Proofs.YtgkkoegfmhgcjaaGreatDoor
