/-
  The program's NoughtsAtEnd: what it answers; the exact laws of chapter 10.
-/
import Derived.Test.YtcepbhmnbfaoeaaCarryOf
import Derived.Test.YtcepbhmnbfaoeaaCarryRest
import Derived.Test.YtcepbhmnbfaoeaaSpecRest
import Derived.Test.YtcepbhmnbfaoeaaSpecNoughts
namespace Go.Proofs.Ytcepbhmnbfaoeaa
open Go.RowKit Go.Shelf

namespace Pl
/-- The least over all primes from one on, as the program takes it. -/
def nouM (O : Nat → Nat) (b : Nat) : Nat → Nat → Nat → Nat
  | 0, _, acc => acc
  | f + 1, p, acc => nouM O b f (p + 1) (if primeB (p : Int) = true ∧ 0 < tmsN p 5 b then (if acc < O p / tmsN p 5 b then acc else O p / tmsN p 5 b) else acc)
theorem nouM_all (O : Nat → Nat) {b n : Nat} (h1 : 2 ≤ b) (h2 : b ≤ 16) (hO : ∀ p, 2 ≤ p → O p ≤ n) : nouM O b (b - 1) 2 n = nouT O b := by
  have o2 := hO 2 (by omega)
  have o3 := hO 3 (by omega)
  have o5 := hO 5 (by omega)
  have o7 := hO 7 (by omega)
  have o11 := hO 11 (by omega)
  have o13 := hO 13 (by omega)
  have h : b = 2 ∨ b = 3 ∨ b = 4 ∨ b = 5 ∨ b = 6 ∨ b = 7 ∨ b = 8 ∨ b = 9 ∨ b = 10 ∨ b = 11 ∨ b = 12 ∨ b = 13 ∨ b = 14 ∨ b = 15 ∨ b = 16 := by omega
  rcases h with rfl | rfl | rfl | rfl | rfl | rfl | rfl | rfl | rfl | rfl | rfl | rfl | rfl | rfl | rfl
  all_goals
    simp [nouM, tmsN, primeB, nouT, less2]
    repeat' split
    all_goals omega
end Pl

set_option maxHeartbeats 1000000 in
theorem dividesOften (p b : Nat) (hp : 2 ≤ p) (hp' : p ≤ 16) (hb : 1 ≤ b) (hb' : b ≤ 16) (w : World) :
    Calls Try.prog 52 #[.int .i64 p, .int .i64 b] w fun e w' => e = .returned (.int .i64 ((Pl.tmsN p 5 b : Nat) : Int)) ∧ w = w' := by
  obtain ⟨T, hT⟩ : ∃ T, Pl.tmsN p 5 b = T := ⟨_, rfl⟩
  have HT := Lib.hid hT
  have hp0 : ((p : Int) == 0) = false := by simp; omega
  rw [hT]
  clear hT
  go_enter Try.func52, Try.ntmps52
  go_wp2_with fail
  go_loop [1, 5] (fun lv tv => ∃ (q t g : Nat), lv = .int .i64 q ∧ tv = .int .i64 t ∧ 1 ≤ q ∧ q ≤ 16 ∧ q < 2 ^ g ∧ t + g ≤ 5 ∧ t + Pl.tmsN p g q = T) (fun lv _ => (intOf lv).toNat)
  case atStart => exact ⟨b, 0, 5, rfl, rfl, hb, hb', by omega, by omega, by rw [HT.out, Nat.zero_add]⟩
  case round =>
    clear HT
    obtain ⟨q, t, g, rfl, rfl, hq1, hq2, hqg, hg, hqT⟩ := hrel
    obtain ⟨G, rfl⟩ : ∃ G, g = G + 1 := ⟨g - 1, by
      have : g ≠ 0 := fun e => by rw [e] at hqg; simp at hqg; omega
      omega⟩
    rw [Pl.tmsN] at hqT
    by_cases hz : q % p = 0
    · rw [if_pos hz] at hqT
      have htq : ((q : Int) % (p : Int) == 0) = true := by
        have e : (q : Int) % (p : Int) = ((q % p : Nat) : Int) := rfl
        rw [e, hz]; rfl
      have hd1 := Nat.div_add_mod q p
      have hdq : 1 ≤ q / p := Classical.byContradiction fun hno => by
        rw [Nat.eq_zero_of_not_pos hno, hz] at hd1; omega
      have hd2 : q / p < q := Nat.div_lt_self (by omega) (by omega)
      have hd3 : q / p < 2 ^ G := by
        have g1 : q / p ≤ q / 2 := Nat.div_le_div_left hp (by omega)
        rw [Nat.pow_succ] at hqg; omega
      have e1 : ((q : Int)).tdiv (p : Int) = ((q / p : Nat) : Int) := rfl
      have HQT := Lib.hid hqT
      have HD3 := Lib.hid hd3
      clear hqT hz hd1 hqg hd3
      generalize q / p = Q at *
      have e2 : IntKind.i64.wrap (Q : Int) = (Q : Int) := IntWalk.i64_in _ (by omega)
      go_wp2_with fail
      go_round
      case rel => exact ⟨Q, t + 1, G, rfl, by go_num, hdq, by omega, HD3.out, by omega, by have := HQT.out; omega⟩
      case measure => simp [intOf]; omega
    · rw [if_neg hz] at hqT
      have htq : ((q : Int) % (p : Int) == 0) = false := by
        have e : (q : Int) % (p : Int) = ((q % p : Nat) : Int) := rfl
        rw [e, beq_eq_false_iff_ne]; omega
      rw [Nat.add_zero] at hqT
      subst hqT
      clear hz hqg
      go_wp2_with fail
      go_ret
      exact ⟨rfl, rfl⟩

set_option maxHeartbeats 2000000 in
theorem implNoughtsAtEnd (n b : Int) (w : World) :
    Calls Try.prog 35 #[.int .i64 n, .int .i64 b] w fun e w' => e = .returned (.int .i64 (Pl.nouI n b)) ∧ Below w.heap.size w w' := by
  by_cases hok : Pl.okB n b = true
  · obtain ⟨x, k, rfl, rfl, hk1, hk2, hx⟩ := Pl.okB_nat hok
    rw [Pl.nouI_yes hok]
    have HO : Hid (∀ p : Nat, Pl.primeB p = true → Pl.oftN p x ≤ 1000000000 ∧ ∀ W, Calls Try.prog 26 #[.int .i64 x, .int .i64 p] W fun e W' => e = .returned (.int .i64 ((Pl.oftN p x : Nat) : Int)) ∧ Below W.heap.size W W') := Lib.hid fun p hp => by
      obtain ⟨q, hq, hm⟩ := Pl.primeB_nat hp
      obtain rfl : p = q := by omega
      have h2 := Pl.primes6_ge hm
      refine ⟨by have := Pl.oftN_le h2.1 (show x ≤ 1000000000 by omega); omega, fun W => ?_⟩
      have h := implProductOften (x : Int) p W
      rw [Pl.oftI, if_pos ⟨by omega, hp⟩] at h
      exact h
    have HN : Hid (Pl.nouM (fun p => Pl.oftN p x) k (k - 1) 2 x = Pl.nouT (fun p => Pl.oftN p x) k) := Lib.hid (Pl.nouM_all _ hk1 hk2 fun p hp => Pl.oftN_le hp (by omega))
    generalize Pl.nouT (fun p => Pl.oftN p x) k = R at *
    go_enter Try.func35, Try.ntmps35
    go_wp2_with (go_at_call 40; refine (hasDigits _ _ _).mono ?_; rintro e w' ⟨rfl, rfl⟩; rw [hok])
    go_loopw [5, 6, 7] (fun lv pv _ wr => ∃ (L p : Nat), lv = .int .i64 L ∧ pv = .int .i64 p ∧ 2 ≤ p ∧ p ≤ k + 1 ∧ L ≤ 1000000000 ∧ Pl.nouM (fun p => Pl.oftN p x) k (k + 1 - p) p L = R ∧ Below w.heap.size w wr) (fun _ pv _ _ => k + 1 - (intOf pv).toNat)
    case atStart => exact ⟨x, 2, rfl, rfl, by omega, by omega, hx, HN.out, Below.refl _ _⟩
    case round =>
      clear hok HN
      obtain ⟨L, p, rfl, rfl, hp1, hp2, hL, hcnt, hB⟩ := hrel
      by_cases hle : p ≤ k
      · have hi : (p : Int) ≤ (k : Int) := by omega
        rw [show k + 1 - p = (k + 1 - (p + 1)) + 1 by omega, Pl.nouM] at hcnt
        have HD := Lib.hid (dividesOften p k hp1 (by omega) (by omega) hk2)
        have HP := Lib.hid (primeBase0 (p : Int))
        have hT := Pl.tms_le p 5 k
        generalize Pl.tmsN p 5 k = T at *
        by_cases hpb : Pl.primeB (p : Int) = true
        · obtain ⟨hOb, hOC⟩ := HO.out p hpb
          have HOC := Lib.hid hOC
          rw [hpb] at HP
          clear hOC
          by_cases ht : 0 < T
          · rw [if_pos ⟨hpb, ht⟩] at hcnt
            have ti : (0 : Int) < (T : Int) := by omega
            have tz : ((T : Int) == 0) = false := by simp; omega
            have HCNT : Hid (Pl.nouM (fun p => Pl.oftN p x) k (k + 1 - (p + 1)) (p + 1) (if L < Pl.oftN p x / T then L else Pl.oftN p x / T) = R) := Lib.hid hcnt
            clear hcnt hpb
            have hdl : Pl.oftN p x / T ≤ Pl.oftN p x := Nat.div_le_self _ _
            have e1 : ((Pl.oftN p x : Nat) : Int).tdiv (T : Int) = ((Pl.oftN p x / T : Nat) : Int) := rfl
            generalize Pl.oftN p x / T = D at *
            generalize Pl.oftN p x = O at *
            have e2 : IntKind.i64.wrap (D : Int) = (D : Int) := IntWalk.i64_in _ (by omega)
            by_cases hLD : L < D
            · have hLi : (L : Int) < (D : Int) := by omega
              rw [if_pos hLD] at HCNT
              go_wp2_with (first | (go_at_call 52; refine (HD.out _).mono ?_; rintro e w' ⟨rfl, rfl⟩) | (go_at_call 21; refine (HP.out _).mono ?_; rintro e w' ⟨rfl, rfl⟩) | (go_at_call 26; refine (HOC.out _).mono ?_; rintro e w1 ⟨rfl, hb1⟩))
              all_goals
                go_roundw
                case rel => exact ⟨L, p + 1, rfl, by go_num, by omega, by omega, hL, HCNT.out, hB.trans (hb1.mono hB.size)⟩
                case measure => simp [intOf]; omega
            · have hLi : ¬ (L : Int) < (D : Int) := by omega
              rw [if_neg hLD] at HCNT
              go_wp2_with (first | (go_at_call 52; refine (HD.out _).mono ?_; rintro e w' ⟨rfl, rfl⟩) | (go_at_call 21; refine (HP.out _).mono ?_; rintro e w' ⟨rfl, rfl⟩) | (go_at_call 26; refine (HOC.out _).mono ?_; rintro e w1 ⟨rfl, hb1⟩))
              all_goals
                go_roundw
                case rel => exact ⟨D, p + 1, by rw [show (if D < L then (D : Int) else (L : Int)) = (D : Int) by split <;> omega], by go_num, by omega, by omega, by omega, HCNT.out, hB.trans (hb1.mono hB.size)⟩
                case measure => simp [intOf]; omega
          · rw [if_neg fun h => ht h.2] at hcnt
            have ti : ¬ (0 : Int) < (T : Int) := by omega
            have HCNT := Lib.hid hcnt
            clear hcnt hpb
            go_wp2_with (first | (go_at_call 52; refine (HD.out _).mono ?_; rintro e w' ⟨rfl, rfl⟩) | (go_at_call 21; refine (HP.out _).mono ?_; rintro e w' ⟨rfl, rfl⟩))
            go_roundw
            case rel => exact ⟨L, p + 1, rfl, by go_num, by omega, by omega, hL, HCNT.out, hB⟩
            case measure => simp [intOf]; omega
        · rw [if_neg fun h => hpb h.1] at hcnt
          rw [Bool.eq_false_iff.2 hpb] at HP
          have HCNT := Lib.hid hcnt
          clear hcnt hpb
          go_wp2_with (first | (go_at_call 52; refine (HD.out _).mono ?_; rintro e w' ⟨rfl, rfl⟩) | (go_at_call 21; refine (HP.out _).mono ?_; rintro e w' ⟨rfl, rfl⟩))
          go_roundw
          case rel => exact ⟨L, p + 1, rfl, by go_num, by omega, by omega, hL, HCNT.out, hB⟩
          case measure => simp [intOf]; omega
      · have hi : ¬ (p : Int) ≤ (k : Int) := by omega
        rw [show k + 1 - p = 0 by omega, Pl.nouM] at hcnt
        subst hcnt
        clear hle
        go_wp2_with fail
        go_ret
        exact ⟨rfl, hB⟩
  · rw [Pl.nouI_no hok]
    have hok' : Pl.okB n b = false := by simpa using hok
    clear hok
    go_enter Try.func35, Try.ntmps35
    go_wp2_with (go_at_call 40; refine (hasDigits _ _ _).mono ?_; rintro e w' ⟨rfl, rfl⟩; rw [hok'])
    go_ret
    exact ⟨rfl, Below.refl _ _⟩

set_option maxHeartbeats 1000000 in
theorem FnExactCarriesOf_walk (a0 : Int) (a1 : Int) (a2 : Int) (w : World) (_w0 : (Lit.int .i64 a0).wf = true) (_w1 : (Lit.int .i64 a1).wf = true) (_w2 : (Lit.int .i64 a2).wf = true) :
    Calls Try.prog 9 #[.int .i64 a0, .int .i64 a1, .int .i64 a2] w fun e w' => e = .returned (.bool true) ∧ Below w.heap.size w w' := by
  have HS := Lib.hid (specCarriesOf a0 a1 a2)
  have HI := Lib.hid (implCarriesOf a0 a1 a2)
  generalize Pl.carI a0 a1 a2 = G0 at *
  go_enter Try.func9, Try.ntmps9
  go_wp2_with (first | (go_at_call 17; refine (HS.out _).mono ?_; rintro e w1 ⟨rfl, hb1⟩) | (go_at_call 16; refine (HI.out _).mono ?_; rintro e w2 ⟨rfl, hb2⟩))
  all_goals
    go_ret
    exact ⟨rfl, hb1.trans (hb2.mono hb1.size)⟩

set_option maxHeartbeats 1000000 in
theorem FnExactPrimeBaseOk_walk (a0 : Int) (w : World) (_w0 : (Lit.int .i64 a0).wf = true) :
    Calls Try.prog 10 #[.int .i64 a0] w fun e w' => e = .returned (.bool true) ∧ Below w.heap.size w w' := by
  have HS := Lib.hid (specPrimeBaseOk a0)
  have HI := Lib.hid (implPrimeBaseOk a0)
  generalize Pl.primeB a0 = G0 at *
  go_enter Try.func10, Try.ntmps10
  go_wp2_with (first | (go_at_call 22; refine (HS.out _).mono ?_; rintro e w' ⟨rfl, rfl⟩) | (go_at_call 21; refine (HI.out _).mono ?_; rintro e w2 ⟨rfl, hb2⟩))
  all_goals
    go_ret
    exact ⟨rfl, hb2⟩

set_option maxHeartbeats 1000000 in
theorem FnExactProductOften_walk (a0 : Int) (a1 : Int) (w : World) (_w0 : (Lit.int .i64 a0).wf = true) (_w1 : (Lit.int .i64 a1).wf = true) :
    Calls Try.prog 11 #[.int .i64 a0, .int .i64 a1] w fun e w' => e = .returned (.bool true) ∧ Below w.heap.size w w' := by
  have HS := Lib.hid (specProductOften a0 a1)
  have HI := Lib.hid (implProductOften a0 a1)
  generalize Pl.oftI a0 a1 = G0 at *
  go_enter Try.func11, Try.ntmps11
  go_wp2_with (first | (go_at_call 27; refine (HS.out _).mono ?_; rintro e w' ⟨rfl, rfl⟩) | (go_at_call 26; refine (HI.out _).mono ?_; rintro e w2 ⟨rfl, hb2⟩))
  all_goals
    go_ret
    exact ⟨rfl, hb2⟩

set_option maxHeartbeats 1000000 in
theorem FnExactChoiceOften_walk (a0 : Int) (a1 : Int) (a2 : Int) (w : World) (_w0 : (Lit.int .i64 a0).wf = true) (_w1 : (Lit.int .i64 a1).wf = true) (_w2 : (Lit.int .i64 a2).wf = true) :
    Calls Try.prog 12 #[.int .i64 a0, .int .i64 a1, .int .i64 a2] w fun e w' => e = .returned (.bool true) ∧ Below w.heap.size w w' := by
  have HS := Lib.hid (specChoiceOften a0 a1 a2)
  have HI := Lib.hid (implChoiceOften a0 a1 a2)
  generalize Pl.choI a0 a1 a2 = G0 at *
  go_enter Try.func12, Try.ntmps12
  go_wp2_with (first | (go_at_call 30; refine (HS.out _).mono ?_; rintro e w1 ⟨rfl, hb1⟩) | (go_at_call 29; refine (HI.out _).mono ?_; rintro e w2 ⟨rfl, hb2⟩))
  all_goals
    go_ret
    exact ⟨rfl, hb1.trans (hb2.mono hb1.size)⟩

set_option maxHeartbeats 1000000 in
theorem FnExactChoiceRest_walk (a0 : Int) (a1 : Int) (a2 : Int) (w : World) (_w0 : (Lit.int .i64 a0).wf = true) (_w1 : (Lit.int .i64 a1).wf = true) (_w2 : (Lit.int .i64 a2).wf = true) :
    Calls Try.prog 13 #[.int .i64 a0, .int .i64 a1, .int .i64 a2] w fun e w' => e = .returned (.bool true) ∧ Below w.heap.size w w' := by
  have HS := Lib.hid (specChoiceRest a0 a1 a2)
  have HI := Lib.hid (implChoiceRest a0 a1 a2)
  generalize Pl.resI a0 a1 a2 = G0 at *
  go_enter Try.func13, Try.ntmps13
  go_wp2_with (first | (go_at_call 33; refine (HS.out _).mono ?_; rintro e w1 ⟨rfl, hb1⟩) | (go_at_call 31; refine (HI.out _).mono ?_; rintro e w2 ⟨rfl, hb2⟩))
  all_goals
    go_ret
    exact ⟨rfl, hb1.trans (hb2.mono hb1.size)⟩

set_option maxHeartbeats 1000000 in
theorem FnExactNoughtsAtEnd_walk (a0 : Int) (a1 : Int) (w : World) (_w0 : (Lit.int .i64 a0).wf = true) (_w1 : (Lit.int .i64 a1).wf = true) :
    Calls Try.prog 14 #[.int .i64 a0, .int .i64 a1] w fun e w' => e = .returned (.bool true) ∧ Below w.heap.size w w' := by
  have HS := Lib.hid (specNoughtsAtEnd a0 a1)
  have HI := Lib.hid (implNoughtsAtEnd a0 a1)
  generalize Pl.nouI a0 a1 = G0 at *
  go_enter Try.func14, Try.ntmps14
  go_wp2_with (first | (go_at_call 36; refine (HS.out _).mono ?_; rintro e w' ⟨rfl, rfl⟩) | (go_at_call 35; refine (HI.out _).mono ?_; rintro e w2 ⟨rfl, hb2⟩))
  all_goals
    go_ret
    exact ⟨rfl, hb2⟩

end Go.Proofs.Ytcepbhmnbfaoeaa
