/-
  The walks of the laws of chapter 2: roots, their steps, sums by turns, the test of products.
-/
import Derived.Test.YtggeemkjgpjahaaDigitsOf
import Derived.Test.YtggeemkjgpjahaaDraws3
import Derived.Test.YtggeemkjgpjahaaCouldBe
import Derived.Test.YtggeemkjgpjahaaTurns
namespace Go.Proofs.Ytggeemkjgpjahaa
open Go.RowKit

theorem rootI_nat (x k : Nat) (h : Pl.okB x k = true) : Pl.rootI x k = (Pl.rootN k x : Int) := Pl.rootI_yes x k h

set_option maxHeartbeats 1000000 in
theorem FnRootSteps_walk (a0 : Option Addr) (len0 cap0 : Nat) (z0 : List Int) (w : World) (w0 : IsRow .u8 w a0 len0 cap0 z0) :
    Calls Try.prog 4 #[.slice a0 len0 cap0] w fun e w' => e = .returned (.bool true) ∧ Below w.heap.size w w' := by
  by_cases hl : 1048576 < len0
  · go_enter Try.func4, Try.ntmps4
    go_wp2
    go_ret
    exact ⟨rfl, Below.refl _ _⟩
  · go_enter Try.func4, Try.ntmps4
    go_wp2_with fail
    refine (drawRootSteps _ _ _ _ _ w0).mono ?_
    rintro e w1 ⟨n, b, rfl, ⟨n1, n2⟩, ⟨b1, b2⟩, hb1⟩
    clear w0
    go_wp2_with fail
    refine (implRootSteps _ _ _).mono ?_
    rintro e w2 ⟨rfl, hb2⟩
    go_wp2_with fail
    refine (specRootSteps _ _ _).mono ?_
    rintro e w3 ⟨rfl, rfl⟩
    have c2 : Below w.heap.size w w2 := hb1.trans (hb2.mono hb1.size)
    by_cases hok : Pl.okB n b = true
    · obtain ⟨x, k, rfl, rfl, k1, k2, hx⟩ := Pl.okB_nat hok
      rw [Pl.stepsI_yes x k hok]
      have h5 := Pl.steps_le k1 k2 hx
      have HL := Lib.hid (longI_nat x k hok)
      have h1 := Pl.len_one (n := x) k1
      have hS : Hid (Pl.sumI x k = (Pl.sumD k x : Int)) := Lib.hid (Pl.sumI_yes x k hok)
      have hle := Pl.sumD_le k1 x
      have hok2 : Pl.okB (Pl.sumD k x : Int) k = true := by rw [Pl.okB_iff]; omega
      have HS := Lib.hid (Pl.stepsI_yes _ k hok2)
      have hlt : x < k → Pl.stepsN k x = 0 := fun h => Pl.stepsN_lt h
      have hge : k ≤ x → Pl.stepsN k x = 1 + Pl.stepsN k (Pl.sumD k x) := fun h => Pl.stepsN_ge k1 h
      generalize Pl.sumD k x = S at *
      generalize Pl.stepsN k S = T at *
      generalize Pl.stepsN k x = X at *
      generalize (Pl.digsR k x).length = L at *
      clear hok hok2 hl hle
      rcases Nat.lt_or_ge x k with hk | hk
      · obtain rfl : L = 1 := h1.2 hk
        obtain rfl : X = 0 := hlt hk
        clear hlt hge h1
        go_wp2_with (first | (go_at_call 18; refine (implLongOf _ _ _).mono ?_; rintro e w5 ⟨rfl, hb5⟩; rw [HL.out]))
        go_ret
        exact ⟨rfl, c2.trans (hb5.mono c2.size)⟩
      · have hX : X = 1 + T := hge hk
        have e2 : ((L : Int) == 1) = false := by
          have : ¬ L = 1 := fun h => by have := h1.1 h; omega
          simp; omega
        have e3 : ((X : Int) == 0) = false := by simp; omega
        have e4 : (X : Int) = (T : Int) + 1 := by omega
        have e5 : (T : Int) + 1 ≤ 5 := by omega
        clear hlt hge h1 hX
        go_wp2_with (first | (go_at_call 18; refine (implLongOf _ _ _).mono ?_; rintro e w5 ⟨rfl, hb5⟩; rw [HL.out]) | (go_at_call 19; refine (implSumOf _ _ _).mono ?_; rintro e w6 ⟨rfl, hb6⟩; rw [hS.out]) | (go_at_call 16; refine (implRootSteps _ _ _).mono ?_; rintro e w7 ⟨rfl, hb7⟩; rw [HS.out]))
        go_ret
        have c5 := c2.trans (hb5.mono c2.size)
        have c6 := c5.trans (hb6.mono c5.size)
        exact ⟨rfl, c6.trans (hb7.mono c6.size)⟩
    · rw [Pl.stepsI_no hok]
      go_wp2_with (go_at_call 14; refine (alive _).mono ?_; rintro e w' ⟨rfl, rfl⟩)
      go_ret
      exact ⟨rfl, c2⟩

theorem Pl.turns_facts {x k : Nat} (k1 : 2 ≤ k) : ((x : Int) - Pl.altD k x).tmod ((k : Int) + 1) = 0 ∧ ((Pl.sumD k x : Int) - Pl.altD k x).tmod 2 = 0 := by
  obtain ⟨c, hc⟩ := Pl.altD_dvd k1 x
  obtain ⟨d, hd⟩ := Pl.altD_even k1 x
  exact ⟨Int.tmod_eq_zero_of_dvd ⟨c, by rw [hc, Int.mul_comm]⟩, Int.tmod_eq_zero_of_dvd ⟨d, hd⟩⟩

set_option maxHeartbeats 1000000 in
theorem FnTurnsOf_walk (a0 : Option Addr) (len0 cap0 : Nat) (z0 : List Int) (w : World) (w0 : IsRow .u8 w a0 len0 cap0 z0) :
    Calls Try.prog 5 #[.slice a0 len0 cap0] w fun e w' => e = .returned (.bool true) ∧ Below w.heap.size w w' := by
  by_cases hl : 1048576 < len0
  · go_enter Try.func5, Try.ntmps5
    go_wp2
    go_ret
    exact ⟨rfl, Below.refl _ _⟩
  · go_enter Try.func5, Try.ntmps5
    go_wp2_with fail
    refine (drawTurnsOf _ _ _ _ _ w0).mono ?_
    rintro e w1 ⟨n, b, rfl, ⟨n1, n2⟩, ⟨b1, b2⟩, hb1⟩
    clear w0
    go_wp2_with fail
    refine (implTurnsOf _ _ _).mono ?_
    rintro e w2 ⟨rfl, hb2⟩
    go_wp2_with fail
    refine (specTurnsOf _ _ _).mono ?_
    rintro e w3 ⟨rfl, rfl⟩
    have c2 : Below w.heap.size w w2 := hb1.trans (hb2.mono hb1.size)
    by_cases hok : Pl.okB n b = true
    · obtain ⟨x, k, rfl, rfl, k1, k2, hx⟩ := Pl.okB_nat hok
      rw [Pl.turnsI_yes x k hok, hok]
      have hS : Hid (Pl.sumI x k = (Pl.sumD k x : Int)) := Lib.hid (Pl.sumI_yes x k hok)
      have hle := Pl.sumD_le k1 x
      have hbd := Pl.altD_bound k1 x
      obtain ⟨f1, f2⟩ := Pl.turns_facts (x := x) k1
      have hne : ((k : Int) + 1 == 0) = false := by simp; omega
      generalize Pl.sumD k x = S at *
      generalize Pl.altD k x = A at *
      clear hok hl
      have b3 : 0 ≤ (x : Int) - A ∧ (x : Int) - A ≤ 2000000000 := by omega
      have b4 : 0 ≤ (S : Int) - A ∧ (S : Int) - A ≤ 2000000000 := by omega
      have f1' : ((x : Int) - A) % ((k : Int) + 1) = 0 := by rw [← Int.tmod_eq_emod_of_nonneg b3.1]; exact f1
      have f2' : ((S : Int) - A) % 2 = 0 := by rw [← Int.tmod_eq_emod_of_nonneg b4.1]; exact f2
      go_wp2_with (first | (go_at_call 19; refine (implSumOf _ _ _).mono ?_; rintro e w6 ⟨rfl, hb6⟩; rw [hS.out]) | (go_at_call 14; refine (alive _).mono ?_; rintro e w' ⟨rfl, rfl⟩))
      go_ret
      exact ⟨rfl, c2.trans (hb6.mono c2.size)⟩
    · rw [Pl.turnsI_no hok, Bool.eq_false_iff.2 hok]
      go_wp2_with (go_at_call 14; refine (alive _).mono ?_; rintro e w' ⟨rfl, rfl⟩)
      go_ret
      exact ⟨rfl, c2⟩

theorem Pl.beq_no {P : Int} (h : ¬ P = 0) : (P == 0) = false := by simpa using h
theorem Pl.could_key {P q T : Int} {c : Bool} (h1 : c = ((T == 0) && ((P == 0) == (q == 0)))) (h2 : q = P → T = 0) : (c = true ∧ (T == 0) = true ∧ (P == 0) = (q == 0)) ∨ (c = false ∧ (P != q) = true ∧ ((T == 0) = false ∨ ((T == 0) = true ∧ (P == 0) = !(q == 0)))) := by
  subst h1
  by_cases hT0 : T = 0
  · subst hT0
    by_cases hP : P = 0
    · subst hP
      by_cases hQ : q = 0
      · subst hQ; simp
      · rw [Pl.beq_no hQ]; simp; omega
    · rw [Pl.beq_no hP]
      by_cases hQ : q = 0
      · subst hQ; simp [hP]
      · rw [Pl.beq_no hQ]; simp
  · have hne : ¬ P = q := fun e => hT0 (h2 e.symm)
    rw [Pl.beq_no hT0]; simp [hne]
theorem Pl.nat_beq (p q : Nat) : (p = 0 ↔ q = 0) ↔ ((((p : Int) == 0) == ((q : Int) == 0)) = true) := by
  by_cases h1 : (p : Int) = 0 <;> by_cases h2 : (q : Int) = 0 
  all_goals (first | rw [Pl.beq_no h1] | rw [h1]); (first | rw [Pl.beq_no h2] | rw [h2]); simp; omega

theorem Pl.rootN_same {b p q : Nat} (hb : 2 ≤ b) : Pl.rootN b p = Pl.rootN b q ↔ p % (b - 1) = q % (b - 1) ∧ (p = 0 ↔ q = 0) := by
  constructor
  · intro h
    refine ⟨by rw [← Pl.rootN_mod hb p, h, Pl.rootN_mod hb q], ?_⟩
    rw [← Pl.rootN_zero hb p, h, Pl.rootN_zero hb q]
  · rintro ⟨h1, h2⟩
    refine Pl.rootN_unique hb (Pl.rootN_digit hb q) ?_ ?_
    · rw [Pl.rootN_mod hb q, h1]
    · rw [Pl.rootN_zero hb q, h2]

theorem Pl.tmod_same {b p q : Nat} (hb : 2 ≤ b) : ((p : Int) - (q : Int)).tmod ((b : Int) - 1) = 0 ↔ p % (b - 1) = q % (b - 1) := by
  rw [← Int.dvd_iff_tmod_eq_zero, Int.dvd_iff_emod_eq_zero, ← Int.emod_eq_emod_iff_emod_sub_eq_zero, show (b : Int) - 1 = ((b - 1 : Nat) : Int) by omega, ← Int.natCast_emod, ← Int.natCast_emod]
  omega

theorem Pl.couldB_nat {p x y k : Nat} (hp : Pl.okB p k = true) (hn : Pl.okB x k = true) (hm : Pl.okB y k = true) (hk : 2 ≤ k) :
    Pl.couldB p x y k = ((((p : Int) - (x : Int) * (y : Int)).tmod ((k : Int) - 1) == 0) && (((p : Int) == 0) == ((x : Int) * (y : Int) == 0))) := by
  have hR : Pl.couldB p x y k = decide (Pl.rootN k p = Pl.rootN k (x * y)) := by
    rw [← Pl.rootN_mul hk x y]
    have h := Pl.rootI_mul x y k hn hm
    rw [Pl.rootI_yes x k hn, Pl.rootI_yes y k hm] at h
    simp only [Pl.couldB, hp, hn, hm, Bool.true_and]
    rw [Pl.rootI_yes p k hp, Pl.rootI_yes x k hn, Pl.rootI_yes y k hm, show (Pl.rootN k x : Int) * (Pl.rootN k y : Int) = ((Pl.rootN k x * Pl.rootN k y : Nat) : Int) from rfl, Pl.rootI_yes _ k h]
    simp only [Int.ofNat_inj]
  rw [hR, Bool.eq_iff_iff, decide_eq_true_iff, Pl.rootN_same hk, Bool.and_eq_true, beq_iff_eq, show (x : Int) * (y : Int) = ((x * y : Nat) : Int) from rfl, Pl.tmod_same hk]
  exact and_congr Iff.rfl (Pl.nat_beq p (x * y))

set_option maxHeartbeats 1000000 in
theorem FnCouldBe_walk (a0 : Option Addr) (len0 cap0 : Nat) (z0 : List Int) (w : World) (w0 : IsRow .u8 w a0 len0 cap0 z0) :
    Calls Try.prog 6 #[.slice a0 len0 cap0] w fun e w' => e = .returned (.bool true) ∧ Below w.heap.size w w' := by
  by_cases hl : 1048576 < len0
  · go_enter Try.func6, Try.ntmps6
    go_wp2
    go_ret
    exact ⟨rfl, Below.refl _ _⟩
  · go_enter Try.func6, Try.ntmps6
    go_wp2_with fail
    refine (drawCouldBe _ _ _ _ _ w0).mono ?_
    rintro e w1 ⟨p, n, m, b, rfl, ⟨p1, p2⟩, ⟨n1, n2⟩, ⟨m1, m2⟩, ⟨b1, b2⟩, hb1⟩
    clear w0 hl
    go_wp2_with fail
    refine (implCouldBe _ _ _ _ _).mono ?_
    rintro e w2 ⟨rfl, hb2⟩
    go_wp2_with fail
    refine (specCouldBe _ _ _ _ _).mono ?_
    rintro e w3 ⟨rfl, rfl⟩
    have c2 : Below w.heap.size w w2 := hb1.trans (hb2.mono hb1.size)
    by_cases hB : Pl.baseB b = true
    · by_cases hp0 : p < 0
      · have hR : Pl.couldB p n m b = false := by
          have : ¬ Pl.okB p b = true := by rw [Pl.okB_iff]; omega
          simp [Pl.couldB, this]
        rw [hR]
        go_wp2_with (first | (go_at_call 26; refine (specBaseOk _ _).mono ?_; rintro e w' ⟨rfl, rfl⟩) | (go_at_call 14; refine (alive _).mono ?_; rintro e w' ⟨rfl, rfl⟩))
        go_ret
        exact ⟨rfl, c2⟩
      · by_cases hp1 : 1000000000 < p
        · have hR : Pl.couldB p n m b = false := by
            have : ¬ Pl.okB p b = true := by rw [Pl.okB_iff]; omega
            simp [Pl.couldB, this]
          rw [hR]
          go_wp2_with (first | (go_at_call 26; refine (specBaseOk _ _).mono ?_; rintro e w' ⟨rfl, rfl⟩) | (go_at_call 14; refine (alive _).mono ?_; rintro e w' ⟨rfl, rfl⟩))
          go_ret
          exact ⟨rfl, c2⟩
        · have hB' := (Pl.baseB_iff b).1 hB
          obtain ⟨P, rfl⟩ := Int.eq_ofNat_of_zero_le (show 0 ≤ p by omega)
          obtain ⟨x, rfl⟩ := Int.eq_ofNat_of_zero_le n1
          obtain ⟨y, rfl⟩ := Int.eq_ofNat_of_zero_le m1
          obtain ⟨k, rfl⟩ := Int.eq_ofNat_of_zero_le (show 0 ≤ b by omega)
          have hR := Pl.couldB_nat (p := P) (x := x) (y := y) (k := k) (by rw [Pl.okB_iff]; omega) (by rw [Pl.okB_iff]; omega) (by rw [Pl.okB_iff]; omega) (by omega)
          have hq := mul_bound (c := 14691) (d := 14691) ⟨n1, n2⟩ ⟨m1, m2⟩
          have hmx : max ((k : Int) - 1) 1 = (k : Int) - 1 := by omega
          have hne : ((k : Int) - 1 == 0) = false := by simp; omega
          generalize hxy : (x : Int) * (y : Int) = q at *
          have hqw : IntKind.i64.wrap ((x : Int) * (y : Int)) = q := by rw [hxy]; exact IntWalk.i64_in _ (by omega)
          have hT : q = P → ((P : Int) - q).tmod ((k : Int) - 1) = 0 := by rintro rfl; simp
          generalize hc : Pl.couldB P x y k = c at *
          generalize hG : ((P : Int) - q).tmod ((k : Int) - 1) = T at *
          have HR := Lib.hid hR
          have HT := Lib.hid hT
          clear hR hT hc
          have key := Pl.could_key HR.out HT.out
          clear HR HT
          rcases key with ⟨rfl, e1, e2⟩ | ⟨rfl, e1, e2 | ⟨e2, e3⟩⟩
          · by_cases hP : (P : Int) = 0
            · have e3 : ((P : Int) == 0) = true := by simp [hP]
              have e4 : (q == 0) = true := by rw [← e2, e3]
              clear e2 hP
              go_wp2_with (first | (go_at_call 26; refine (specBaseOk _ _).mono ?_; rintro e w' ⟨rfl, rfl⟩))
              all_goals
                go_ret
                exact ⟨rfl, c2⟩
            · have e3 : ((P : Int) == 0) = false := by simp; omega
              have e4 : (q == 0) = false := by rw [← e2, e3]
              clear e2 hP
              go_wp2_with (first | (go_at_call 26; refine (specBaseOk _ _).mono ?_; rintro e w' ⟨rfl, rfl⟩))
              all_goals
                go_ret
                exact ⟨rfl, c2⟩
          · go_wp2_with (first | (go_at_call 26; refine (specBaseOk _ _).mono ?_; rintro e w' ⟨rfl, rfl⟩))
            all_goals
              go_ret
              exact ⟨rfl, c2⟩
          · by_cases hQ : q = 0
            · have e4 : (q == 0) = true := by simp [hQ]
              rw [e4] at e3
              clear hQ
              go_wp2_with (first | (go_at_call 26; refine (specBaseOk _ _).mono ?_; rintro e w' ⟨rfl, rfl⟩))
              all_goals
                go_ret
                exact ⟨rfl, c2⟩
            · have e4 : (q == 0) = false := by simp [hQ]
              rw [e4] at e3
              clear hQ
              go_wp2_with (first | (go_at_call 26; refine (specBaseOk _ _).mono ?_; rintro e w' ⟨rfl, rfl⟩))
              all_goals
                go_ret
                exact ⟨rfl, c2⟩
    · have hR : Pl.couldB p n m b = false := by
        have : ¬ Pl.okB p b = true := by rw [Pl.okB]; simp [hB]
        simp [Pl.couldB, this]
      rw [hR]
      have hB' : Pl.baseB b = false := by simpa using hB
      go_wp2_with (first | (go_at_call 26; refine (specBaseOk _ _).mono ?_; rintro e w' ⟨rfl, rfl⟩) | (go_at_call 14; refine (alive _).mono ?_; rintro e w' ⟨rfl, rfl⟩))
      go_ret
      exact ⟨rfl, c2⟩

end Go.Proofs.Ytggeemkjgpjahaa
