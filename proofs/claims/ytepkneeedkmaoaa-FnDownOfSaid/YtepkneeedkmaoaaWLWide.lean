/-
  The walks of the laws of WideOk, DownOf, UpOf and LeftOf.
-/
import Derived.Test.YtepkneeedkmaoaaAlike
import Derived.Test.YtepkneeedkmaoaaDraws6
namespace Go.Proofs.Ytepkneeedkmaoaa
open Go.RowKit

set_option maxRecDepth 100000 in
set_option maxHeartbeats 2000000 in
theorem FnWideOk_walk (a0 : Option Addr) (len0 cap0 : Nat) (z0 : List Int) (w : World) (w0 : IsRow .u8 w a0 len0 cap0 z0) :
    Calls Try.prog 3 #[.slice a0 len0 cap0] w fun e w' => e = .returned (.bool true) ∧ Below w.heap.size w w' := by
  by_cases hl : 1048576 < len0
  · go_enter Try.func3, Try.ntmps3
    go_wp2
    go_ret
    exact ⟨rfl, Below.refl _ _⟩
  · go_enter Try.func3, Try.ntmps3
    go_wp2_with fail
    refine (drawWideOk _ _ _ _ _ w0).mono ?_
    rintro e w1 ⟨n, t, b, rfl, ⟨n1, n2⟩, ⟨t1, t2⟩, ⟨b1, b2⟩, hb1⟩
    clear w0 hl
    by_cases hok : Pl.wideB n t b = true
    · go_wp2_with fail
      refine (implWideOk _ _ _ _).mono ?_
      rintro e w2 ⟨rfl, hb2⟩
      rw [hok]
      go_wp2_with fail
      refine (specWideOk _ _ _ _).mono ?_
      rintro e w3 ⟨rfl, rfl⟩
      rw [hok]
      have c2 : Below w.heap.size w w2 := hb1.trans (hb2.mono hb1.size)
      clear hb1 hb2
      obtain ⟨x, v, k, rfl, rfl, rfl, h1, h2, h3, h4, h5⟩ := Pl.wideB_nat hok
      have hx9 : Pl.okB x k = true := by
        have := Pl.pow_le24 (b := k) (w := v) h2 h4
        rw [Pl.okB_iff]; omega
      have hlong : longI (x : Int) (k : Int) ≤ (v : Int) := by
        rw [longI_nat x k hx9]
        have := (Pl.len_iff h1 (w := v) (by omega) x).2 h5
        omega
      have HZ : Hid (Pl.wideB 0 (v : Int) k = true) := Lib.hid (Pl.wideB_of (x := 0) h1 h2 h3 h4 (Nat.pow_pos (by omega)))
      by_cases hv : 6 ≤ v
      · have hv' : (6 : Int) ≤ (v : Int) := by omega
        clear h5 hok hx9
        go_wp2_with fail
        refine (implWideOk _ _ _ _).mono ?_
        rintro e w4 ⟨rfl, hb4⟩
        rw [HZ.out]
        go_wp2_with fail
        refine (implLongOf _ _ _).mono ?_
        rintro e w5 ⟨rfl, hb5⟩
        generalize longI (x : Int) (k : Int) = G at *
        go_wp2
        go_ret
        have c4 := c2.trans (hb4.mono c2.size)
        exact ⟨rfl, c4.trans (hb5.mono c4.size)⟩
      · have hv' : ¬ (6 : Int) ≤ (v : Int) := by omega
        have HN : Hid (Pl.wideB (x : Int) ((v : Int) + 1) k = true) := Lib.hid (Pl.wideB_of (x := x) (v := v + 1) h1 h2 (by omega) (by omega) (Nat.lt_of_lt_of_le h5 (Nat.pow_le_pow_right (by omega) (by omega))))
        clear h5 hok hx9
        go_wp2_with fail
        refine (implWideOk _ _ _ _).mono ?_
        rintro e w3 ⟨rfl, hb3⟩
        rw [HN.out]
        have c3 : Below w.heap.size w w3 := c2.trans (hb3.mono c2.size)
        go_wp2_with fail
        refine (implWideOk _ _ _ _).mono ?_
        rintro e w4 ⟨rfl, hb4⟩
        rw [HZ.out]
        go_wp2_with fail
        refine (implLongOf _ _ _).mono ?_
        rintro e w5 ⟨rfl, hb5⟩
        generalize longI (x : Int) (k : Int) = G at *
        go_wp2
        go_ret
        have c4 := c3.trans (hb4.mono c3.size)
        exact ⟨rfl, c4.trans (hb5.mono c4.size)⟩
    · have hok' : Pl.wideB n t b = false := by simpa using hok
      go_wp2_with fail
      refine (implWideOk _ _ _ _).mono ?_
      rintro e w2 ⟨rfl, hb2⟩
      rw [hok']
      go_wp2_with fail
      refine (specWideOk _ _ _ _).mono ?_
      rintro e w3 ⟨rfl, rfl⟩
      rw [hok']
      go_wp2_with (go_at_call 18; refine (alive _).mono ?_; rintro e w' ⟨rfl, rfl⟩)
      go_ret
      exact ⟨rfl, hb1.trans (hb2.mono hb1.size)⟩

/-- What a law of DownOf and UpOf needs of a number of a width. -/
structure OrdFacts (x v k : Nat) : Prop where
  down : Pl.downI x v k = (Pl.downN k v x : Nat)
  up : Pl.upI x v k = (Pl.upN k v x : Nat)
  left : Pl.leftI x v k = (Pl.leftN k v x : Nat)
  sum : Pl.sumI x k = (Pl.sumD k x : Nat)
  downSum : Pl.sumI ((Pl.downN k v x : Nat) : Int) k = (Pl.sumD k x : Nat)
  upSum : Pl.sumI ((Pl.upN k v x : Nat) : Int) k = (Pl.sumD k x : Nat)
  downDown : Pl.downI ((Pl.downN k v x : Nat) : Int) v k = (Pl.downN k v x : Nat)
  downUp : Pl.upI ((Pl.downN k v x : Nat) : Int) v k = (Pl.upN k v x : Nat)
  upDown : Pl.downI ((Pl.upN k v x : Nat) : Int) v k = (Pl.downN k v x : Nat)
  downLeft : Pl.leftI ((Pl.downN k v x : Nat) : Int) v k = (Pl.leftN k v x : Nat)
  ge : x ≤ Pl.downN k v x
  le : Pl.upN k v x ≤ x
  wide : Pl.wideB ((Pl.leftN k v x : Nat) : Int) v k = true
  mod : ((Pl.leftN k v x : Nat) : Int) % ((k : Int) - 1) = 0

theorem ordFacts {x v k : Nat} (h1 : 2 ≤ k) (h2 : k ≤ 16) (h3 : 2 ≤ v) (h4 : v ≤ 6) (h5 : x < k ^ v) : OrdFacts x v k := by
  have hp := Pl.pow_le24 (b := k) (w := v) h2 h4
  have hok := Pl.wideB_of h1 h2 h3 h4 h5
  have hd := Pl.downN_lt h1 v x
  have hu := Pl.upN_lt h1 v x
  have hle := Pl.left_lt h1 v x
  have hokd := Pl.wideB_of h1 h2 h3 h4 hd
  have hoku := Pl.wideB_of h1 h2 h3 h4 hu
  have hokl := Pl.wideB_of h1 h2 h3 h4 hle
  obtain ⟨o1, o2⟩ := Pl.order_bounds h1 v x h5
  refine ⟨Pl.downI_yes x v k hok, Pl.upI_yes x v k hok, Pl.leftI_yes x v k hok, Pl.sumI_yes x k (by rw [Pl.okB_iff]; omega), ?_, ?_, ?_, ?_, ?_, ?_, o2, o1, hokl, ?_⟩
  · rw [Pl.sumI_yes _ k (by rw [Pl.okB_iff]; omega), Pl.sumD_down h1 h5]
  · rw [Pl.sumI_yes _ k (by rw [Pl.okB_iff]; omega), Pl.sumD_up h1 h5]
  · rw [Pl.downI_yes _ v k hokd]
    have e : Pl.downN k v (Pl.downN k v x) = Pl.downN k v x := by
      show Pl.valR k (Pl.ordW k v (Pl.downN k v x)) = Pl.valR k (Pl.ordW k v x)
      rw [Pl.ordW_down h1]
    rw [e]
  · rw [Pl.upI_yes _ v k hokd]
    have e : Pl.upN k v (Pl.downN k v x) = Pl.upN k v x := by
      unfold Pl.upN; rw [Pl.ordW_down h1]
    rw [e]
  · rw [Pl.downI_yes _ v k hoku]
    have e : Pl.downN k v (Pl.upN k v x) = Pl.downN k v x := by
      show Pl.valR k (Pl.ordW k v (Pl.upN k v x)) = Pl.valR k (Pl.ordW k v x)
      rw [Pl.ordW_up h1]
    rw [e]
  · rw [Pl.leftI_yes _ v k hokd, Pl.left_down h1]
  · have h := Pl.left_mod h1 v x
    have e : (k : Int) - 1 = ((k - 1 : Nat) : Int) := by omega
    rw [e]
    exact_mod_cast h

set_option maxRecDepth 100000 in
set_option maxHeartbeats 2000000 in
theorem FnDownOf_walk (a0 : Option Addr) (len0 cap0 : Nat) (z0 : List Int) (w : World) (w0 : IsRow .u8 w a0 len0 cap0 z0) :
    Calls Try.prog 4 #[.slice a0 len0 cap0] w fun e w' => e = .returned (.bool true) ∧ Below w.heap.size w w' := by
  by_cases hl : 1048576 < len0
  · go_enter Try.func4, Try.ntmps4
    go_wp2
    go_ret
    exact ⟨rfl, Below.refl _ _⟩
  · go_enter Try.func4, Try.ntmps4
    go_wp2_with fail
    refine (drawDownOf _ _ _ _ _ w0).mono ?_
    rintro e w1 ⟨n, t, b, rfl, ⟨n1, n2⟩, ⟨t1, t2⟩, ⟨b1, b2⟩, hb1⟩
    clear w0 hl
    by_cases hok : Pl.wideB n t b = true
    · obtain ⟨x, v, k, rfl, rfl, rfl, h1, h2, h3, h4, h5⟩ := Pl.wideB_nat hok
      obtain ⟨F1, F2, _, F4, F5, _, F7, F8, _, _, F11, _, _, _⟩ := ordFacts h1 h2 h3 h4 h5
      have F1 := Lib.hid F1
      have F2 := Lib.hid F2
      have F4 := Lib.hid F4
      have F5 := Lib.hid F5
      have F7 := Lib.hid F7
      have F8 := Lib.hid F8
      have hge : (x : Int) ≤ ((Pl.downN k v x : Nat) : Int) := by omega
      clear h5 hok F11
      generalize Pl.sumD k x = S at *
      generalize Pl.upN k v x = U at *
      generalize Pl.downN k v x = D at *
      go_wp2_with fail
      refine (implDownOf _ _ _ _).mono ?_
      rintro e w2 ⟨rfl, hb2⟩
      rw [F1.out]
      go_wp2_with fail
      refine (specDownOf _ _ _ _).mono ?_
      rintro e w3 ⟨rfl, hb3⟩
      rw [F1.out]
      have c2 := hb1.trans (hb2.mono hb1.size)
      have c3 : Below w.heap.size w w3 := c2.trans (hb3.mono c2.size)
      clear hb1 hb2 hb3 c2
      go_wp2_with fail
      refine (implSumOf _ _ _).mono ?_
      rintro e w4 ⟨rfl, hb4⟩
      rw [F5.out]
      go_wp2_with fail
      refine (implSumOf _ _ _).mono ?_
      rintro e w5 ⟨rfl, hb5⟩
      rw [F4.out]
      have c4 := c3.trans (hb4.mono c3.size)
      have c5 : Below w.heap.size w w5 := c4.trans (hb5.mono c4.size)
      clear hb4 hb5 c3 c4
      go_wp2_with fail
      refine (implDownOf _ _ _ _).mono ?_
      rintro e w6 ⟨rfl, hb6⟩
      rw [F7.out]
      have c6 : Below w.heap.size w w6 := c5.trans (hb6.mono c5.size)
      go_wp2_with fail
      refine (implUpOf _ _ _ _).mono ?_
      rintro e w7 ⟨rfl, hb7⟩
      rw [F8.out]
      have c7 : Below w.heap.size w w7 := c6.trans (hb7.mono c6.size)
      go_wp2_with fail
      refine (implUpOf _ _ _ _).mono ?_
      rintro e w8 ⟨rfl, hb8⟩
      rw [F2.out]
      go_wp2
      go_ret
      exact ⟨rfl, c7.trans (hb8.mono c7.size)⟩
    · have HN := Lib.hid (Pl.downI_no hok)
      clear hok
      go_wp2_with fail
      refine (implDownOf _ _ _ _).mono ?_
      rintro e w2 ⟨rfl, hb2⟩
      rw [HN.out]
      go_wp2_with fail
      refine (specDownOf _ _ _ _).mono ?_
      rintro e w3 ⟨rfl, hb3⟩
      rw [HN.out]
      have c2 := hb1.trans (hb2.mono hb1.size)
      go_wp2_with (go_at_call 18; refine (alive _).mono ?_; rintro e w' ⟨rfl, rfl⟩)
      go_ret
      exact ⟨rfl, c2.trans (hb3.mono c2.size)⟩

set_option maxRecDepth 100000 in
set_option maxHeartbeats 2000000 in
theorem FnUpOf_walk (a0 : Option Addr) (len0 cap0 : Nat) (z0 : List Int) (w : World) (w0 : IsRow .u8 w a0 len0 cap0 z0) :
    Calls Try.prog 5 #[.slice a0 len0 cap0] w fun e w' => e = .returned (.bool true) ∧ Below w.heap.size w w' := by
  by_cases hl : 1048576 < len0
  · go_enter Try.func5, Try.ntmps5
    go_wp2
    go_ret
    exact ⟨rfl, Below.refl _ _⟩
  · go_enter Try.func5, Try.ntmps5
    go_wp2_with fail
    refine (drawUpOf _ _ _ _ _ w0).mono ?_
    rintro e w1 ⟨n, t, b, rfl, ⟨n1, n2⟩, ⟨t1, t2⟩, ⟨b1, b2⟩, hb1⟩
    clear w0 hl
    by_cases hok : Pl.wideB n t b = true
    · obtain ⟨x, v, k, rfl, rfl, rfl, h1, h2, h3, h4, h5⟩ := Pl.wideB_nat hok
      obtain ⟨F1, F2, _, F4, _, F6, _, _, F9, _, _, F12, _, _⟩ := ordFacts h1 h2 h3 h4 h5
      have F1 := Lib.hid F1
      have F2 := Lib.hid F2
      have F4 := Lib.hid F4
      have F6 := Lib.hid F6
      have F9 := Lib.hid F9
      have hle : ((Pl.upN k v x : Nat) : Int) ≤ (x : Int) := by omega
      clear h5 hok F12
      generalize Pl.sumD k x = S at *
      generalize Pl.upN k v x = U at *
      generalize Pl.downN k v x = D at *
      go_wp2_with fail
      refine (implUpOf _ _ _ _).mono ?_
      rintro e w2 ⟨rfl, hb2⟩
      rw [F2.out]
      go_wp2_with fail
      refine (specUpOf _ _ _ _).mono ?_
      rintro e w3 ⟨rfl, hb3⟩
      rw [F2.out]
      have c2 := hb1.trans (hb2.mono hb1.size)
      have c3 : Below w.heap.size w w3 := c2.trans (hb3.mono c2.size)
      clear hb1 hb2 hb3 c2
      go_wp2_with fail
      refine (implSumOf _ _ _).mono ?_
      rintro e w4 ⟨rfl, hb4⟩
      rw [F6.out]
      go_wp2_with fail
      refine (implSumOf _ _ _).mono ?_
      rintro e w5 ⟨rfl, hb5⟩
      rw [F4.out]
      have c4 := c3.trans (hb4.mono c3.size)
      have c5 : Below w.heap.size w w5 := c4.trans (hb5.mono c4.size)
      clear hb4 hb5 c3 c4
      go_wp2_with fail
      refine (implDownOf _ _ _ _).mono ?_
      rintro e w6 ⟨rfl, hb6⟩
      rw [F9.out]
      have c6 : Below w.heap.size w w6 := c5.trans (hb6.mono c5.size)
      go_wp2_with fail
      refine (implDownOf _ _ _ _).mono ?_
      rintro e w7 ⟨rfl, hb7⟩
      rw [F1.out]
      go_wp2
      go_ret
      exact ⟨rfl, c6.trans (hb7.mono c6.size)⟩
    · have HN := Lib.hid (Pl.upI_no hok)
      clear hok
      go_wp2_with fail
      refine (implUpOf _ _ _ _).mono ?_
      rintro e w2 ⟨rfl, hb2⟩
      rw [HN.out]
      go_wp2_with fail
      refine (specUpOf _ _ _ _).mono ?_
      rintro e w3 ⟨rfl, hb3⟩
      rw [HN.out]
      have c2 := hb1.trans (hb2.mono hb1.size)
      go_wp2_with (go_at_call 18; refine (alive _).mono ?_; rintro e w' ⟨rfl, rfl⟩)
      go_ret
      exact ⟨rfl, c2.trans (hb3.mono c2.size)⟩

set_option maxRecDepth 100000 in
set_option maxHeartbeats 2000000 in
theorem FnLeftOf_walk (a0 : Option Addr) (len0 cap0 : Nat) (z0 : List Int) (w : World) (w0 : IsRow .u8 w a0 len0 cap0 z0) :
    Calls Try.prog 6 #[.slice a0 len0 cap0] w fun e w' => e = .returned (.bool true) ∧ Below w.heap.size w w' := by
  by_cases hl : 1048576 < len0
  · go_enter Try.func6, Try.ntmps6
    go_wp2
    go_ret
    exact ⟨rfl, Below.refl _ _⟩
  · go_enter Try.func6, Try.ntmps6
    go_wp2_with fail
    refine (drawLeftOf _ _ _ _ _ w0).mono ?_
    rintro e w1 ⟨n, t, b, rfl, ⟨n1, n2⟩, ⟨t1, t2⟩, ⟨b1, b2⟩, hb1⟩
    clear w0 hl
    by_cases hok : Pl.wideB n t b = true
    · obtain ⟨x, v, k, rfl, rfl, rfl, h1, h2, h3, h4, h5⟩ := Pl.wideB_nat hok
      obtain ⟨F1, _, F3, _, _, _, _, _, _, F10, _, _, F13, F14⟩ := ordFacts h1 h2 h3 h4 h5
      have F1 := Lib.hid F1
      have F3 := Lib.hid F3
      have F10 := Lib.hid F10
      have F13 := Lib.hid F13
      have FA := Lib.hid (Pl.alikeB_yes x v k hok)
      clear h5 hok
      generalize Pl.downN k v x = D at *
      generalize Pl.leftN k v x = M at *
      obtain ⟨A, hA⟩ : ∃ A, decide (M = 0) = A := ⟨_, rfl⟩
      rw [hA] at FA
      have hA' : ((M : Int) == 0) = A := by
        rw [← hA, Bool.eq_iff_iff, beq_iff_eq, decide_eq_true_eq]; omega
      have hmx : max ((k : Int) - 1) 1 = (k : Int) - 1 := by omega
      have hk1 : (1 : Int) ≤ (k : Int) - 1 := by omega
      have hk0 : ((k : Int) - 1 == 0) = false := by simp; omega
      have hM0 : 0 ≤ (M : Int) := by omega
      have hAA : (A == A) = true := by simp
      clear hA
      go_wp2_with fail
      refine (implLeftOf _ _ _ _).mono ?_
      rintro e w2 ⟨rfl, hb2⟩
      rw [F3.out]
      go_wp2_with fail
      refine (specLeftOf _ _ _ _).mono ?_
      rintro e w3 ⟨rfl, hb3⟩
      rw [F3.out]
      have c2 := hb1.trans (hb2.mono hb1.size)
      have c3 : Below w.heap.size w w3 := c2.trans (hb3.mono c2.size)
      clear hb1 hb2 hb3 c2
      go_wp2_with fail
      refine (implWideOk _ _ _ _).mono ?_
      rintro e w4 ⟨rfl, hb4⟩
      rw [F13.out]
      go_wp2_with fail
      refine (implAlikeOk _ _ _ _).mono ?_
      rintro e w5 ⟨rfl, hb5⟩
      rw [FA.out]
      have c4 := c3.trans (hb4.mono c3.size)
      have c5 : Below w.heap.size w w5 := c4.trans (hb5.mono c4.size)
      clear hb4 hb5 c3 c4
      go_wp2_with fail
      refine (specDownOf _ _ _ _).mono ?_
      rintro e w6 ⟨rfl, hb6⟩
      rw [F1.out]
      have c6 : Below w.heap.size w w6 := c5.trans (hb6.mono c5.size)
      go_wp2_with fail
      refine (implLeftOf _ _ _ _).mono ?_
      rintro e w7 ⟨rfl, hb7⟩
      rw [F10.out]
      go_wp2
      go_ret
      exact ⟨rfl, c6.trans (hb7.mono c6.size)⟩
    · have HN := Lib.hid (Pl.leftI_no hok)
      clear hok
      go_wp2_with fail
      refine (implLeftOf _ _ _ _).mono ?_
      rintro e w2 ⟨rfl, hb2⟩
      rw [HN.out]
      go_wp2_with fail
      refine (specLeftOf _ _ _ _).mono ?_
      rintro e w3 ⟨rfl, hb3⟩
      rw [HN.out]
      have c2 := hb1.trans (hb2.mono hb1.size)
      go_wp2_with (go_at_call 18; refine (alive _).mono ?_; rintro e w' ⟨rfl, rfl⟩)
      go_ret
      exact ⟨rfl, c2.trans (hb3.mono c2.size)⟩

end Go.Proofs.Ytepkneeedkmaoaa
