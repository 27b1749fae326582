/-
  The walks of the laws of DigitProduct, PersistsOf, LeastPersisting and NoNought.
-/
import Derived.Test.YtmmafbncpeahlaaDraws10
import Derived.Test.YtmmafbncpeahlaaSpecProd
import Derived.Test.YtmmafbncpeahlaaTurned
import Derived.Test.YtmmafbncpeahlaaBehind
import Derived.Test.YtmmafbncpeahlaaProd
namespace Go.Proofs.Ytmmafbncpeahlaa
open Go.RowKit

/-- What stands behind a number, and its product of digits. -/
theorem Pl.behind_prod {x k d : Nat} (hk : 2 ≤ k) (hk' : k ≤ 16) (hx : x ≤ 1000000000) (hd : d < 2) : (behindO (x : Int) (d : Int) (k : Int) = none) ∨ ∃ y : Nat, behindO (x : Int) (d : Int) (k : Int) = some y ∧ y ≤ 1000000000 ∧ y = x * k + d := by
  cases h : behindO (x : Int) (d : Int) (k : Int) with
  | none => exact .inl rfl
  | some y =>
    right
    refine ⟨y, rfl, ?_⟩
    unfold behindO at h
    split at h
    · rename_i hc
      obtain ⟨k', e1, _, _, _, h4, h5⟩ := Pl.whole_some h
      obtain rfl : k = k' := by omega
      rw [Pl.digA_yes x k hc.1, Pl.digA_yes d k hc.2] at h4
      have hv := Pl.behind_val hk hx (by omega) h4
      rw [Pl.len_lt (show d < k by omega), Nat.pow_one] at hv
      exact ⟨h5, hv⟩
    · cases h

theorem Pl.prod_one {x k : Nat} (hk : 2 ≤ k) (hx : 1 ≤ x) : Pl.prodD k (x * k + 1) = Pl.prodD k x := by
  rw [Pl.prodD_behind hk hx (by omega), Nat.one_mul]
theorem Pl.prod_nought {x k : Nat} (hk : 2 ≤ k) : Pl.prodD k (x * k + 0) = 0 := by
  by_cases hx : 1 ≤ x
  · rw [Pl.prodD_behind hk hx (by omega), Nat.zero_mul]
  · obtain rfl : x = 0 := by omega
    rw [Pl.prodD_lt (by omega)]; simp

set_option maxRecDepth 100000 in
set_option maxHeartbeats 4000000 in
theorem FnDigitProduct_walk (a0 : Option Addr) (len0 cap0 : Nat) (z0 : List Int) (w : World) (w0 : IsRow .u8 w a0 len0 cap0 z0) :
    Calls Try.prog 3 #[.slice a0 len0 cap0] w fun e w' => e = .returned (.bool true) ∧ Below w.heap.size w w' := by
  by_cases hl : 1048576 < len0
  · go_enter Try.func3, Try.ntmps3
    go_wp2
    go_ret
    exact ⟨rfl, Below.refl _ _⟩
  · go_enter Try.func3, Try.ntmps3
    go_wp2_with fail
    refine (drawDigitProduct _ _ _ _ _ w0).mono ?_
    rintro e w1 ⟨n, b, rfl, ⟨n1, n2⟩, ⟨b1, b2⟩, hb1⟩
    clear w0 hl
    by_cases hok : Pl.okB n b = true
    · obtain ⟨x, k, rfl, rfl, k1, k2, hx⟩ := Pl.okB_nat hok
      have HP := Lib.hid (Pl.prodI_yes x k hok)
      have hple := Pl.prodD_le k1 x
      have HL := Lib.hid (longI_nat x k hok)
      have HONE := Lib.hid (Pl.prodD_one (n := x) k1)
      have hlen : (Pl.digsR k x).length = 1 ↔ x < k := by
        constructor
        · intro h
          refine Classical.byContradiction fun hno => ?_
          rw [Pl.len_ge k1 (by omega)] at h
          have := Pl.digsR_pos k (x / k)
          omega
        · exact fun h => Pl.len_lt h
      have HLEN := Lib.hid hlen
      have HA := Lib.hid (Pl.behind_prod (d := 1) k1 k2 hx (by omega))
      have HN := Lib.hid (Pl.behind_prod (d := 0) k1 k2 hx (by omega))
      have HA1 : Hid (1 ≤ x → x * k + 1 ≤ 1000000000 → Pl.prodI ((x * k + 1 : Nat) : Int) k = ((Pl.prodD k x : Nat) : Int)) := Lib.hid fun h1 h2 => by
        rw [Pl.prodI_yes _ k (by rw [Pl.okB_iff]; omega), Pl.prod_one k1 h1]
      have HN1 : Hid (x * k + 0 ≤ 1000000000 → Pl.prodI ((x * k + 0 : Nat) : Int) k = 0) := Lib.hid fun h2 => by
        rw [Pl.prodI_yes _ k (by rw [Pl.okB_iff]; omega), Pl.prod_nought k1]; rfl
      have hq : ((((Pl.prodD k x : Nat) : Int) == (x : Int)) == ((((Pl.digsR k x).length : Nat) : Int) == 1)) = true := by
        rw [beq_iff_eq, Bool.eq_iff_iff, beq_iff_eq, beq_iff_eq]
        have h1 := HONE.out
        constructor
        · intro h
          have h2 := hlen.2 (h1.1 (by omega))
          omega
        · intro h
          have h2 := h1.2 (hlen.1 (by omega))
          omega
      have HQ := Lib.hid hq
      clear hok hlen hq
      generalize (Pl.digsR k x).length = L at *
      generalize Pl.prodD k x = P at *
      have p1 : (P : Int) ≤ (x : Int) := by omega
      have p2 : ¬ (P : Int) < 0 := by omega
      have HIA := Lib.hid (implBehindOf (x : Int) 1 k)
      have HIN := Lib.hid (implBehindOf (x : Int) 0 k)
      have HA' : Hid ((behindO (x : Int) 1 (k : Int) = none) ∨ ∃ y : Nat, behindO (x : Int) 1 (k : Int) = some y ∧ y ≤ 1000000000 ∧ y = x * k + 1) := HA
      have HN' : Hid ((behindO (x : Int) 0 (k : Int) = none) ∨ ∃ y : Nat, behindO (x : Int) 0 (k : Int) = some y ∧ y ≤ 1000000000 ∧ y = x * k + 0) := HN
      clear HA HN
      generalize behindO (x : Int) 1 (k : Int) = OA at *
      generalize behindO (x : Int) 0 (k : Int) = ON at *
      have hx0 : ((x : Int) == 0) = decide (x = 0) := by rw [Bool.eq_iff_iff, beq_iff_eq, decide_eq_true_eq]; omega
      have HX0 := Lib.hid hx0
      clear hx0
      go_wp2_with fail
      refine (implDigitProduct _ _ _).mono ?_
      rintro e w2 ⟨rfl, hb2⟩
      rw [HP.out]
      go_wp2_with fail
      refine (specDigitProduct _ _ _).mono ?_
      rintro e w3 ⟨rfl, rfl⟩
      rw [HP.out]
      have c2 : Below w.heap.size w w2 := hb1.trans (hb2.mono hb1.size)
      go_wp2_with fail
      refine (HIA.out _).mono ?_
      rintro e w4 ⟨rfl, hb4⟩
      have c4 : Below w.heap.size w w4 := c2.trans (hb4.mono c2.size)
      go_wp2_with fail
      refine (HIN.out _).mono ?_
      rintro e w5 ⟨rfl, hb5⟩
      have c5 : Below w.heap.size w w5 := c4.trans (hb5.mono c4.size)
      clear hb1 hb2 hb4 hb5 c2 c4 HIA HIN
      rcases HA'.out with rfl | ⟨yA, rfl, hyA, hyA'⟩
      all_goals rcases HN'.out with rfl | ⟨yN, rfl, hyN, hyN'⟩
      all_goals simp only [Pl.wV, Pl.wB]
      · have hq := HQ.out
        go_wp2_with fail
        refine (implLongOf _ _ _).mono ?_
        rintro e w6 ⟨rfl, hb6⟩
        rw [HL.out]
        go_wp2
        go_ret
        exact ⟨rfl, c5.trans (hb6.mono c5.size)⟩
      · have hq := HQ.out
        have hz := HN1.out (by omega)
        rw [← hyN'] at hz
        have HZ := Lib.hid hz
        clear hz hyN'
        go_wp2_with fail
        refine (implLongOf _ _ _).mono ?_
        rintro e w6 ⟨rfl, hb6⟩
        rw [HL.out]
        have c6 : Below w.heap.size w w6 := c5.trans (hb6.mono c5.size)
        go_wp2_with fail
        refine (implDigitProduct _ _ _).mono ?_
        rintro e w7 ⟨rfl, hb7⟩
        rw [HZ.out]
        go_wp2
        go_ret
        exact ⟨rfl, c6.trans (hb7.mono c6.size)⟩
      · have hq := HQ.out
        by_cases hxz : x = 0
        · have tz : ((x : Int) == 0) = true := by rw [HX0.out]; simp [hxz]
          clear hxz hyA'
          go_wp2_with fail
          refine (implLongOf _ _ _).mono ?_
          rintro e w6 ⟨rfl, hb6⟩
          rw [HL.out]
          have c6 : Below w.heap.size w w6 := c5.trans (hb6.mono c5.size)
          go_wp2
          go_ret
          exact ⟨rfl, c6⟩
        · have tz : ((x : Int) == 0) = false := by rw [HX0.out]; simp [hxz]
          have hoo := HA1.out (by omega) (by omega)
          rw [← hyA'] at hoo
          have HOO := Lib.hid hoo
          clear hoo
          clear hxz hyA'
          go_wp2_with fail
          refine (implLongOf _ _ _).mono ?_
          rintro e w6 ⟨rfl, hb6⟩
          rw [HL.out]
          have c6 : Below w.heap.size w w6 := c5.trans (hb6.mono c5.size)
          go_wp2_with fail
          refine (implDigitProduct _ _ _).mono ?_
          rintro e w7 ⟨rfl, hb7⟩
          rw [HOO.out]
          have c7 : Below w.heap.size w w7 := c6.trans (hb7.mono c6.size)
          go_wp2
          go_ret
          exact ⟨rfl, c7⟩
      · have hq := HQ.out
        have hz := HN1.out (by omega)
        rw [← hyN'] at hz
        have HZ := Lib.hid hz
        clear hz hyN'
        by_cases hxz : x = 0
        · have tz : ((x : Int) == 0) = true := by rw [HX0.out]; simp [hxz]
          clear hxz hyA'
          go_wp2_with fail
          refine (implLongOf _ _ _).mono ?_
          rintro e w6 ⟨rfl, hb6⟩
          rw [HL.out]
          have c6 : Below w.heap.size w w6 := c5.trans (hb6.mono c5.size)
          go_wp2_with fail
          refine (implDigitProduct _ _ _).mono ?_
          rintro e w8 ⟨rfl, hb8⟩
          rw [HZ.out]
          go_wp2
          go_ret
          exact ⟨rfl, c6.trans (hb8.mono c6.size)⟩
        · have tz : ((x : Int) == 0) = false := by rw [HX0.out]; simp [hxz]
          have hoo := HA1.out (by omega) (by omega)
          rw [← hyA'] at hoo
          have HOO := Lib.hid hoo
          clear hoo
          clear hxz hyA'
          go_wp2_with fail
          refine (implLongOf _ _ _).mono ?_
          rintro e w6 ⟨rfl, hb6⟩
          rw [HL.out]
          have c6 : Below w.heap.size w w6 := c5.trans (hb6.mono c5.size)
          go_wp2_with fail
          refine (implDigitProduct _ _ _).mono ?_
          rintro e w7 ⟨rfl, hb7⟩
          rw [HOO.out]
          have c7 : Below w.heap.size w w7 := c6.trans (hb7.mono c6.size)
          go_wp2_with fail
          refine (implDigitProduct _ _ _).mono ?_
          rintro e w8 ⟨rfl, hb8⟩
          rw [HZ.out]
          go_wp2
          go_ret
          exact ⟨rfl, c7.trans (hb8.mono c7.size)⟩
    · have HN := Lib.hid (Pl.prodI_no hok)
      clear hok
      go_wp2_with fail
      refine (implDigitProduct _ _ _).mono ?_
      rintro e w2 ⟨rfl, hb2⟩
      rw [HN.out]
      go_wp2_with fail
      refine (specDigitProduct _ _ _).mono ?_
      rintro e w3 ⟨rfl, rfl⟩
      rw [HN.out]
      go_wp2_with (go_at_call 14; refine (alive _).mono ?_; rintro e w' ⟨rfl, rfl⟩)
      go_ret
      exact ⟨rfl, hb1.trans (hb2.mono hb1.size)⟩

set_option maxRecDepth 100000 in
set_option maxHeartbeats 4000000 in
theorem FnPersistsOf_walk (a0 : Option Addr) (len0 cap0 : Nat) (z0 : List Int) (w : World) (w0 : IsRow .u8 w a0 len0 cap0 z0) :
    Calls Try.prog 4 #[.slice a0 len0 cap0] w fun e w' => e = .returned (.bool true) ∧ Below w.heap.size w w' := by
  by_cases hl : 1048576 < len0
  · go_enter Try.func4, Try.ntmps4
    go_wp2
    go_ret
    exact ⟨rfl, Below.refl _ _⟩
  · go_enter Try.func4, Try.ntmps4
    go_wp2_with fail
    refine (drawPersistsOf _ _ _ _ _ w0).mono ?_
    rintro e w1 ⟨n, b, rfl, ⟨n1, n2⟩, ⟨b1, b2⟩, hb1⟩
    clear w0 hl
    have HI := Lib.hid (implPersistsOf n b)
    have HS := Lib.hid (specPersistsOf n b)
    by_cases hok : Pl.okB n b = true
    · obtain ⟨x, k, rfl, rfl, k1, k2, hx⟩ := Pl.okB_nat hok
      rw [Pl.persA_yes x k hok] at HI HS
      simp only [Pl.peK, Pl.peL, Pl.peB] at HI HS
      have hdig := Pl.persN_digit k1 x
      by_cases hlt : x < k
      · rw [Pl.persN_lt hlt] at HI HS
        simp only at HI HS
        have i1 : (x : Int) < (k : Int) := by omega
        have HI' : Hid (∀ w : World, Calls Try.prog 18 #[.int .i64 x, .int .i64 k] w fun e w' => e = .returned (.tuple #[.int .i64 0, .int .i64 x, .bool true]) ∧ Below w.heap.size w w') := HI
        have HS' : Hid (∀ w : World, Calls Try.prog 19 #[.int .i64 x, .int .i64 k] w fun e w' => e = .returned (.tuple #[.int .i64 0, .int .i64 x, .bool true]) ∧ w = w') := HS
        clear hdig hok HI HS
        go_wp2_with fail
        refine (HI'.out _).mono ?_
        rintro e w2 ⟨rfl, hb2⟩
        go_wp2_with fail
        refine (HS'.out _).mono ?_
        rintro e w3 ⟨rfl, rfl⟩
        go_wp2_with fail
        go_ret
        exact ⟨rfl, hb1.trans (hb2.mono hb1.size)⟩
      · have hge : k ≤ x := by omega
        have hstep := Pl.persN_ge k1 hge
        have hless := Pl.prodD_less k1 hge
        have hokp : Pl.okB ((Pl.prodD k x : Nat) : Int) k = true := by rw [Pl.okB_iff]; omega
        have HI2 := Lib.hid (implPersistsOf ((Pl.prodD k x : Nat) : Int) k)
        rw [Pl.persA_yes _ k hokp] at HI2
        simp only [Pl.peK, Pl.peL, Pl.peB] at HI2
        have HP := Lib.hid (Pl.prodI_yes x k hok)
        have hnb : Pl.noB (x : Int) k = decide (0 < Pl.prodD k x) := by
          rw [Pl.noB, Pl.prodI_yes x k hok, decide_eq_decide]; omega
        have HNO : Hid (¬ 0 < Pl.prodD k x → (Pl.persN k (Pl.prodD k x)).1 = 0 ∧ (Pl.persN k (Pl.prodD k x)).2 = 0) := Lib.hid fun h => by
          have h0 : Pl.prodD k x = 0 := by omega
          rw [h0, Pl.persN_lt (by omega)]; exact ⟨rfl, rfl⟩
        rw [hstep] at HI HS hdig
        simp only at HI HS hdig
        have HNB := Lib.hid hnb
        have hKb : (Pl.persN k (Pl.prodD k x)).1 ≤ 1000000000 := by
          have := Pl.persN_le k1 (Pl.prodD k x)
          omega
        clear hstep hokp hok hless hnb
        generalize Pl.prodD k x = P at *
        generalize (Pl.persN k P).1 = K at *
        generalize (Pl.persN k P).2 = D at *
        have i1 : (k : Int) ≤ (x : Int) := by omega
        have i2 : (D : Int) < (k : Int) := by omega
        have i3 : ((K + 1 : Nat) : Int) - 1 = (K : Int) := by omega
        have i4 : (((K + 1 : Nat) : Int) == 0) = false := by rw [beq_eq_false_iff_ne]; omega
        go_wp2_with fail
        refine (HI.out _).mono ?_
        rintro e w2 ⟨rfl, hb2⟩
        go_wp2_with fail
        refine (HS.out _).mono ?_
        rintro e w3 ⟨rfl, rfl⟩
        have c2 : Below w.heap.size w w2 := hb1.trans (hb2.mono hb1.size)
        go_wp2_with fail
        refine (implDigitProduct _ _ _).mono ?_
        rintro e w4 ⟨rfl, hb4⟩
        rw [HP.out]
        have c4 : Below w.heap.size w w4 := c2.trans (hb4.mono c2.size)
        go_wp2_with fail
        refine (HI2.out _).mono ?_
        rintro e w5 ⟨rfl, hb5⟩
        have c5 : Below w.heap.size w w5 := c4.trans (hb5.mono c4.size)
        clear hb1 hb2 hb4 hb5 c2 c4 HI HS HI2
        by_cases hp : 0 < P
        · have hno : Hid (Pl.noB (x : Int) (k : Int) = true) := Lib.hid (by rw [HNB.out]; simp [hp])
          clear HNB
          go_wp2_with fail
          refine (implNoNought _ _ _).mono ?_
          rintro e w6 ⟨rfl, hb6⟩
          rw [hno.out]
          go_wp2
          go_ret
          exact ⟨rfl, c5.trans (hb6.mono c5.size)⟩
        · have hno : Hid (Pl.noB (x : Int) (k : Int) = false) := Lib.hid (by rw [HNB.out]; simp [hp])
          obtain ⟨hK0, hD0⟩ := HNO.out hp
          have t1 : ((K : Int) + 1 == 1) = true := by rw [beq_iff_eq]; omega
          have t2 : ((D : Int) == 0) = true := by rw [beq_iff_eq]; omega
          clear HNB HNO hp hK0 hD0
          go_wp2_with fail
          refine (implNoNought _ _ _).mono ?_
          rintro e w6 ⟨rfl, hb6⟩
          rw [hno.out]
          go_wp2
          go_ret
          exact ⟨rfl, c5.trans (hb6.mono c5.size)⟩
    · rw [Pl.persA_no hok] at HI HS
      simp only [Pl.peK, Pl.peL, Pl.peB] at HI HS
      clear hok
      go_wp2_with fail
      refine (HI.out _).mono ?_
      rintro e w2 ⟨rfl, hb2⟩
      go_wp2_with fail
      refine (HS.out _).mono ?_
      rintro e w3 ⟨rfl, rfl⟩
      go_wp2_with (go_at_call 14; refine (alive _).mono ?_; rintro e w' ⟨rfl, rfl⟩)
      go_ret
      exact ⟨rfl, hb1.trans (hb2.mono hb1.size)⟩

theorem Pl.nought_mem {x k : Nat} : (0 : Int) ∈ Pl.digI k x ↔ Pl.prodD k x = 0 := by
  rw [Pl.prodD_zero, Pl.digI, Pl.digs, List.mem_map]
  constructor
  · rintro ⟨d, hd, he⟩
    have : d = 0 := by omega
    rw [this] at hd; exact List.mem_reverse.1 hd
  · exact fun h => ⟨0, List.mem_reverse.2 h, rfl⟩

set_option maxRecDepth 100000 in
set_option maxHeartbeats 4000000 in
theorem FnNoNought_walk (a0 : Option Addr) (len0 cap0 : Nat) (z0 : List Int) (w : World) (w0 : IsRow .u8 w a0 len0 cap0 z0) :
    Calls Try.prog 6 #[.slice a0 len0 cap0] w fun e w' => e = .returned (.bool true) ∧ Below w.heap.size w w' := by
  by_cases hl : 1048576 < len0
  · go_enter Try.func6, Try.ntmps6
    go_wp2
    go_ret
    exact ⟨rfl, Below.refl _ _⟩
  · go_enter Try.func6, Try.ntmps6
    go_wp2_with fail
    refine (drawNoNought _ _ _ _ _ w0).mono ?_
    rintro e w1 ⟨n, b, rfl, ⟨n1, n2⟩, ⟨b1, b2⟩, hb1⟩
    clear w0 hl
    have HI := Lib.hid (implNoNought n b)
    have HS := Lib.hid (specNoNought n b)
    have HD := Lib.hid (implDigitsOf n b)
    by_cases hok : Pl.okB n b = true
    · obtain ⟨x, k, rfl, rfl, k1, k2, hx⟩ := Pl.okB_nat hok
      have hlen := Pl.digI_len30 k1 hx
      have hpos : 1 ≤ (Pl.digI k x).length := by rw [Pl.digI_len]; exact Pl.digsR_pos _ _
      have HMEM := Lib.hid (Pl.nought_mem (x := x) (k := k))
      have hnb : Pl.noB (x : Int) k = decide (0 < Pl.prodD k x) := by
        rw [Pl.noB, Pl.prodI_yes x k hok, decide_eq_decide]; omega
      have HT : Hid (0 < Pl.prodD k x → Pl.turnI (x : Int) (k : Int) = -1 ∨ ∃ T : Nat, Pl.turnI (x : Int) (k : Int) = (T : Int) ∧ Pl.noB (T : Int) (k : Int) = true) := Lib.hid fun hp => by
        by_cases hT : Pl.turnN k x ≤ 1000000000
        · right
          refine ⟨Pl.turnN k x, Pl.turnI_yes x k hok hT, ?_⟩
          have hne := Pl.prodD_turn k1 (n := x) (by omega)
          have hokT : Pl.okB ((Pl.turnN k x : Nat) : Int) k = true := by rw [Pl.okB_iff]; omega
          rw [Pl.noB, Pl.prodI_yes _ k hokT, decide_eq_true_eq]
          omega
        · left; exact Pl.turnI_big x k hT
      have HTR := Lib.hid (implTurnedOf (x : Int) (k : Int))
      rw [hnb] at HI HS
      rw [Pl.digA_yes x k hok] at HD
      clear hok hnb
      generalize Pl.digI k x = E at *
      generalize Pl.turnI (x : Int) (k : Int) = TI at *
      generalize Pl.prodD k x = P at *
      have hE0 : ((E.length : Int) == 0) = false := by rw [beq_eq_false_iff_ne]; omega
      by_cases hp : 0 < P
      · have hd : decide (0 < P) = true := by simp [hp]
        have hm : (0 : Int) ∉ E := fun h => by have := HMEM.out.1 h; omega
        have HNM := Lib.hid hm
        have HT2 := Lib.hid (HT.out hp)
        rw [hd] at HI HS
        clear hd hm hp HT HMEM
        go_wp2_with fail
        refine (HI.out _).mono ?_
        rintro e w2 ⟨rfl, hb2⟩
        go_wp2_with fail
        refine (HS.out _).mono ?_
        rintro e w3 ⟨rfl, rfl⟩
        have c2 : Below w.heap.size w w2 := hb1.trans (hb2.mono hb1.size)
        go_wp2_with fail
        refine (HD.out _).mono ?_
        rintro e w4 ⟨v, rfl, hr, hb4⟩
        have c4 : Below w.heap.size w w4 := c2.trans (hb4.mono c2.size)
        have HV := Lib.hid (Row.ints hr)
        obtain ⟨a', cap', rfl⟩ := hr.shape
        clear hb1 hb2 hb4 c2 hr HI HS HD
        go_wp2_with fail
        refine (HTR.out _).mono ?_
        rintro e w5 ⟨rfl, hb5⟩
        have c5 : Below w.heap.size w w5 := c4.trans (hb5.mono c4.size)
        have HV5 := Lib.hid (HV.out.below hb5)
        clear HTR
        go_wp2_with fail
        refine (hasIntNo _ E 0 w5 HV5.out (by omega) HNM.out).mono ?_
        rintro e w6 ⟨rfl, rfl⟩
        rcases HT2.out with rfl | ⟨T, rfl, hT⟩
        · go_wp2_with (go_at_call 14; refine (alive _).mono ?_; rintro e w' ⟨rfl, rfl⟩)
          go_ret
          exact ⟨rfl, c5⟩
        · have HT3 := Lib.hid hT
          have i1 : ¬ (T : Int) < 0 := by omega
          clear hT
          go_wp2_with (first | (go_at_call 20; refine (implNoNought _ _ _).mono ?_; rintro e w7 ⟨rfl, hb7⟩; rw [HT3.out]) | (go_at_call 14; refine (alive _).mono ?_; rintro e w' ⟨rfl, rfl⟩))
          go_ret
          exact ⟨rfl, c5.trans (hb7.mono c5.size)⟩
      · have hd : decide (0 < P) = false := by simp [hp]
        have hm : (0 : Int) ∈ E := HMEM.out.2 (by omega)
        have HNM := Lib.hid hm
        rw [hd] at HI HS
        clear hd hm hp HT HMEM
        go_wp2_with fail
        refine (HI.out _).mono ?_
        rintro e w2 ⟨rfl, hb2⟩
        go_wp2_with fail
        refine (HS.out _).mono ?_
        rintro e w3 ⟨rfl, rfl⟩
        have c2 : Below w.heap.size w w2 := hb1.trans (hb2.mono hb1.size)
        go_wp2_with fail
        refine (HD.out _).mono ?_
        rintro e w4 ⟨v, rfl, hr, hb4⟩
        have c4 : Below w.heap.size w w4 := c2.trans (hb4.mono c2.size)
        have HV := Lib.hid (Row.ints hr)
        obtain ⟨a', cap', rfl⟩ := hr.shape
        clear hb1 hb2 hb4 c2 hr HI HS HD
        go_wp2_with fail
        refine (HTR.out _).mono ?_
        rintro e w5 ⟨rfl, hb5⟩
        have c5 : Below w.heap.size w w5 := c4.trans (hb5.mono c4.size)
        have HV5 := Lib.hid (HV.out.below hb5)
        clear HTR
        go_wp2_with fail
        refine (hasInt _ E 0 w5 HV5.out (by omega) HNM.out).mono ?_
        rintro e w6 ⟨rfl, rfl⟩
        go_wp2_with (go_at_call 14; refine (alive _).mono ?_; rintro e w' ⟨rfl, rfl⟩)
        go_ret
        exact ⟨rfl, c5⟩
    · have hno : Pl.noB n b = false := by rw [Pl.noB, Pl.prodI_no hok]; rfl
      rw [hno] at HI HS
      rw [Pl.digA_no hok] at HD
      clear hok hno
      go_wp2_with fail
      refine (HI.out _).mono ?_
      rintro e w2 ⟨rfl, hb2⟩
      go_wp2_with fail
      refine (HS.out _).mono ?_
      rintro e w3 ⟨rfl, rfl⟩
      have c2 : Below w.heap.size w w2 := hb1.trans (hb2.mono hb1.size)
      go_wp2_with fail
      refine (HD.out _).mono ?_
      rintro e w4 ⟨v, rfl, hr, hb4⟩
      obtain ⟨a', cap', rfl⟩ := hr.shape
      go_wp2_with (go_at_call 14; refine (alive _).mono ?_; rintro e w' ⟨rfl, rfl⟩)
      go_ret
      exact ⟨rfl, c2.trans (hb4.mono c2.size)⟩

set_option maxRecDepth 100000 in
set_option maxHeartbeats 4000000 in
theorem FnLeastPersisting_walk (a0 : Option Addr) (len0 cap0 : Nat) (z0 : List Int) (w : World) (w0 : IsRow .u8 w a0 len0 cap0 z0) :
    Calls Try.prog 5 #[.slice a0 len0 cap0] w fun e w' => e = .returned (.bool true) ∧ Below w.heap.size w w' := by
  by_cases hl : 1048576 < len0
  · go_enter Try.func5, Try.ntmps5
    go_wp2
    go_ret
    exact ⟨rfl, Below.refl _ _⟩
  · go_enter Try.func5, Try.ntmps5
    go_wp2_with fail
    refine (drawLeastPersisting _ _ _ _ _ w0).mono ?_
    rintro e w1 ⟨s, b, rfl, ⟨n1, n2⟩, ⟨b1, b2⟩, hb1⟩
    clear w0 hl
    have HI := Lib.hid (implLeastPersisting s b)
    have HS := Lib.hid (specLeastPersisting s b)
    have hcase : Pl.leastI s b = -1 ∨ ∃ S k n : Nat, s = (S : Int) ∧ b = (k : Int) ∧ 2 ≤ k ∧ k ≤ 16 ∧ Pl.leastO k S = some n ∧ Pl.leastI s b = (n : Int) := by
      by_cases h : 0 ≤ s ∧ Pl.baseB b = true
      · obtain ⟨h0, hB⟩ := h
        have hB' := (Pl.baseB_iff b).1 hB
        obtain ⟨S, rfl⟩ : ∃ S : Nat, s = (S : Int) := ⟨s.toNat, by omega⟩
        obtain ⟨k, rfl⟩ : ∃ k : Nat, b = (k : Int) := ⟨b.toNat, by omega⟩
        cases hO : Pl.leastO k S with
        | none => exact .inl (Pl.leastI_none hO)
        | some n => exact .inr ⟨S, k, n, rfl, rfl, by omega, by omega, hO, Pl.leastI_some hB hO⟩
      · exact .inl (Pl.leastI_no h)
    rcases hcase with hN | ⟨S, k, n, rfl, rfl, k1, k2, hO, hN⟩
    · rw [hN] at HI HS
      clear hN
      go_wp2_with fail
      refine (HI.out _).mono ?_
      rintro e w2 ⟨rfl, hb2⟩
      go_wp2_with fail
      refine (HS.out _).mono ?_
      rintro e w3 ⟨rfl, rfl⟩
      go_wp2_with (go_at_call 14; refine (alive _).mono ?_; rintro e w' ⟨rfl, rfl⟩)
      go_ret
      exact ⟨rfl, hb1.trans (hb2.mono hb1.size)⟩
    · rw [hN] at HI HS
      obtain ⟨o1, o2, o3⟩ := Pl.leastO_some hO
      have HO3 := Lib.hid o3
      have HP : Hid (∀ x : Nat, x ≤ 3000 → ∀ W, Calls Try.prog 18 #[.int .i64 x, .int .i64 k] W fun e W' => e = .returned (.tuple #[.int .i64 (((Pl.persN k x).1 : Nat) : Int), .int .i64 (((Pl.persN k x).2 : Nat) : Int), .bool true]) ∧ Below W.heap.size W W') := Lib.hid fun x hx W => by
        have h := implPersistsOf (x : Int) k W
        rw [Pl.persA_yes x k (by rw [Pl.okB_iff]; omega)] at h
        exact h
      have HM : Hid (Pl.leastI ((S : Int) + 1) (k : Int) < 0 ∨ (n : Int) < Pl.leastI ((S : Int) + 1) (k : Int)) := Lib.hid (by
        have e : Pl.leastI ((S : Int) + 1) (k : Int) = Pl.leastI ((S + 1 : Nat) : Int) (k : Int) := rfl
        rw [e]
        cases hO2 : Pl.leastO k (S + 1) with
        | none => left; rw [Pl.leastI_none hO2]; omega
        | some m =>
          right
          rw [Pl.leastI_some (by rw [Pl.baseB_iff]; omega) hO2]
          have := Pl.least_more k1 hO hO2
          omega)
      have HMI := Lib.hid (implLeastPersisting ((S : Int) + 1) (k : Int))
      have HO2 := Lib.hid o2
      clear hN hO o3 o2
      generalize Pl.leastI ((S : Int) + 1) (k : Int) = R at *
      go_wp2_with fail
      refine (HI.out _).mono ?_
      rintro e w2 ⟨rfl, hb2⟩
      go_wp2_with fail
      refine (HS.out _).mono ?_
      rintro e w3 ⟨rfl, rfl⟩
      have c2 : Below w.heap.size w w2 := hb1.trans (hb2.mono hb1.size)
      have i0 : ¬ (n : Int) < 0 := by omega
      clear hb1 hb2 HI HS
      go_wp2_with fail
      go_loopw [6, 7, 8, 9] (fun xv _ _ _ wr => ∃ x : Nat, x ≤ n ∧ xv = .int .i64 x ∧ Below w.heap.size w wr) (fun xv _ _ _ _ => n - (intOf xv).toNat)
      case atStart => exact ⟨0, by omega, rfl, c2⟩
      case round =>
        clear c2
        obtain ⟨x, hx, rfl, hbw⟩ := hrel
        by_cases hgo : x < n ∧ x ≤ 300
        · obtain ⟨g1, g2⟩ := hgo
          have i1 : (x : Int) < (n : Int) := by omega
          have i2 : (x : Int) ≤ 300 := by omega
          have HC := Lib.hid (HP.out x (by omega))
          have hne := HO3.out x g1
          have ht : ((((Pl.persN k x).1 : Nat) : Int) == (S : Int)) = false := by rw [beq_eq_false_iff_ne]; omega
          clear hne
          generalize (Pl.persN k x).1 = A at *
          generalize (Pl.persN k x).2 = C at *
          go_wp2_with fail
          refine (HC.out _).mono ?_
          rintro e w5 ⟨rfl, hb5⟩
          go_wp2_with fail
          go_roundw
          case rel => exact ⟨x + 1, by omega, by go_num, hbw.trans (hb5.mono hbw.size)⟩
          case measure => simp [intOf]; omega
        · have HC := Lib.hid (HP.out n o1)
          rw [HO2.out] at HC
          generalize (Pl.persN k n).2 = C at *
          have hSS : ((S : Int) == (S : Int)) = true := by simp
          have hfin : ¬ (x : Int) < (n : Int) ∨ ((x : Int) < (n : Int) ∧ ¬ (x : Int) ≤ 300) := by omega
          have HFIN := Lib.hid hfin
          clear hgo hfin
          rcases HFIN.out with i1 | ⟨i1, i2⟩
          all_goals
            go_wp2_with fail
            refine (HC.out _).mono ?_
            rintro e w5 ⟨rfl, hb5⟩
            have c5 : Below w.heap.size w w5 := hbw.trans (hb5.mono hbw.size)
            go_wp2_with fail
            refine (HMI.out _).mono ?_
            rintro e w6 ⟨rfl, hb6⟩
            rcases HM.out with hm | hm
            · go_wp2_with fail
              go_ret
              exact ⟨rfl, c5.trans (hb6.mono c5.size)⟩
            · have hm0 : ¬ R < 0 := by omega
              go_wp2_with fail
              go_ret
              exact ⟨rfl, c5.trans (hb6.mono c5.size)⟩

end Go.Proofs.Ytmmafbncpeahlaa
