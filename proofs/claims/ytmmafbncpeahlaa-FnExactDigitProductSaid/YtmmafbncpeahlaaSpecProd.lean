/-
  spec.DigitProduct, spec.PersistsOf, spec.LeastPersisting, spec.NoNought: what they answer.
-/
import Derived.Test.YtmmafbncpeahlaaDigitsOf
import Derived.Test.YtmmafbncpeahlaaMathProd2
namespace Go.Proofs.Ytmmafbncpeahlaa
open Go.RowKit Go.Shelf

namespace Pl

/-- The walk over the digits, the last one first: the product so far and what is left. -/
def ProdAt (b n T left : Nat) : Prop := T ≤ n ∧ T * left ≤ n ∧ ((left = 0 ∧ T = prodD b n) ∨ (1 ≤ left ∧ T * prodD b left = prodD b n))

theorem prodAt_start {b n : Nat} (hb : 2 ≤ b) : ProdAt b n (n % b) (n / b) := by
  have h1 := Nat.div_add_mod n b
  have h2 := Nat.mod_lt n (show 0 < b by omega)
  refine ⟨Nat.mod_le _ _, ?_, ?_⟩
  · have : n % b * (n / b) ≤ b * (n / b) := Nat.mul_le_mul_right _ (by omega)
    omega
  · by_cases h : n < b
    · left; exact ⟨Nat.div_eq_of_lt h, by rw [Nat.mod_eq_of_lt h, prodD_lt h]⟩
    · right; exact ⟨(Nat.one_le_div_iff (by omega)).2 (by omega), (prodD_ge hb (by omega)).symm⟩

theorem prodAt_next {b n T left : Nat} (hb : 2 ≤ b) (h : ProdAt b n T left) (h0 : 0 < left) : ProdAt b n (T * (left % b)) (left / b) ∧ T * (left % b) ≤ n := by
  obtain ⟨h1, h2, h3⟩ := h
  have d1 := Nat.div_add_mod left b
  have d2 := Nat.mod_lt left (show 0 < b by omega)
  have hle : T * (left % b) ≤ n := by
    have : T * (left % b) ≤ T * left := Nat.mul_le_mul_left T (Nat.mod_le _ _)
    omega
  refine ⟨⟨hle, ?_, ?_⟩, hle⟩
  · have g1 : left % b * (left / b) ≤ b * (left / b) := Nat.mul_le_mul_right _ (by omega)
    have g2 : T * (left % b * (left / b)) ≤ T * left := Nat.mul_le_mul_left T (by omega)
    rw [← Nat.mul_assoc] at g2; omega
  · rcases h3 with ⟨h, _⟩ | ⟨_, h4⟩
    · omega
    · by_cases h : left < b
      · rw [prodD_lt h] at h4
        left; exact ⟨Nat.div_eq_of_lt h, by rw [Nat.mod_eq_of_lt h]; exact h4⟩
      · rw [prodD_ge hb (by omega), ← Nat.mul_assoc] at h4
        right; exact ⟨(Nat.one_le_div_iff (by omega)).2 (by omega), h4⟩

theorem prodAt_end {b n T : Nat} (h : ProdAt b n T 0) : T = prodD b n := by
  rcases h.2.2 with ⟨_, h1⟩ | ⟨h1, _⟩
  · exact h1
  · omega

end Pl

set_option maxHeartbeats 1000000 in
theorem l9Product (x b : Nat) (hb : 2 ≤ b) (hb' : b ≤ 16) (hx : x ≤ 1000000000) (w : World) :
    Calls Try.prog 35 #[.int .i64 x, .int .i64 b] w fun e w' => e = .returned (.int .i64 ((Pl.prodD b x : Nat) : Int)) ∧ w = w' := by
  have HS := Lib.hid (Pl.prodAt_start (n := x) hb)
  have hne : ((b : Int) == 0) = false := by rw [beq_eq_false_iff_ne]; omega
  obtain ⟨R, hR⟩ : ∃ R, Pl.prodD b x = R := ⟨_, rfl⟩
  have HR := Lib.hid hR
  rw [hR]
  clear hR
  have e1 : ((x : Int)).tdiv (b : Int) = ((x / b : Nat) : Int) := rfl
  have e2 : ((x : Int)).tmod (b : Int) = ((x % b : Nat) : Int) := rfl
  have hq := Nat.div_le_self x b
  generalize x / b = q at *
  generalize x % b = r at *
  have e3 : IntKind.i64.wrap (q : Int) = (q : Int) := IntWalk.i64_in _ (by omega)
  go_enter Try.func35, Try.ntmps35
  go_wp2
  go_loop [5, 6] (fun t l => ∃ (T left : Nat), left ≤ x ∧ T ≤ 1000000000 ∧ t = .int .i64 T ∧ l = .int .i64 left ∧ Pl.ProdAt b x T left) (fun _ l => (intOf l).toNat)
  case atStart => exact ⟨r, q, by omega, Nat.le_trans HS.out.1 hx, rfl, rfl, HS.out⟩
  case round =>
    clear e1 e2 e3 HS hq
    obtain ⟨T, left, hl, hT, rfl, rfl, hAt⟩ := hrel
    by_cases hlt : 0 < left
    · obtain ⟨hA, hle⟩ := Pl.prodAt_next hb hAt hlt
      have HA := Lib.hid hA
      have hq1 : left / b < left := Nat.div_lt_self hlt (by omega)
      have e1 : ((left : Int)).tdiv (b : Int) = ((left / b : Nat) : Int) := rfl
      have e2 : ((left : Int)).tmod (b : Int) = ((left % b : Nat) : Int) := rfl
      have hi : (0 : Int) < (left : Int) := by omega
      have e3 : IntKind.i64.wrap ((T : Int) * ((left % b : Nat) : Int)) = ((T * (left % b) : Nat) : Int) := by
        rw [← Int.natCast_mul]; exact IntWalk.i64_in _ (by omega)
      clear hA hAt
      generalize left / b = q' at *
      generalize left % b = r' at *
      have e5 : IntKind.i64.wrap (q' : Int) = (q' : Int) := IntWalk.i64_in _ (by omega)
      generalize T * r' = M at *
      go_wp2
      go_round
      case rel => exact ⟨M, q', by omega, by omega, rfl, rfl, HA.out⟩
      case measure => simp [intOf]; omega
    · obtain rfl : left = 0 := by omega
      have HE := Lib.hid (Pl.prodAt_end hAt)
      clear hAt
      go_wp2
      go_ret
      exact ⟨ret_int (by rw [HE.out, HR.out]), rfl⟩

set_option maxHeartbeats 400000 in
theorem specDigitProduct (n b : Int) (w : World) :
    Calls Try.prog 13 #[.int .i64 n, .int .i64 b] w fun e w' => e = .returned (.int .i64 (Pl.prodI n b)) ∧ w = w' := by
  by_cases hn : (decide (0 ≤ n) && decide (n ≤ 1000000000)) = true
  · by_cases hB : Pl.baseB b = true
    · have h : Pl.okB n b = true := by rw [okB_halves, hn, hB]; rfl
      obtain ⟨x, k, rfl, rfl, h1, h2, h3⟩ := Pl.okB_nat h
      rw [Pl.prodI_yes x k h]
      have HP := Lib.hid (l9Product x k h1 h2 h3)
      clear h
      generalize Pl.prodD k x = P at *
      go_enter Try.func13, Try.ntmps13
      go_wp2_with (first | (go_at_call 33; refine (specIn _ _ _ _).mono ?_; rintro e w' ⟨rfl, rfl⟩; rw [hn]) | (go_at_call 34; refine (specBaseOk _ _).mono ?_; rintro e w' ⟨rfl, rfl⟩; rw [hB]) | (go_at_call 35; refine (HP.out _).mono ?_; rintro e w' ⟨rfl, rfl⟩))
      go_ret
      exact ⟨rfl, rfl⟩
    · have h : ¬ Pl.okB n b = true := by rw [okB_halves, hn]; simpa using hB
      have hB' : Pl.baseB b = false := by simpa using hB
      rw [Pl.prodI_no h]
      clear h hB
      go_enter Try.func13, Try.ntmps13
      go_wp2_with (first | (go_at_call 33; refine (specIn _ _ _ _).mono ?_; rintro e w' ⟨rfl, rfl⟩; rw [hn]) | (go_at_call 34; refine (specBaseOk _ _).mono ?_; rintro e w' ⟨rfl, rfl⟩; rw [hB']))
      go_ret
      exact ⟨rfl, rfl⟩
  · have h : ¬ Pl.okB n b = true := by rw [okB_halves]; simp [hn]
    have hn' : (decide (0 ≤ n) && decide (n ≤ 1000000000)) = false := by simpa using hn
    rw [Pl.prodI_no h]
    clear h hn
    go_enter Try.func13, Try.ntmps13
    go_wp2_with (first | (go_at_call 33; refine (specIn _ _ _ _).mono ?_; rintro e w' ⟨rfl, rfl⟩; rw [hn']))
    go_ret
    exact ⟨rfl, rfl⟩

set_option maxHeartbeats 400000 in
theorem specNoNought (n b : Int) (w : World) :
    Calls Try.prog 25 #[.int .i64 n, .int .i64 b] w fun e w' => e = .returned (.bool (Pl.noB n b)) ∧ w = w' := by
  have HP := Lib.hid (specDigitProduct n b)
  unfold Pl.noB
  generalize Pl.prodI n b = P at *
  go_enter Try.func25, Try.ntmps25
  go_wp2_with (go_at_call 13; refine (HP.out _).mono ?_; rintro e w' ⟨rfl, rfl⟩)
  go_ret
  exact ⟨rfl, rfl⟩

/-- So many steps on, at a number. -/
def Pl.PersAt (b x s m : Nat) : Prop := Pl.persN b x = ((Pl.persN b m).1 + s, (Pl.persN b m).2)

theorem ret_pers {a b c d : Int} {x y : Bool} (h1 : a = b) (h2 : c = d) (h3 : x = y) : Ending.returned (.tuple #[.int .i64 a, .int .i64 c, .bool x]) = .returned (.tuple #[.int .i64 b, .int .i64 d, .bool y]) := by rw [h1, h2, h3]

set_option maxHeartbeats 1000000 in
theorem specPersistsOf (n b : Int) (w : World) :
    Calls Try.prog 19 #[.int .i64 n, .int .i64 b] w fun e w' => e = .returned (.tuple #[.int .i64 (Pl.peK (Pl.persA n b)), .int .i64 (Pl.peL (Pl.persA n b)), .bool (Pl.peB (Pl.persA n b))]) ∧ w = w' := by
  by_cases hn : (decide (0 ≤ n) && decide (n ≤ 1000000000)) = true
  · by_cases hB : Pl.baseB b = true
    · have h : Pl.okB n b = true := by rw [okB_halves, hn, hB]; rfl
      obtain ⟨x, k, rfl, rfl, h1, h2, h3⟩ := Pl.okB_nat h
      rw [Pl.persA_yes x k h]
      have HS : Hid (Pl.PersAt k x 0 x) := Lib.hid rfl
      clear h
      go_enter Try.func19, Try.ntmps19
      go_wp2_with (first | (go_at_call 33; refine (specIn _ _ _ _).mono ?_; rintro e w' ⟨rfl, rfl⟩; rw [hn]) | (go_at_call 34; refine (specBaseOk _ _).mono ?_; rintro e w' ⟨rfl, rfl⟩; rw [hB]))
      go_loop [0, 7] (fun mv sv => ∃ m s : Nat, mv = .int .i64 m ∧ sv = .int .i64 s ∧ m + s ≤ 1000000000 ∧ Pl.PersAt k x s m) (fun mv _ => (intOf mv).toNat)
      case atStart => exact ⟨x, 0, rfl, rfl, by omega, HS.out⟩
      case round =>
        clear hn hB HS
        obtain ⟨m, s, rfl, rfl, hms, hAt⟩ := hrel
        by_cases hlt : k ≤ m
        · have hi : (k : Int) ≤ (m : Int) := by omega
          have hless := Pl.prodD_less h1 hlt
          have HP := Lib.hid (l9Product m k h1 h2 (by omega))
          have HN : Hid (Pl.PersAt k x (s + 1) (Pl.prodD k m)) := Lib.hid (by
            unfold Pl.PersAt at hAt ⊢
            rw [hAt, Pl.persN_ge h1 hlt]
            simp [Nat.add_assoc, Nat.add_comm 1 s])
          clear hAt
          generalize Pl.prodD k m = P at *
          go_wp2_with (go_at_call 35; refine (HP.out _).mono ?_; rintro e w' ⟨rfl, rfl⟩)
          go_round
          case rel => exact ⟨P, s + 1, rfl, by go_num, by omega, HN.out⟩
          case measure => simp [intOf]; omega
        · have hi : ¬ (k : Int) ≤ (m : Int) := by omega
          have HN : Hid (Pl.persN k x = (s, m)) := Lib.hid (by
            unfold Pl.PersAt at hAt
            rw [hAt, Pl.persN_lt (by omega)]; simp)
          clear hAt
          go_wp2_with fail
          go_ret3
          exact ⟨ret_pers (by rw [HN.out]; rfl) (by rw [HN.out]; rfl) rfl, rfl⟩
    · have h : ¬ Pl.okB n b = true := by rw [okB_halves, hn]; simpa using hB
      have hB' : Pl.baseB b = false := by simpa using hB
      rw [Pl.persA_no h]
      clear h hB
      go_enter Try.func19, Try.ntmps19
      go_wp2_with (first | (go_at_call 33; refine (specIn _ _ _ _).mono ?_; rintro e w' ⟨rfl, rfl⟩; rw [hn]) | (go_at_call 34; refine (specBaseOk _ _).mono ?_; rintro e w' ⟨rfl, rfl⟩; rw [hB']))
      go_ret3
      exact ⟨rfl, rfl⟩
  · have h : ¬ Pl.okB n b = true := by rw [okB_halves]; simp [hn]
    have hn' : (decide (0 ≤ n) && decide (n ≤ 1000000000)) = false := by simpa using hn
    rw [Pl.persA_no h]
    clear h hn
    go_enter Try.func19, Try.ntmps19
    go_wp2_with (first | (go_at_call 33; refine (specIn _ _ _ _).mono ?_; rintro e w' ⟨rfl, rfl⟩; rw [hn']))
    go_ret3
    exact ⟨rfl, rfl⟩

set_option maxHeartbeats 1000000 in
theorem specLeastPersisting (s b : Int) (w : World) :
    Calls Try.prog 23 #[.int .i64 s, .int .i64 b] w fun e w' => e = .returned (.int .i64 (Pl.leastI s b)) ∧ w = w' := by
  by_cases hs : 0 ≤ s
  · by_cases hB : Pl.baseB b = true
    · obtain ⟨S, rfl⟩ : ∃ S : Nat, s = (S : Int) := ⟨s.toNat, by omega⟩
      obtain ⟨k, rfl, k1, k2⟩ : ∃ k : Nat, b = (k : Int) ∧ 2 ≤ k ∧ k ≤ 16 := by
        rw [Pl.baseB_iff] at hB; exact ⟨b.toNat, by omega, by omega, by omega⟩
      have HP : Hid (∀ x : Nat, x ≤ 3000 → ∀ W, Calls Try.prog 19 #[.int .i64 x, .int .i64 k] W fun e W' => e = .returned (.tuple #[.int .i64 (((Pl.persN k x).1 : Nat) : Int), .int .i64 (((Pl.persN k x).2 : Nat) : Int), .bool true]) ∧ W = W') := Lib.hid fun x hx W => by
        have h := specPersistsOf (x : Int) k W
        rw [Pl.persA_yes x k (by rw [Pl.okB_iff]; omega)] at h
        exact h
      have HI : Hid ((∀ x, x ≤ 3000 → (Pl.persN k x).1 = S → (∀ y, y < x → (Pl.persN k y).1 ≠ S) → Pl.leastI (S : Int) (k : Int) = (x : Int)) ∧ ((∀ x, x ≤ 3000 → (Pl.persN k x).1 ≠ S) → Pl.leastI (S : Int) (k : Int) = -1)) :=
        Lib.hid ⟨fun x g1 g2 g3 => Pl.leastI_some hB (Pl.leastO_of g1 g2 g3), fun g => Pl.leastI_none (Pl.leastO_no g)⟩
      generalize Pl.leastI (S : Int) (k : Int) = R at *
      go_enter Try.func23, Try.ntmps23
      go_wp2_with fail
      go_loop [5, 6, 7, 8] (fun xv _ _ _ => ∃ x : Nat, x ≤ 3001 ∧ xv = .int .i64 x ∧ ∀ y, y < x → (Pl.persN k y).1 ≠ S) (fun xv _ _ _ => 3001 - (intOf xv).toNat)
      case atStart => exact ⟨0, by omega, rfl, fun y hy => by omega⟩
      case round =>
        obtain ⟨x, hx, rfl, hno⟩ := hrel
        have HNO := Lib.hid hno
        clear hno
        by_cases hlt : x ≤ 3000
        · have hi : (x : Int) ≤ 3000 := by omega
          have HC := Lib.hid (HP.out x hlt)
          have hkk : (0 : Int) ≤ (S : Int) := by omega
          by_cases he : (Pl.persN k x).1 = S
          · have ht : ((((Pl.persN k x).1 : Nat) : Int) == (S : Int)) = true := by rw [he]; simp
            have HR : Hid (R = (x : Int)) := Lib.hid (HI.out.1 x hlt he HNO.out)
            clear he
            generalize (Pl.persN k x).1 = A at *
            generalize (Pl.persN k x).2 = C at *
            go_wp2_with (first | (go_at_call 34; refine (specBaseOk _ _).mono ?_; rintro e w' ⟨rfl, rfl⟩; rw [hB]) | (go_at_call 19; refine (HC.out _).mono ?_; rintro e w' ⟨rfl, rfl⟩))
            go_ret
            exact ⟨ret_int HR.out.symm, rfl⟩
          · have ht : ((((Pl.persN k x).1 : Nat) : Int) == (S : Int)) = false := by rw [beq_eq_false_iff_ne]; omega
            have HN : Hid (∀ y, y < x + 1 → (Pl.persN k y).1 ≠ S) := Lib.hid fun y hy => by
              by_cases h : y = x
              · rw [h]; exact he
              · exact HNO.out y (by omega)
            clear he HNO
            generalize (Pl.persN k x).1 = A at *
            generalize (Pl.persN k x).2 = C at *
            go_wp2_with (first | (go_at_call 34; refine (specBaseOk _ _).mono ?_; rintro e w' ⟨rfl, rfl⟩; rw [hB]) | (go_at_call 19; refine (HC.out _).mono ?_; rintro e w' ⟨rfl, rfl⟩))
            go_round
            case rel => exact ⟨x + 1, by omega, by go_num, HN.out⟩
            case measure => simp [intOf]; omega
        · have hi : ¬ (x : Int) ≤ 3000 := by omega
          have HR : Hid (R = -1) := Lib.hid (HI.out.2 fun y hy => HNO.out y (by omega))
          go_wp2_with fail
          go_ret
          exact ⟨ret_int HR.out.symm, rfl⟩
    · rw [Pl.leastI_no (fun h => hB h.2)]
      have hB' : Pl.baseB b = false := by simpa using hB
      clear hB
      go_enter Try.func23, Try.ntmps23
      go_wp2_with fail
      go_loop [5, 6, 7, 8] (fun xv _ _ _ => xv = .int .i64 0) (fun _ _ _ _ => 0)
      case atStart => exact rfl
      case round =>
        obtain rfl := hrel
        go_wp2_with (go_at_call 34; refine (specBaseOk _ _).mono ?_; rintro e w' ⟨rfl, rfl⟩; rw [hB'])
        go_ret
        exact ⟨rfl, rfl⟩
  · rw [Pl.leastI_no (fun h => hs h.1)]
    go_enter Try.func23, Try.ntmps23
    go_wp2_with fail
    go_loop [5, 6, 7, 8] (fun xv _ _ _ => xv = .int .i64 0) (fun _ _ _ _ => 0)
    case atStart => exact rfl
    case round =>
      obtain rfl := hrel
      go_wp2_with fail
      go_ret
      exact ⟨rfl, rfl⟩

end Go.Proofs.Ytmmafbncpeahlaa
