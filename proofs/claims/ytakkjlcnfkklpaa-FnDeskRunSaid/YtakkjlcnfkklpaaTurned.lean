/-
  TurnedOf, PalindromeOk, AddedTurned, of the program and of the model; their exact laws.
-/
import Derived.Test.YtakkjlcnfkklpaaWhole
import Derived.Test.YtakkjlcnfkklpaaDigitsOf
import Derived.Test.YtakkjlcnfkklpaaMathTurn
namespace Go.Proofs.Ytakkjlcnfkklpaa
open Go.RowKit Go.Shelf

namespace Pl

theorem valF_more {b : Nat} (hb : 1 ≤ b) : ∀ (l : List Nat) (acc : Nat), acc ≤ valF b acc l := by
  intro l
  induction l with
  | nil => intro acc; exact Nat.le_refl _
  | cons d t ih =>
    intro acc
    have h1 := ih (acc * b + d)
    have h2 : acc ≤ acc * b := Nat.le_mul_of_pos_right _ hb
    show acc ≤ valF b (acc * b + d) t
    omega

/-- The number of a row, if it may be told. -/
theorem wholeO_row {b : Nat} (hb : 1 ≤ b) : ∀ (l : List Nat) (acc : Nat), (∀ x ∈ l, x < b) → acc ≤ 1000000000 → wholeO b (l.map fun d : Nat => (d : Int)) acc = if valF b acc l ≤ 1000000000 then some (valF b acc l) else none := by
  intro l
  induction l with
  | nil => intro acc _ h; rw [show valF b acc [] = acc from rfl, if_pos h]; rfl
  | cons d t ih =>
    intro acc hm h
    have hd := hm d (by simp)
    have hge : acc * b + d ≤ valF b (acc * b + d) t := valF_more hb t _
    have e : valF b acc (d :: t) = valF b (acc * b + d) t := rfl
    have ec : ((acc * b + d : Nat) : Int) = (acc : Int) * b + (d : Int) := by rw [Int.natCast_add, Int.natCast_mul]
    rw [List.map_cons, e]
    by_cases hs : acc * b + d ≤ 1000000000
    · rw [wholeO_good _ _ _ _ ⟨by omega, by omega⟩, Int.toNat_natCast]
      exact ih _ (fun x hx => hm x (by simp [hx])) hs
    · rw [wholeO_bad _ _ _ _ (by omega), if_neg (by omega)]

theorem whole_row {b : Nat} (hb : 2 ≤ b) (hb' : b ≤ 16) {l : List Nat} (h0 : l ≠ []) (hm : ∀ x ∈ l, x < b) : whole (l.map fun d : Nat => (d : Int)) b = if valF b 0 l ≤ 1000000000 then some (valF b 0 l) else none := by
  rw [whole, if_pos ⟨by rw [baseB_iff]; omega, by simpa using h0⟩, Int.toNat_natCast]
  exact wholeO_row (by omega) l 0 hm (by omega)

theorem digI_rev (b n : Nat) : (digI b n).reverse = (digsR b n).map fun d : Nat => (d : Int) := by
  rw [digI, digs, List.map_reverse, List.reverse_reverse]

theorem whole_turned {n b : Nat} (h : okB n b = true) : wV (whole (digI b n).reverse b) = turnI n b := by
  have h' := h
  rw [okB_iff] at h'
  have hp := digsR_pos b n
  rw [digI_rev, whole_row (by omega) (by omega) (by intro h0; rw [h0] at hp; simp at hp) (fun x hx => digsR_mem (by omega) n x hx)]
  rw [show valF b 0 (digsR b n) = turnN b n from rfl]
  by_cases hs : turnN b n ≤ 1000000000
  · rw [turnI_yes n b h hs, if_pos hs]; rfl
  · rw [turnI_big n b hs, if_neg hs]; rfl

theorem turnI_ok {n b : Int} (h : 0 ≤ turnI n b) : okB n b = true := Classical.byContradiction fun hno => by
  rw [turnI_no hno] at h; omega
theorem turnI_range (n b : Int) : -1 ≤ turnI n b ∧ turnI n b ≤ 1000000000 := by
  unfold turnI; split <;> omega

/-- A number and it turned round, added. -/
def addI (n b : Int) : Int := if 0 ≤ turnI n b ∧ n + turnI n b ≤ 1000000000 then n + turnI n b else -1
def addB (n b : Int) : Bool := decide (0 ≤ turnI n b) && decide (n + turnI n b ≤ 1000000000)
theorem addI_yes {n b : Int} (h1 : 0 ≤ turnI n b) (h2 : n + turnI n b ≤ 1000000000) : addI n b = n + turnI n b ∧ addB n b = true := by
  refine ⟨by rw [addI, if_pos ⟨h1, h2⟩], by simp [addB, h1, h2]⟩
theorem addI_no {n b : Int} (h : ¬ (0 ≤ turnI n b ∧ n + turnI n b ≤ 1000000000)) : addI n b = -1 ∧ addB n b = false := by
  refine ⟨by rw [addI, if_neg h], ?_⟩
  rw [addB, ← Bool.not_eq_true, Bool.and_eq_true, decide_eq_true_eq, decide_eq_true_eq]; exact h

theorem turn_le {b n : Nat} (hb : 2 ≤ b) (hb' : b ≤ 16) (h : 1 ≤ n) : turnN b n < 16 * n := by
  have h0 := digsR_pos b n
  have h1 := turn_pow hb n
  have h2 := pow_le_of hb n h
  obtain ⟨l, hl⟩ : ∃ l, (digsR b n).length = l + 1 := ⟨(digsR b n).length - 1, by omega⟩
  rw [hl, Nat.add_sub_cancel] at h2
  rw [hl, Nat.pow_succ] at h1
  have h3 : b ^ l * b ≤ n * 16 := Nat.mul_le_mul h2 hb'
  omega

theorem turn_top {b n : Nat} (hb : 2 ≤ b) (hb' : b ≤ 16) (h : n ≤ 1000000000) : turnN b n ≤ 16000000000 := by
  by_cases h1 : 1 ≤ n
  · have := turn_le hb hb' h1; omega
  · obtain rfl : n = 0 := by omega
    rw [turnN_lt (by omega)]; omega

/-- The walk over the digits, the last one first: what has come and what is left. -/
def TurnAt (b n T left : Nat) : Prop := (left = 0 ∧ T = turnN b n) ∨ (1 ≤ left ∧ valF b T (digsR b left) = turnN b n)

theorem turnAt_start (b n : Nat) (hb : 2 ≤ b) : TurnAt b n 0 n := by
  by_cases h : 1 ≤ n
  · exact .inr ⟨h, rfl⟩
  · obtain rfl : n = 0 := by omega
    exact .inl ⟨rfl, by rw [turnN_lt (by omega)]⟩

theorem turnAt_next {b n T left : Nat} (hb : 2 ≤ b) (h : TurnAt b n T left) (h0 : 0 < left) : TurnAt b n (T * b + left % b) (left / b) ∧ T * b + left % b ≤ turnN b n := by
  rcases h with ⟨h1, _⟩ | ⟨h1, h2⟩
  · omega
  · by_cases hl : left < b
    · rw [digsR_lt hl] at h2
      have e : T * b + left = turnN b n := h2
      rw [Nat.mod_eq_of_lt hl, Nat.div_eq_of_lt hl]
      exact ⟨.inl ⟨rfl, e⟩, by omega⟩
    · rw [digsR_ge hb (by omega)] at h2
      have e : valF b (T * b + left % b) (digsR b (left / b)) = turnN b n := h2
      refine ⟨.inr ⟨(Nat.one_le_div_iff (by omega)).2 (by omega), e⟩, ?_⟩
      rw [← e]; exact valF_more (by omega) _ _

theorem turnAt_end {b n T : Nat} (h : TurnAt b n T 0) : T = turnN b n := by
  rcases h with ⟨_, h1⟩ | ⟨h1, _⟩
  · exact h1
  · omega

end Pl

set_option maxHeartbeats 400000 in
theorem implTurnedOf (n b : Int) (w : World) :
    Calls Try.prog 67 #[.int .i64 n, .int .i64 b] w fun e w' => e = .returned (.int .i64 (Pl.turnI n b)) ∧ Below w.heap.size w w' := by
  by_cases h : Pl.okB n b = true
  · obtain ⟨x, k, rfl, rfl, h1, h2, h3⟩ := Pl.okB_nat h
    have HD := Lib.hid (digitsOfYes x k h1 h2 h3)
    have HW := Lib.hid (Pl.whole_turned h)
    have hlen := Pl.digI_len30 h1 h3
    generalize Pl.digI k x = L at *
    generalize Pl.turnI (x : Int) (k : Int) = T at *
    go_enter Try.func67, Try.ntmps67
    go_wp2_with (go_at_call 39; refine (hasDigits _ _ _).mono ?_; rintro e w' ⟨rfl, rfl⟩; rw [h])
    refine (HD.out _).mono ?_
    rintro e w1 ⟨v, rfl, r1, b1⟩
    go_wp2_with fail
    refine (reversed _ L _ r1.ints (by omega)).mono ?_
    rintro e w2 ⟨u, rfl, r2, b2⟩
    go_wp2_with fail
    refine (implWholeOf _ L.reverse _ _ r2.ints (by rw [List.length_reverse]; omega)).mono ?_
    rintro e w3 ⟨rfl, rfl⟩
    go_wp2
    go_ret
    exact ⟨ret_int HW.out, b1.trans (b2.mono b1.size)⟩
  · rw [Pl.turnI_no h]
    have h' : Pl.okB n b = false := by simpa using h
    clear h
    go_enter Try.func67, Try.ntmps67
    go_wp2_with (go_at_call 39; refine (hasDigits _ _ _).mono ?_; rintro e w' ⟨rfl, rfl⟩; rw [h'])
    go_ret
    exact ⟨rfl, Below.refl _ _⟩

set_option maxHeartbeats 1000000 in
theorem l6Turned (x b : Nat) (hb : 2 ≤ b) (hb' : b ≤ 16) (hx : x ≤ 1000000000) (w : World) :
    Calls Try.prog 84 #[.int .i64 x, .int .i64 b] w fun e w' => e = .returned (.int .i64 ((Pl.turnN b x : Nat) : Int)) ∧ w = w' := by
  have htop := Pl.turn_top hb hb' hx
  have HS := Lib.hid (Pl.turnAt_start b x hb)
  have hne : ((b : Int) == 0) = false := by simp; omega
  obtain ⟨R, hR⟩ : ∃ R, Pl.turnN b x = R := ⟨_, rfl⟩
  have HR := Lib.hid hR
  rw [hR] at htop ⊢
  clear hR
  go_enter Try.func84, Try.ntmps84
  go_wp2
  go_loop [5, 6] (fun t l => ∃ (T left : Nat), left ≤ x ∧ T ≤ 16000000000 ∧ t = .int .i64 T ∧ l = .int .i64 left ∧ Pl.TurnAt b x T left) (fun _ l => (intOf l).toNat)
  case atStart => exact ⟨0, x, Nat.le_refl _, by omega, rfl, rfl, HS.out⟩
  case round =>
    obtain ⟨T, left, hl, hT, rfl, rfl, hAt⟩ := hrel
    by_cases hlt : 0 < left
    · obtain ⟨hA, hle⟩ := Pl.turnAt_next hb hAt hlt
      rw [HR.out] at hle
      have HA := Lib.hid hA
      have hq1 : left / b < left := Nat.div_lt_self hlt (by omega)
      have hr1 : left % b < 16 := Nat.lt_of_lt_of_le (Nat.mod_lt _ (by omega)) hb'
      have e1 : ((left : Int)).tdiv (b : Int) = ((left / b : Nat) : Int) := rfl
      have e2 : ((left : Int)).tmod (b : Int) = ((left % b : Nat) : Int) := rfl
      have hi : (0 : Int) < (left : Int) := by omega
      have hTb : T * b ≤ 16000000000 := Nat.le_trans (Nat.le_add_right _ _) (Nat.le_trans hle htop)
      clear hA hAt
      generalize left / b = q at *
      generalize left % b = r at *
      have e3 : IntKind.i64.wrap ((T : Int) * (b : Int)) = ((T * b : Nat) : Int) := by
        rw [← Int.natCast_mul]; exact IntWalk.i64_in _ (by omega)
      have e4 : IntKind.i64.wrap (((T * b : Nat) : Int) + ((r : Nat) : Int)) = ((T * b + r : Nat) : Int) := by
        rw [← Int.natCast_add]; exact IntWalk.i64_in _ (by omega)
      have e5 : IntKind.i64.wrap ((q : Nat) : Int) = ((q : Nat) : Int) := IntWalk.i64_in _ (by omega)
      generalize hM : T * b + r = M at *
      clear hM
      generalize T * b = P at *
      go_wp2
      go_round
      case rel => exact ⟨M, q, by omega, by omega, rfl, rfl, HA.out⟩
      case measure => simp [intOf]; omega
    · obtain rfl : left = 0 := by omega
      have HE := Lib.hid (Pl.turnAt_end hAt)
      clear hAt
      go_wp2
      go_ret
      exact ⟨ret_int (by rw [HE.out, HR.out]), rfl⟩

theorem l6At {n b : Int} (h : Pl.okB n b = true) (w : World) :
    Calls Try.prog 84 #[.int .i64 n, .int .i64 b] w fun e w' => e = .returned (.int .i64 ((Pl.turnN b.toNat n.toNat : Nat) : Int)) ∧ w = w' := by
  obtain ⟨x, k, rfl, rfl, h1, h2, h3⟩ := Pl.okB_nat h
  exact l6Turned x k h1 h2 h3 w

set_option maxHeartbeats 400000 in
theorem specTurnedOf (n b : Int) (w : World) :
    Calls Try.prog 73 #[.int .i64 n, .int .i64 b] w fun e w' => e = .returned (.int .i64 (Pl.turnI n b)) ∧ w = w' := by
  by_cases hn : (decide (0 ≤ n) && decide (n ≤ 1000000000)) = true
  · by_cases hB : Pl.baseB b = true
    · have h : Pl.okB n b = true := by rw [okB_halves, hn, hB]; rfl
      have H := Lib.hid (l6At h)
      have HT : Hid (Pl.turnI n b = if ((Pl.turnN b.toNat n.toNat : Nat) : Int) ≤ 1000000000 then ((Pl.turnN b.toNat n.toNat : Nat) : Int) else -1) := Lib.hid (by
        unfold Pl.turnI
        by_cases hs : Pl.turnN b.toNat n.toNat ≤ 1000000000
        · rw [if_pos ⟨h, hs⟩, if_pos (by omega)]
        · rw [if_neg fun hh => hs hh.2, if_neg (by omega)])
      rw [HT.out]
      clear h
      generalize ((Pl.turnN b.toNat n.toNat : Nat) : Int) = T at *
      by_cases hs : T ≤ 1000000000
      · rw [if_pos hs]
        go_enter Try.func73, Try.ntmps73
        go_wp2_with (first | (go_at_call 40; refine (specIn _ _ _ _).mono ?_; rintro e w' ⟨rfl, rfl⟩; rw [hn]) | (go_at_call 41; refine (specBaseOk _ _).mono ?_; rintro e w' ⟨rfl, rfl⟩; rw [hB]) | (go_at_call 84; refine (H.out _).mono ?_; rintro e w' ⟨rfl, rfl⟩))
        go_ret
        exact ⟨rfl, rfl⟩
      · rw [if_neg hs]
        go_enter Try.func73, Try.ntmps73
        go_wp2_with (first | (go_at_call 40; refine (specIn _ _ _ _).mono ?_; rintro e w' ⟨rfl, rfl⟩; rw [hn]) | (go_at_call 41; refine (specBaseOk _ _).mono ?_; rintro e w' ⟨rfl, rfl⟩; rw [hB]) | (go_at_call 84; refine (H.out _).mono ?_; rintro e w' ⟨rfl, rfl⟩))
        go_ret
        exact ⟨rfl, rfl⟩
    · have h : ¬ Pl.okB n b = true := by rw [okB_halves, hn]; simpa using hB
      have hB' : Pl.baseB b = false := by simpa using hB
      rw [Pl.turnI_no h]
      clear h hB
      go_enter Try.func73, Try.ntmps73
      go_wp2_with (first | (go_at_call 40; refine (specIn _ _ _ _).mono ?_; rintro e w' ⟨rfl, rfl⟩; rw [hn]) | (go_at_call 41; refine (specBaseOk _ _).mono ?_; rintro e w' ⟨rfl, rfl⟩; rw [hB']))
      go_ret
      exact ⟨rfl, rfl⟩
  · have h : ¬ Pl.okB n b = true := by rw [okB_halves]; simp [hn]
    have hn' : (decide (0 ≤ n) && decide (n ≤ 1000000000)) = false := by simpa using hn
    rw [Pl.turnI_no h]
    clear h hn
    go_enter Try.func73, Try.ntmps73
    go_wp2_with (first | (go_at_call 40; refine (specIn _ _ _ _).mono ?_; rintro e w' ⟨rfl, rfl⟩; rw [hn']))
    go_ret
    exact ⟨rfl, rfl⟩

/-- What the walks of AddedTurned ask of a number turned round. -/
theorem Pl.turn_facts {n b : Int} (h : 0 ≤ Pl.turnI n b) : 0 ≤ n ∧ n ≤ 1000000000 := ((Pl.okB_iff n b).1 (Pl.turnI_ok h)).2

set_option maxHeartbeats 400000 in
theorem implAddedTurned (n b : Int) (w : World) :
    Calls Try.prog 68 #[.int .i64 n, .int .i64 b] w fun e w' => e = .returned (.tuple #[.int .i64 (Pl.addI n b), .bool (Pl.addB n b)]) ∧ Below w.heap.size w w' := by
  have HT := Lib.hid (implTurnedOf n b)
  obtain ⟨r1, r2⟩ := Pl.turnI_range n b
  by_cases h : 0 ≤ Pl.turnI n b
  · obtain ⟨f1, f2⟩ := Pl.turn_facts h
    by_cases hs : n + Pl.turnI n b ≤ 1000000000
    · obtain ⟨e1, e2⟩ := Pl.addI_yes h hs
      rw [e1, e2]
      clear e1 e2
      generalize Pl.turnI n b = T at *
      have hs' : ¬ 1000000000 - n < T := by omega
      go_enter Try.func68, Try.ntmps68
      go_wp2_with (go_at_call 67; refine (HT.out _).mono ?_; rintro e w1 ⟨rfl, hb⟩)
      go_ret2
      exact ⟨rfl, hb⟩
    · obtain ⟨e1, e2⟩ := Pl.addI_no (n := n) (b := b) (fun hh => hs hh.2)
      rw [e1, e2]
      clear e1 e2
      generalize Pl.turnI n b = T at *
      have hs' : 1000000000 - n < T := by omega
      go_enter Try.func68, Try.ntmps68
      go_wp2_with (go_at_call 67; refine (HT.out _).mono ?_; rintro e w1 ⟨rfl, hb⟩)
      go_ret2
      exact ⟨rfl, hb⟩
  · obtain ⟨e1, e2⟩ := Pl.addI_no (n := n) (b := b) (fun hh => h hh.1)
    rw [e1, e2]
    clear e1 e2
    generalize Pl.turnI n b = T at *
    obtain rfl : T = -1 := by omega
    go_enter Try.func68, Try.ntmps68
    go_wp2_with (go_at_call 67; refine (HT.out _).mono ?_; rintro e w1 ⟨rfl, hb⟩)
    go_ret2
    exact ⟨rfl, hb⟩

set_option maxHeartbeats 400000 in
theorem specAddedTurned (n b : Int) (w : World) :
    Calls Try.prog 74 #[.int .i64 n, .int .i64 b] w fun e w' => e = .returned (.tuple #[.int .i64 (Pl.addI n b), .bool (Pl.addB n b)]) ∧ w = w' := by
  have HT := Lib.hid (specTurnedOf n b)
  obtain ⟨r1, r2⟩ := Pl.turnI_range n b
  by_cases h : 0 ≤ Pl.turnI n b
  · obtain ⟨f1, f2⟩ := Pl.turn_facts h
    by_cases hs : n + Pl.turnI n b ≤ 1000000000
    · obtain ⟨e1, e2⟩ := Pl.addI_yes h hs
      rw [e1, e2]
      clear e1 e2
      generalize Pl.turnI n b = T at *
      go_enter Try.func74, Try.ntmps74
      go_wp2_with (go_at_call 73; refine (HT.out _).mono ?_; rintro e w1 ⟨rfl, rfl⟩)
      go_ret2
      exact ⟨rfl, rfl⟩
    · obtain ⟨e1, e2⟩ := Pl.addI_no (n := n) (b := b) (fun hh => hs hh.2)
      rw [e1, e2]
      clear e1 e2
      generalize Pl.turnI n b = T at *
      go_enter Try.func74, Try.ntmps74
      go_wp2_with (go_at_call 73; refine (HT.out _).mono ?_; rintro e w1 ⟨rfl, rfl⟩)
      go_ret2
      exact ⟨rfl, rfl⟩
  · obtain ⟨e1, e2⟩ := Pl.addI_no (n := n) (b := b) (fun hh => h hh.1)
    rw [e1, e2]
    clear e1 e2
    generalize Pl.turnI n b = T at *
    obtain rfl : T = -1 := by omega
    go_enter Try.func74, Try.ntmps74
    go_wp2_with (go_at_call 73; refine (HT.out _).mono ?_; rintro e w1 ⟨rfl, rfl⟩)
    go_ret2
    exact ⟨rfl, rfl⟩

end Go.Proofs.Ytakkjlcnfkklpaa
