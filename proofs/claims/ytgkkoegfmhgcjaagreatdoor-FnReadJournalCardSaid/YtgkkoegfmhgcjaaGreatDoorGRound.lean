/-
  TurnedOf, PalindromeOk, AddedTurned, of the program and of the model; their exact laws.
-/
import Derived.Test.YtgkkoegfmhgcjaaGreatDoorGNum
import Derived.Test.YtgkkoegfmhgcjaaGreatDoorGPlain
import Derived.Test.YtgkkoegfmhgcjaaGreatDoorGDraw
import Derived.Deep.LoopGhost
namespace Go.Proofs.YtgkkoegfmhgcjaaGreatDoor
open Go.RowKit Go.Shelf

namespace Pl

theorem valF_more {b : Nat} (hb : 1 ≤ b) : ∀ (l : List Nat) (acc : Nat), acc ≤ valF b acc l := by
  intro l
  induction l with
  | nil => intro acc; exact Nat.le_refl _
  | cons d t ih =>
    intro acc
    have h1 := ih (acc * b + d)
    have h2 : acc ≤ acc * b := Nat.le_mul_of_pos_right _ hb
    show acc ≤ valF b (acc * b + d) t
    omega

/-- The number of a row, if it may be told. -/
theorem wholeO_row {b : Nat} (hb : 1 ≤ b) : ∀ (l : List Nat) (acc : Nat), (∀ x ∈ l, x < b) → acc ≤ 1000000000 → wholeO b (l.map fun d : Nat => (d : Int)) acc = if valF b acc l ≤ 1000000000 then some (valF b acc l) else none := by
  intro l
  induction l with
  | nil => intro acc _ h; rw [show valF b acc [] = acc from rfl, if_pos h]; rfl
  | cons d t ih =>
    intro acc hm h
    have hd := hm d (by simp)
    have hge : acc * b + d ≤ valF b (acc * b + d) t := valF_more hb t _
    have e : valF b acc (d :: t) = valF b (acc * b + d) t := rfl
    have ec : ((acc * b + d : Nat) : Int) = (acc : Int) * b + (d : Int) := by rw [Int.natCast_add, Int.natCast_mul]
    rw [List.map_cons, e]
    by_cases hs : acc * b + d ≤ 1000000000
    · rw [wholeO_good _ _ _ _ ⟨by omega, by omega⟩, Int.toNat_natCast]
      exact ih _ (fun x hx => hm x (by simp [hx])) hs
    · rw [wholeO_bad _ _ _ _ (by omega), if_neg (by omega)]

theorem whole_row {b : Nat} (hb : 2 ≤ b) (hb' : b ≤ 16) {l : List Nat} (h0 : l ≠ []) (hm : ∀ x ∈ l, x < b) : whole (l.map fun d : Nat => (d : Int)) b = if valF b 0 l ≤ 1000000000 then some (valF b 0 l) else none := by
  rw [whole, if_pos ⟨by rw [baseB_iff]; omega, by simpa using h0⟩, Int.toNat_natCast]
  exact wholeO_row (by omega) l 0 hm (by omega)

theorem digI_rev (b n : Nat) : (digI b n).reverse = (digsR b n).map fun d : Nat => (d : Int) := by
  rw [digI, digs, List.map_reverse, List.reverse_reverse]

theorem whole_turned {n b : Nat} (h : okB n b = true) : wV (whole (digI b n).reverse b) = turnI n b := by
  have h' := h
  rw [okB_iff] at h'
  have hp := digsR_pos b n
  rw [digI_rev, whole_row (by omega) (by omega) (by intro h0; rw [h0] at hp; simp at hp) (fun x hx => digsR_mem (by omega) n x hx)]
  rw [show valF b 0 (digsR b n) = turnN b n from rfl]
  by_cases hs : turnN b n ≤ 1000000000
  · rw [turnI_yes n b h hs, if_pos hs]; rfl
  · rw [turnI_big n b hs, if_neg hs]; rfl

theorem turnI_ok {n b : Int} (h : 0 ≤ turnI n b) : okB n b = true := Classical.byContradiction fun hno => by
  rw [turnI_no hno] at h; omega
theorem turnI_range (n b : Int) : -1 ≤ turnI n b ∧ turnI n b ≤ 1000000000 := by
  unfold turnI; split <;> omega

/-- A number and it turned round, added. -/
def addI (n b : Int) : Int := if 0 ≤ turnI n b ∧ n + turnI n b ≤ 1000000000 then n + turnI n b else -1
def addB (n b : Int) : Bool := decide (0 ≤ turnI n b) && decide (n + turnI n b ≤ 1000000000)
theorem addI_yes {n b : Int} (h1 : 0 ≤ turnI n b) (h2 : n + turnI n b ≤ 1000000000) : addI n b = n + turnI n b ∧ addB n b = true := by
  refine ⟨by rw [addI, if_pos ⟨h1, h2⟩], by simp [addB, h1, h2]⟩
theorem addI_no {n b : Int} (h : ¬ (0 ≤ turnI n b ∧ n + turnI n b ≤ 1000000000)) : addI n b = -1 ∧ addB n b = false := by
  refine ⟨by rw [addI, if_neg h], ?_⟩
  rw [addB, ← Bool.not_eq_true, Bool.and_eq_true, decide_eq_true_eq, decide_eq_true_eq]; exact h

theorem turn_le {b n : Nat} (hb : 2 ≤ b) (hb' : b ≤ 16) (h : 1 ≤ n) : turnN b n < 16 * n := by
  have h0 := digsR_pos b n
  have h1 := turn_pow hb n
  have h2 := pow_le_of hb n h
  obtain ⟨l, hl⟩ : ∃ l, (digsR b n).length = l + 1 := ⟨(digsR b n).length - 1, by omega⟩
  rw [hl, Nat.add_sub_cancel] at h2
  rw [hl, Nat.pow_succ] at h1
  have h3 : b ^ l * b ≤ n * 16 := Nat.mul_le_mul h2 hb'
  omega

theorem turn_top {b n : Nat} (hb : 2 ≤ b) (hb' : b ≤ 16) (h : n ≤ 1000000000) : turnN b n ≤ 16000000000 := by
  by_cases h1 : 1 ≤ n
  · have := turn_le hb hb' h1; omega
  · obtain rfl : n = 0 := by omega
    rw [turnN_lt (by omega)]; omega

/-- The walk over the digits, the last one first: what has come and what is left. -/
def TurnAt (b n T left : Nat) : Prop := (left = 0 ∧ T = turnN b n) ∨ (1 ≤ left ∧ valF b T (digsR b left) = turnN b n)

theorem turnAt_start (b n : Nat) (hb : 2 ≤ b) : TurnAt b n 0 n := by
  by_cases h : 1 ≤ n
  · exact .inr ⟨h, rfl⟩
  · obtain rfl : n = 0 := by omega
    exact .inl ⟨rfl, by rw [turnN_lt (by omega)]⟩

theorem turnAt_next {b n T left : Nat} (hb : 2 ≤ b) (h : TurnAt b n T left) (h0 : 0 < left) : TurnAt b n (T * b + left % b) (left / b) ∧ T * b + left % b ≤ turnN b n := by
  rcases h with ⟨h1, _⟩ | ⟨h1, h2⟩
  · omega
  · by_cases hl : left < b
    · rw [digsR_lt hl] at h2
      have e : T * b + left = turnN b n := h2
      rw [Nat.mod_eq_of_lt hl, Nat.div_eq_of_lt hl]
      exact ⟨.inl ⟨rfl, e⟩, by omega⟩
    · rw [digsR_ge hb (by omega)] at h2
      have e : valF b (T * b + left % b) (digsR b (left / b)) = turnN b n := h2
      refine ⟨.inr ⟨(Nat.one_le_div_iff (by omega)).2 (by omega), e⟩, ?_⟩
      rw [← e]; exact valF_more (by omega) _ _

theorem turnAt_end {b n T : Nat} (h : TurnAt b n T 0) : T = turnN b n := by
  rcases h with ⟨_, h1⟩ | ⟨h1, _⟩
  · exact h1
  · omega

end Pl

set_option maxHeartbeats 400000 in
theorem implTurnedOf (n b : Int) (w : World) :
    Calls Tryz.prog 129 #[.int .i64 n, .int .i64 b] w fun e w' => e = .returned (.int .i64 (Pl.turnI n b)) ∧ Below w.heap.size w w' := by
  by_cases h : Pl.okB n b = true
  · obtain ⟨x, k, rfl, rfl, h1, h2, h3⟩ := Pl.okB_nat h
    have HD := Lib.hid (digitsOfYes x k h1 h2 h3)
    have HW := Lib.hid (Pl.whole_turned h)
    have hlen := Pl.digI_len30 h1 h3
    generalize Pl.digI k x = L at *
    generalize Pl.turnI (x : Int) (k : Int) = T at *
    go_enter Tryz.func129, Tryz.ntmps129
    go_wp2_with (go_at_call 79; refine (hasDigits _ _ _).mono ?_; rintro e w' ⟨rfl, rfl⟩; rw [h])
    refine (HD.out _).mono ?_
    rintro e w1 ⟨v, rfl, r1, b1⟩
    go_wp2_with fail
    refine (reversed _ L _ r1.ints (by omega)).mono ?_
    rintro e w2 ⟨u, rfl, r2, b2⟩
    go_wp2_with fail
    refine (implWholeOf _ L.reverse _ _ r2.ints (by rw [List.length_reverse]; omega)).mono ?_
    rintro e w3 ⟨rfl, rfl⟩
    go_wp2
    go_ret
    exact ⟨ret_int HW.out, b1.trans (b2.mono b1.size)⟩
  · rw [Pl.turnI_no h]
    have h' : Pl.okB n b = false := by simpa using h
    clear h
    go_enter Tryz.func129, Tryz.ntmps129
    go_wp2_with (go_at_call 79; refine (hasDigits _ _ _).mono ?_; rintro e w' ⟨rfl, rfl⟩; rw [h'])
    go_ret
    exact ⟨rfl, Below.refl _ _⟩

set_option maxHeartbeats 1000000 in
theorem l6Turned (x b : Nat) (hb : 2 ≤ b) (hb' : b ≤ 16) (hx : x ≤ 1000000000) (w : World) :
    Calls Tryz.prog 137 #[.int .i64 x, .int .i64 b] w fun e w' => e = .returned (.int .i64 ((Pl.turnN b x : Nat) : Int)) ∧ w = w' := by
  have htop := Pl.turn_top hb hb' hx
  have HS := Lib.hid (Pl.turnAt_start b x hb)
  have hne : ((b : Int) == 0) = false := by simp; omega
  obtain ⟨R, hR⟩ : ∃ R, Pl.turnN b x = R := ⟨_, rfl⟩
  have HR := Lib.hid hR
  rw [hR] at htop ⊢
  clear hR
  go_enter Tryz.func137, Tryz.ntmps137
  go_wp2
  go_loop [5, 6] (fun t l => ∃ (T left : Nat), left ≤ x ∧ T ≤ 16000000000 ∧ t = .int .i64 T ∧ l = .int .i64 left ∧ Pl.TurnAt b x T left) (fun _ l => (intOf l).toNat)
  case atStart => exact ⟨0, x, Nat.le_refl _, by omega, rfl, rfl, HS.out⟩
  case round =>
    obtain ⟨T, left, hl, hT, rfl, rfl, hAt⟩ := hrel
    by_cases hlt : 0 < left
    · obtain ⟨hA, hle⟩ := Pl.turnAt_next hb hAt hlt
      rw [HR.out] at hle
      have HA := Lib.hid hA
      have hq1 : left / b < left := Nat.div_lt_self hlt (by omega)
      have hr1 : left % b < 16 := Nat.lt_of_lt_of_le (Nat.mod_lt _ (by omega)) hb'
      have e1 : ((left : Int)).tdiv (b : Int) = ((left / b : Nat) : Int) := rfl
      have e2 : ((left : Int)).tmod (b : Int) = ((left % b : Nat) : Int) := rfl
      have hi : (0 : Int) < (left : Int) := by omega
      have hTb : T * b ≤ 16000000000 := Nat.le_trans (Nat.le_add_right _ _) (Nat.le_trans hle htop)
      clear hA hAt
      generalize left / b = q at *
      generalize left % b = r at *
      have e3 : IntKind.i64.wrap ((T : Int) * (b : Int)) = ((T * b : Nat) : Int) := by
        rw [← Int.natCast_mul]; exact IntWalk.i64_in _ (by omega)
      have e4 : IntKind.i64.wrap (((T * b : Nat) : Int) + ((r : Nat) : Int)) = ((T * b + r : Nat) : Int) := by
        rw [← Int.natCast_add]; exact IntWalk.i64_in _ (by omega)
      have e5 : IntKind.i64.wrap ((q : Nat) : Int) = ((q : Nat) : Int) := IntWalk.i64_in _ (by omega)
      generalize hM : T * b + r = M at *
      clear hM
      generalize T * b = P at *
      go_wp2
      go_round
      case rel => exact ⟨M, q, by omega, by omega, rfl, rfl, HA.out⟩
      case measure => simp [intOf]; omega
    · obtain rfl : left = 0 := by omega
      have HE := Lib.hid (Pl.turnAt_end hAt)
      clear hAt
      go_wp2
      go_ret
      exact ⟨ret_int (by rw [HE.out, HR.out]), rfl⟩

theorem l6At {n b : Int} (h : Pl.okB n b = true) (w : World) :
    Calls Tryz.prog 137 #[.int .i64 n, .int .i64 b] w fun e w' => e = .returned (.int .i64 ((Pl.turnN b.toNat n.toNat : Nat) : Int)) ∧ w = w' := by
  obtain ⟨x, k, rfl, rfl, h1, h2, h3⟩ := Pl.okB_nat h
  exact l6Turned x k h1 h2 h3 w

set_option maxHeartbeats 400000 in
theorem specTurnedOf (n b : Int) (w : World) :
    Calls Tryz.prog 106 #[.int .i64 n, .int .i64 b] w fun e w' => e = .returned (.int .i64 (Pl.turnI n b)) ∧ w = w' := by
  by_cases hn : (decide (0 ≤ n) && decide (n ≤ 1000000000)) = true
  · by_cases hB : Pl.baseB b = true
    · have h : Pl.okB n b = true := by rw [okB_halves, hn, hB]; rfl
      have H := Lib.hid (l6At h)
      have HT : Hid (Pl.turnI n b = if ((Pl.turnN b.toNat n.toNat : Nat) : Int) ≤ 1000000000 then ((Pl.turnN b.toNat n.toNat : Nat) : Int) else -1) := Lib.hid (by
        unfold Pl.turnI
        by_cases hs : Pl.turnN b.toNat n.toNat ≤ 1000000000
        · rw [if_pos ⟨h, hs⟩, if_pos (by omega)]
        · rw [if_neg fun hh => hs hh.2, if_neg (by omega)])
      rw [HT.out]
      clear h
      generalize ((Pl.turnN b.toNat n.toNat : Nat) : Int) = T at *
      by_cases hs : T ≤ 1000000000
      · rw [if_pos hs]
        go_enter Tryz.func106, Tryz.ntmps106
        go_wp2_with (first | (go_at_call 49; refine (specIn _ _ _ _).mono ?_; rintro e w' ⟨rfl, rfl⟩; rw [hn]) | (go_at_call 50; refine (specBaseOk _ _).mono ?_; rintro e w' ⟨rfl, rfl⟩; rw [hB]) | (go_at_call 137; refine (H.out _).mono ?_; rintro e w' ⟨rfl, rfl⟩))
        go_ret
        exact ⟨rfl, rfl⟩
      · rw [if_neg hs]
        go_enter Tryz.func106, Tryz.ntmps106
        go_wp2_with (first | (go_at_call 49; refine (specIn _ _ _ _).mono ?_; rintro e w' ⟨rfl, rfl⟩; rw [hn]) | (go_at_call 50; refine (specBaseOk _ _).mono ?_; rintro e w' ⟨rfl, rfl⟩; rw [hB]) | (go_at_call 137; refine (H.out _).mono ?_; rintro e w' ⟨rfl, rfl⟩))
        go_ret
        exact ⟨rfl, rfl⟩
    · have h : ¬ Pl.okB n b = true := by rw [okB_halves, hn]; simpa using hB
      have hB' : Pl.baseB b = false := by simpa using hB
      rw [Pl.turnI_no h]
      clear h hB
      go_enter Tryz.func106, Tryz.ntmps106
      go_wp2_with (first | (go_at_call 49; refine (specIn _ _ _ _).mono ?_; rintro e w' ⟨rfl, rfl⟩; rw [hn]) | (go_at_call 50; refine (specBaseOk _ _).mono ?_; rintro e w' ⟨rfl, rfl⟩; rw [hB']))
      go_ret
      exact ⟨rfl, rfl⟩
  · have h : ¬ Pl.okB n b = true := by rw [okB_halves]; simp [hn]
    have hn' : (decide (0 ≤ n) && decide (n ≤ 1000000000)) = false := by simpa using hn
    rw [Pl.turnI_no h]
    clear h hn
    go_enter Tryz.func106, Tryz.ntmps106
    go_wp2_with (first | (go_at_call 49; refine (specIn _ _ _ _).mono ?_; rintro e w' ⟨rfl, rfl⟩; rw [hn']))
    go_ret
    exact ⟨rfl, rfl⟩

set_option maxHeartbeats 400000 in
theorem implPalindromeOk (n b : Int) (w : World) :
    Calls Tryz.prog 151 #[.int .i64 n, .int .i64 b] w fun e w' => e = .returned (.bool (Pl.palB n b)) ∧ Below w.heap.size w w' := by
  by_cases h : Pl.okB n b = true
  · have hp : Pl.palB n b = (Pl.turnI n b == n) := by
      have h0 : 0 ≤ n := ((Pl.okB_iff n b).1 h).2.1
      rw [Pl.palB_turn, Bool.eq_iff_iff]; simp [h0]
    rw [hp]
    clear hp
    have HT := Lib.hid (implTurnedOf n b)
    generalize Pl.turnI n b = T at *
    go_enter Tryz.func151, Tryz.ntmps151
    go_wp2_with (first | (go_at_call 79; refine (hasDigits _ _ _).mono ?_; rintro e w' ⟨rfl, rfl⟩; rw [h]) | (go_at_call 129; refine (HT.out _).mono ?_; rintro e w1 ⟨rfl, hb⟩))
    go_ret
    exact ⟨rfl, hb⟩
  · rw [Pl.palB_no h]
    have h' : Pl.okB n b = false := by simpa using h
    clear h
    go_enter Tryz.func151, Tryz.ntmps151
    go_wp2_with (first | (go_at_call 79; refine (hasDigits _ _ _).mono ?_; rintro e w' ⟨rfl, rfl⟩; rw [h']))
    go_ret
    exact ⟨rfl, Below.refl _ _⟩

set_option maxHeartbeats 400000 in
theorem specPalindromeOk (n b : Int) (w : World) :
    Calls Tryz.prog 70 #[.int .i64 n, .int .i64 b] w fun e w' => e = .returned (.bool (Pl.palB n b)) ∧ w = w' := by
  rw [Pl.palB_turn]
  have HT := Lib.hid (specTurnedOf n b)
  generalize Pl.turnI n b = T at *
  by_cases h : 0 ≤ n
  · have e : (decide (0 ≤ n) && decide (T = n)) = (T == n) := by rw [Bool.eq_iff_iff]; simp [h]
    rw [e]
    clear e
    go_enter Tryz.func70, Tryz.ntmps70
    go_wp2_with (go_at_call 106; refine (HT.out _).mono ?_; rintro e w' ⟨rfl, rfl⟩)
    go_ret
    exact ⟨rfl, rfl⟩
  · have e : (decide (0 ≤ n) && decide (T = n)) = false := by simp [h]
    rw [e]
    clear e
    go_enter Tryz.func70, Tryz.ntmps70
    go_wp2_with (go_at_call 106; refine (HT.out _).mono ?_; rintro e w' ⟨rfl, rfl⟩)
    go_ret
    exact ⟨rfl, rfl⟩

/-- What the walks of AddedTurned ask of a number turned round. -/
theorem Pl.turn_facts {n b : Int} (h : 0 ≤ Pl.turnI n b) : 0 ≤ n ∧ n ≤ 1000000000 := ((Pl.okB_iff n b).1 (Pl.turnI_ok h)).2

set_option maxHeartbeats 400000 in
theorem implAddedTurned (n b : Int) (w : World) :
    Calls Tryz.prog 130 #[.int .i64 n, .int .i64 b] w fun e w' => e = .returned (.tuple #[.int .i64 (Pl.addI n b), .bool (Pl.addB n b)]) ∧ Below w.heap.size w w' := by
  have HT := Lib.hid (implTurnedOf n b)
  obtain ⟨r1, r2⟩ := Pl.turnI_range n b
  by_cases h : 0 ≤ Pl.turnI n b
  · obtain ⟨f1, f2⟩ := Pl.turn_facts h
    by_cases hs : n + Pl.turnI n b ≤ 1000000000
    · obtain ⟨e1, e2⟩ := Pl.addI_yes h hs
      rw [e1, e2]
      clear e1 e2
      generalize Pl.turnI n b = T at *
      have hs' : ¬ 1000000000 - n < T := by omega
      go_enter Tryz.func130, Tryz.ntmps130
      go_wp2_with (go_at_call 129; refine (HT.out _).mono ?_; rintro e w1 ⟨rfl, hb⟩)
      go_ret2
      exact ⟨rfl, hb⟩
    · obtain ⟨e1, e2⟩ := Pl.addI_no (n := n) (b := b) (fun hh => hs hh.2)
      rw [e1, e2]
      clear e1 e2
      generalize Pl.turnI n b = T at *
      have hs' : 1000000000 - n < T := by omega
      go_enter Tryz.func130, Tryz.ntmps130
      go_wp2_with (go_at_call 129; refine (HT.out _).mono ?_; rintro e w1 ⟨rfl, hb⟩)
      go_ret2
      exact ⟨rfl, hb⟩
  · obtain ⟨e1, e2⟩ := Pl.addI_no (n := n) (b := b) (fun hh => h hh.1)
    rw [e1, e2]
    clear e1 e2
    generalize Pl.turnI n b = T at *
    obtain rfl : T = -1 := by omega
    go_enter Tryz.func130, Tryz.ntmps130
    go_wp2_with (go_at_call 129; refine (HT.out _).mono ?_; rintro e w1 ⟨rfl, hb⟩)
    go_ret2
    exact ⟨rfl, hb⟩

set_option maxHeartbeats 400000 in
theorem specAddedTurned (n b : Int) (w : World) :
    Calls Tryz.prog 110 #[.int .i64 n, .int .i64 b] w fun e w' => e = .returned (.tuple #[.int .i64 (Pl.addI n b), .bool (Pl.addB n b)]) ∧ w = w' := by
  have HT := Lib.hid (specTurnedOf n b)
  obtain ⟨r1, r2⟩ := Pl.turnI_range n b
  by_cases h : 0 ≤ Pl.turnI n b
  · obtain ⟨f1, f2⟩ := Pl.turn_facts h
    by_cases hs : n + Pl.turnI n b ≤ 1000000000
    · obtain ⟨e1, e2⟩ := Pl.addI_yes h hs
      rw [e1, e2]
      clear e1 e2
      generalize Pl.turnI n b = T at *
      go_enter Tryz.func110, Tryz.ntmps110
      go_wp2_with (go_at_call 106; refine (HT.out _).mono ?_; rintro e w1 ⟨rfl, rfl⟩)
      go_ret2
      exact ⟨rfl, rfl⟩
    · obtain ⟨e1, e2⟩ := Pl.addI_no (n := n) (b := b) (fun hh => hs hh.2)
      rw [e1, e2]
      clear e1 e2
      generalize Pl.turnI n b = T at *
      go_enter Tryz.func110, Tryz.ntmps110
      go_wp2_with (go_at_call 106; refine (HT.out _).mono ?_; rintro e w1 ⟨rfl, rfl⟩)
      go_ret2
      exact ⟨rfl, rfl⟩
  · obtain ⟨e1, e2⟩ := Pl.addI_no (n := n) (b := b) (fun hh => h hh.1)
    rw [e1, e2]
    clear e1 e2
    generalize Pl.turnI n b = T at *
    obtain rfl : T = -1 := by omega
    go_enter Tryz.func110, Tryz.ntmps110
    go_wp2_with (go_at_call 106; refine (HT.out _).mono ?_; rintro e w1 ⟨rfl, rfl⟩)
    go_ret2
    exact ⟨rfl, rfl⟩

end Go.Proofs.YtgkkoegfmhgcjaaGreatDoor

namespace Go.Proofs.YtgkkoegfmhgcjaaGreatDoor
open Go.RowKit Go.Shelf

namespace Pl

/-- Steps and palindrome, as the functions answer. -/
def stpA (n b : Int) : Option (Nat × Nat) := if okB n b = true then stepsO b.toNat n.toNat else none
def stK : Option (Nat × Nat) → Int | some q => (q.1 : Int) | none => -1
def stL : Option (Nat × Nat) → Int | some q => (q.2 : Int) | none => -1
def stB : Option (Nat × Nat) → Bool | some _ => true | none => false
theorem stpA_yes (n b : Nat) (h : okB n b = true) : stpA n b = stepsO b n := by rw [stpA, if_pos h]; rfl
theorem stpA_no {n b : Int} (h : ¬ okB n b = true) : stpA n b = none := by rw [stpA, if_neg h]

/-- So many steps on, at a number. -/
def StepAt (b x s m : Nat) : Prop := stepsO b x = (stepsO b m).map fun q => (q.1 + s, q.2)

theorem stepAt_start (b x : Nat) : StepAt b x 0 x := by
  unfold StepAt
  cases stepsO b x <;> rfl
theorem stepAt_pal {b x s m : Nat} (h : StepAt b x s m) (hp : turnN b m = m) : stepsO b x = some (s, m) := by
  rw [h, stepsO_pal hp]; simp
theorem stepAt_more {b x s m : Nat} (hb : 2 ≤ b) (h : StepAt b x s m) (hp : turnN b m ≠ m) (hs : m + turnN b m ≤ 1000000000) : StepAt b x (s + 1) (m + turnN b m) := by
  unfold StepAt at h ⊢
  rw [h, stepsO_more hb hp hs, Option.map_map]
  congr 1
  funext q
  simp [Nat.add_assoc, Nat.add_comm 1 s]
theorem stepAt_big {b x s m : Nat} (h : StepAt b x s m) (hp : turnN b m ≠ m) (hs : ¬ m + turnN b m ≤ 1000000000) : stepsO b x = none := by
  rw [h, stepsO_big hp hs]; rfl

theorem added_yes {b m : Nat} (h : okB m b = true) (hs : m + turnN b m ≤ 1000000000) : addI m b = ((m + turnN b m : Nat) : Int) ∧ addB m b = true := by
  have e := turnI_yes m b h (by omega)
  obtain ⟨e1, e2⟩ := addI_yes (n := m) (b := b) (by rw [e]; omega) (by rw [e]; omega)
  exact ⟨by rw [e1, e]; omega, e2⟩
theorem added_no {b m : Nat} (h : okB m b = true) (hs : ¬ m + turnN b m ≤ 1000000000) : addI m b = -1 ∧ addB m b = false := by
  refine addI_no fun hh => hs ?_
  by_cases hb : turnN b m ≤ 1000000000
  · rw [turnI_yes m b h hb] at hh; omega
  · rw [turnI_big m b hb] at hh; omega
theorem grows {b m : Nat} (hb : 2 ≤ b) (hp : turnN b m ≠ m) : 1 ≤ turnN b m := by
  refine turn_pos hb (Classical.byContradiction fun hz => hp ?_)
  obtain rfl : m = 0 := by omega
  exact turnN_lt (by omega)

end Pl

def toldM : Value → Nat → Nat
  | .bool true, k => 1000000001 - k
  | _, _ => 0

theorem ret_steps {a b c d : Int} {x y : Bool} (h1 : a = b) (h2 : c = d) (h3 : x = y) : Ending.returned (.tuple #[.int .i64 a, .int .i64 c, .bool x]) = .returned (.tuple #[.int .i64 b, .int .i64 d, .bool y]) := by rw [h1, h2, h3]

set_option maxHeartbeats 1000000 in
theorem implPalStepsYes (x b : Nat) (hb : 2 ≤ b) (hb' : b ≤ 16) (hx : x ≤ 1000000000) (w : World) :
    Calls Tryz.prog 155 #[.int .i64 x, .int .i64 b] w fun e w' => e = .returned (.tuple #[.int .i64 (Pl.stK (Pl.stepsO b x)), .int .i64 (Pl.stL (Pl.stepsO b x)), .bool (Pl.stB (Pl.stepsO b x))]) ∧ Below w.heap.size w w' := by
  have hok : Pl.okB x b = true := by rw [Pl.okB_iff]; omega
  have HS := Lib.hid (Pl.stepAt_start b x)
  go_enter Tryz.func155, Tryz.ntmps155
  go_wp2_with (go_at_call 79; refine (hasDigits _ _ _).mono ?_; rintro e w' ⟨rfl, rfl⟩; rw [hok])
  go_loopw [7, 8, 9] (fun sv mv tv wr => ∃ (s : Nat) (M : Int) (t : Bool), sv = .int .i64 s ∧ mv = .int .i64 M ∧ tv = .bool t ∧ ((t = true ∧ ∃ m : Nat, M = (m : Int) ∧ m ≤ 1000000000 ∧ s ≤ m ∧ Pl.StepAt b x s m) ∨ (t = false ∧ Pl.stepsO b x = none)) ∧ Below w.heap.size w wr) (fun _ mv tv _ => toldM tv (intOf mv).toNat)
  case atStart => exact ⟨0, x, true, rfl, rfl, rfl, .inl ⟨rfl, x, rfl, hx, by omega, HS.out⟩, Below.refl _ _⟩
  case round =>
    clear hok HS
    obtain ⟨s, M, t, rfl, rfl, rfl, hcase, hbw⟩ := hrel
    rcases hcase with ⟨rfl, m, rfl, hm, hsm, hAt⟩ | ⟨rfl, hnone⟩
    · have hokm : Pl.okB m b = true := by rw [Pl.okB_iff]; omega
      have HA := Lib.hid hAt
      clear hAt
      by_cases hp : Pl.turnN b m = m
      · have hpal : Pl.palB m b = true := by rw [Pl.palB_yes m b hokm]; simp [hp]
        have HE := Lib.hid (Pl.stepAt_pal HA.out hp)
        clear hp hokm
        go_wp2_with (go_at_call 151; refine (implPalindromeOk _ _ _).mono ?_; rintro e w1 ⟨rfl, b1⟩; rw [hpal])
        go_ret3
        exact ⟨ret_steps (by rw [HE.out]; rfl) (by rw [HE.out]; rfl) (by rw [HE.out]; rfl), hbw.trans (b1.mono hbw.size)⟩
      · have hpal : Pl.palB m b = false := by rw [Pl.palB_yes m b hokm]; simp [hp]
        by_cases hs : m + Pl.turnN b m ≤ 1000000000
        · obtain ⟨e1, e2⟩ := Pl.added_yes hokm hs
          have HN := Lib.hid (Pl.stepAt_more hb HA.out hp hs)
          have hg := Pl.grows hb hp
          have hmn : m + 1 ≤ m + Pl.turnN b m := by omega
          have e3 := Lib.hid e1
          clear hp hokm e1 hg
          generalize m + Pl.turnN b m = m' at *
          go_wp2_with (first | (go_at_call 151; refine (implPalindromeOk _ _ _).mono ?_; rintro e w1 ⟨rfl, b1⟩; rw [hpal]) | (go_at_call 130; refine (implAddedTurned _ _ _).mono ?_; rintro e w2 ⟨rfl, b2⟩; rw [e3.out, e2]))
          go_roundw
          case rel =>
            have c1 : Below w.heap.size w w1 := hbw.trans (b1.mono hbw.size)
            exact ⟨s + 1, _, true, by go_num, rfl, rfl, .inl ⟨rfl, m', rfl, hs, by omega, HN.out⟩, c1.trans (b2.mono c1.size)⟩
          case measure => simp [toldM, intOf]; omega
        · obtain ⟨e1, e2⟩ := Pl.added_no hokm hs
          have HN := Lib.hid (Pl.stepAt_big HA.out hp hs)
          clear hp hokm hs
          go_wp2_with (first | (go_at_call 151; refine (implPalindromeOk _ _ _).mono ?_; rintro e w1 ⟨rfl, b1⟩; rw [hpal]) | (go_at_call 130; refine (implAddedTurned _ _ _).mono ?_; rintro e w2 ⟨rfl, b2⟩; rw [e1, e2]))
          go_roundw
          case rel =>
            have c1 : Below w.heap.size w w1 := hbw.trans (b1.mono hbw.size)
            exact ⟨s + 1, _, false, by go_num, rfl, rfl, .inr ⟨rfl, HN.out⟩, c1.trans (b2.mono c1.size)⟩
          case measure => simp [toldM, intOf]; omega
    · have HN := Lib.hid hnone
      clear hnone
      go_wp2
      go_ret3
      exact ⟨ret_steps (by rw [HN.out]; rfl) (by rw [HN.out]; rfl) (by rw [HN.out]; rfl), hbw⟩

set_option maxHeartbeats 400000 in
theorem implPalSteps (n b : Int) (w : World) :
    Calls Tryz.prog 155 #[.int .i64 n, .int .i64 b] w fun e w' => e = .returned (.tuple #[.int .i64 (Pl.stK (Pl.stpA n b)), .int .i64 (Pl.stL (Pl.stpA n b)), .bool (Pl.stB (Pl.stpA n b))]) ∧ Below w.heap.size w w' := by
  by_cases h : Pl.okB n b = true
  · obtain ⟨x, k, rfl, rfl, h1, h2, h3⟩ := Pl.okB_nat h
    rw [Pl.stpA_yes x k h]
    exact implPalStepsYes x k h1 h2 h3 w
  · rw [Pl.stpA_no h]
    have h' : Pl.okB n b = false := by simpa using h
    clear h
    go_enter Tryz.func155, Tryz.ntmps155
    go_wp2_with (go_at_call 79; refine (hasDigits _ _ _).mono ?_; rintro e w' ⟨rfl, rfl⟩; rw [h'])
    go_loopw [7, 8, 9] (fun sv mv tv wr => sv = .int .i64 0 ∧ mv = .int .i64 n ∧ tv = .bool false ∧ wr = w) (fun _ _ _ _ => 0)
    case atStart => exact ⟨rfl, rfl, rfl, rfl⟩
    case round =>
      obtain ⟨rfl, rfl, rfl, rfl⟩ := hrel
      go_wp2
      go_ret3
      exact ⟨rfl, Below.refl _ _⟩

set_option maxHeartbeats 1000000 in
theorem specPalStepsYes (x b : Nat) (hb : 2 ≤ b) (hb' : b ≤ 16) (hx : x ≤ 1000000000) (w : World) :
    Calls Tryz.prog 74 #[.int .i64 x, .int .i64 b] w fun e w' => e = .returned (.tuple #[.int .i64 (Pl.stK (Pl.stepsO b x)), .int .i64 (Pl.stL (Pl.stepsO b x)), .bool (Pl.stB (Pl.stepsO b x))]) ∧ w = w' := by
  have hin : (decide (0 ≤ (x : Int)) && decide ((x : Int) ≤ 1000000000)) = true := by simp; omega
  have hB : Pl.baseB b = true := by rw [Pl.baseB_iff]; omega
  have HS := Lib.hid (Pl.stepAt_start b x)
  go_enter Tryz.func74, Tryz.ntmps74
  go_wp2_with (first | (go_at_call 49; refine (specIn _ _ _ _).mono ?_; rintro e w' ⟨rfl, rfl⟩; rw [hin]) | (go_at_call 50; refine (specBaseOk _ _).mono ?_; rintro e w' ⟨rfl, rfl⟩; rw [hB]))
  go_loop [0, 7, 8, 9] (fun mv sv _ _ => ∃ (s m : Nat), sv = .int .i64 s ∧ mv = .int .i64 m ∧ m ≤ 1000000000 ∧ s ≤ m ∧ Pl.StepAt b x s m) (fun mv _ _ _ => 1000000001 - (intOf mv).toNat)
  case atStart => exact ⟨0, x, rfl, rfl, hx, by omega, HS.out⟩
  case round =>
    clear hin hB HS
    obtain ⟨s, m, rfl, rfl, hm, hsm, hAt⟩ := hrel
    have hokm : Pl.okB m b = true := by rw [Pl.okB_iff]; omega
    have HA := Lib.hid hAt
    clear hAt
    by_cases hp : Pl.turnN b m = m
    · have hpal : Pl.palB m b = true := by rw [Pl.palB_yes m b hokm]; simp [hp]
      have HE := Lib.hid (Pl.stepAt_pal HA.out hp)
      clear hp hokm
      go_wp2_with (go_at_call 70; refine (specPalindromeOk _ _ _).mono ?_; rintro e w1 ⟨rfl, rfl⟩; rw [hpal])
      go_ret3
      exact ⟨ret_steps (by rw [HE.out]; rfl) (by rw [HE.out]; rfl) (by rw [HE.out]; rfl), rfl⟩
    · have hpal : Pl.palB m b = false := by rw [Pl.palB_yes m b hokm]; simp [hp]
      by_cases hs : m + Pl.turnN b m ≤ 1000000000
      · obtain ⟨e1, e2⟩ := Pl.added_yes hokm hs
        have HN := Lib.hid (Pl.stepAt_more hb HA.out hp hs)
        have hg := Pl.grows hb hp
        have hmn : m + 1 ≤ m + Pl.turnN b m := by omega
        have e3 := Lib.hid e1
        clear hp hokm e1 hg
        generalize m + Pl.turnN b m = m' at *
        go_wp2_with (first | (go_at_call 70; refine (specPalindromeOk _ _ _).mono ?_; rintro e w1 ⟨rfl, rfl⟩; rw [hpal]) | (go_at_call 110; refine (specAddedTurned _ _ _).mono ?_; rintro e w2 ⟨rfl, rfl⟩; rw [e3.out, e2]))
        go_round
        case rel => exact ⟨s + 1, m', by go_num, rfl, hs, by omega, HN.out⟩
        case measure => simp [intOf]; omega
      · obtain ⟨e1, e2⟩ := Pl.added_no hokm hs
        have HN := Lib.hid (Pl.stepAt_big HA.out hp hs)
        clear hp hokm hs
        go_wp2_with (first | (go_at_call 70; refine (specPalindromeOk _ _ _).mono ?_; rintro e w1 ⟨rfl, rfl⟩; rw [hpal]) | (go_at_call 110; refine (specAddedTurned _ _ _).mono ?_; rintro e w2 ⟨rfl, rfl⟩; rw [e1, e2]))
        go_ret3
        exact ⟨ret_steps (by rw [HN.out]; rfl) (by rw [HN.out]; rfl) (by rw [HN.out]; rfl), rfl⟩

set_option maxHeartbeats 400000 in
theorem specPalSteps (n b : Int) (w : World) :
    Calls Tryz.prog 74 #[.int .i64 n, .int .i64 b] w fun e w' => e = .returned (.tuple #[.int .i64 (Pl.stK (Pl.stpA n b)), .int .i64 (Pl.stL (Pl.stpA n b)), .bool (Pl.stB (Pl.stpA n b))]) ∧ w = w' := by
  by_cases hn : (decide (0 ≤ n) && decide (n ≤ 1000000000)) = true
  · by_cases hB : Pl.baseB b = true
    · have h : Pl.okB n b = true := by rw [okB_halves, hn, hB]; rfl
      obtain ⟨x, k, rfl, rfl, h1, h2, h3⟩ := Pl.okB_nat h
      rw [Pl.stpA_yes x k h]
      exact specPalStepsYes x k h1 h2 h3 w
    · have h : ¬ Pl.okB n b = true := by rw [okB_halves, hn]; simpa using hB
      have hB' : Pl.baseB b = false := by simpa using hB
      rw [Pl.stpA_no h]
      clear h hB
      go_enter Tryz.func74, Tryz.ntmps74
      go_wp2_with (first | (go_at_call 49; refine (specIn _ _ _ _).mono ?_; rintro e w' ⟨rfl, rfl⟩; rw [hn]) | (go_at_call 50; refine (specBaseOk _ _).mono ?_; rintro e w' ⟨rfl, rfl⟩; rw [hB']))
      go_ret3
      exact ⟨rfl, rfl⟩
  · have h : ¬ Pl.okB n b = true := by rw [okB_halves]; simp [hn]
    have hn' : (decide (0 ≤ n) && decide (n ≤ 1000000000)) = false := by simpa using hn
    rw [Pl.stpA_no h]
    clear h hn
    go_enter Tryz.func74, Tryz.ntmps74
    go_wp2_with (first | (go_at_call 49; refine (specIn _ _ _ _).mono ?_; rintro e w' ⟨rfl, rfl⟩; rw [hn']))
    go_ret3
    exact ⟨rfl, rfl⟩

end Go.Proofs.YtgkkoegfmhgcjaaGreatDoor

namespace Go.Proofs.YtgkkoegfmhgcjaaGreatDoor
open Go.RowKit Go.Shelf

set_option maxRecDepth 100000 in
set_option maxHeartbeats 2000000 in
theorem firstAgain (t b x mu p : Nat) (hR : Pl.RuleOk t b) (hx : x ≤ 1000000000) (hrho : Pl.Rho (Pl.nextN t b) x mu p) (w : World) :
    Calls Tryz.prog 177 #[.agg #[.int .i64 t, .int .i64 b], .int .i64 x] w fun e w' => e = .returned (.int .i64 (Pl.iter (Pl.nextN t b) mu x)) ∧ Below w.heap.size w w' := by
  obtain ⟨hM1, hM2⟩ := Pl.meetAt_ok hrho
  have HM := Lib.hid hM2
  clear hM2
  generalize Pl.meetAt mu p = M at *
  have hle := Pl.iter_next_le hR hx
  go_enter Tryz.func177, Tryz.ntmps177
  go_wp2_with fail
  obtain ⟨c0, c1, hB, hlt⟩ := rule_box (t := (t : Int)) (b := (b : Int)) (Below.refl _ (w.alloc (.cells #[.int .i64 t, .int .i64 b] 135)))
  generalize (w.alloc (.cells #[.int .i64 t, .int .i64 b] 135)) = w1 at *
  have hx2 : Pl.nextN t b x ≤ 1000000000 := Nat.le_trans (Pl.next_le hR hx) (by omega)
  refine wp_region_calm mixed (by kernel_rfl) ?_
  repeat (first
    | go_big_quiet_skip
    | (go_big_quiet_want
       first
         | (go_big_quiet_op; go_big_quiet_on)
         | (apply Exists.intro
            refine ⟨fun W hW => ?_, ?_⟩
            · have d0 := Below.cell hW hlt c0
              have d1 := Below.cell hW hlt c1
              go_simp
              first | done | exact rfl
            simp only [Act.put, List.setIfInBounds_toArray, List.set_cons_zero, List.set_cons_succ]
            go_big_quiet_on)
         | (go_big_quiet_op
            apply Exists.intro
            refine ⟨fun W hW => Calm.call hW (ruleNext t b _ hR (by first | exact hx | exact hx2) _), ?_⟩
            go_big_quiet_on)))
  refine wpQuiet_nil ?_
  intro W hW
  have b1 : Below (w.heap.size + 1) w1 W := hW.mono (by omega)
  clear hW hx2
  go_wp2_with fail
  go_loopg [5, 6] (M - 1) (fun g sl fa wr => ∃ i, 1 ≤ i ∧ i + g = M ∧ sl = .int .i64 (Pl.iter (Pl.nextN t b) i x) ∧ fa = .int .i64 (Pl.iter (Pl.nextN t b) (i + i) x) ∧ Below (w.heap.size + 1) w1 wr)
  case atStart => exact ⟨1, by omega, by omega, rfl, rfl, b1⟩
  case round =>
    obtain ⟨i, hi1, hig, rfl, rfl, hbw⟩ := hrel
    have d0 := hbw.cell (p := ⟨w.heap.size, 0, none⟩) (by simp)
    have d1 := hbw.cell (p := ⟨w.heap.size, 1, none⟩) (by simp)
    rw [c0] at d0
    rw [c1] at d1
    have hlt2 : w.heap.size < wr.heap.size := Nat.lt_of_lt_of_le hlt hbw.size
    have hl1 := (hle i).1
    have hl2 := (hle (i + i)).1
    have hl3 : Pl.nextN t b (Pl.iter (Pl.nextN t b) (i + i) x) ≤ 1000000000 := Nat.le_trans (Pl.next_le hR hl2) (by omega)
    by_cases heq : Pl.iter (Pl.nextN t b) i x = Pl.iter (Pl.nextN t b) (i + i) x
    · obtain ⟨g1, g2⟩ := hrho.same hi1 heq
      have HE := Lib.hid heq
      rw [← heq]
      clear heq hl2 hl3 hl1
      go_wp2_with fail
      go_loopg [5, 6] mu (fun g sl fa wr => ∃ j, j + g = mu ∧ sl = .int .i64 (Pl.iter (Pl.nextN t b) j x) ∧ fa = .int .i64 (Pl.iter (Pl.nextN t b) (j + i) x) ∧ Below (w.heap.size + 1) w1 wr)
      case atStart => exact ⟨0, by omega, rfl, by rw [Nat.zero_add], hbw⟩
      case round =>
        clear d0 d1 hbw
        rename_i wr0 _
        obtain ⟨j, hjg, rfl, rfl, hbw⟩ := hrel
        have d0 := hbw.cell (p := ⟨w.heap.size, 0, none⟩) (by simp)
        have d1 := hbw.cell (p := ⟨w.heap.size, 1, none⟩) (by simp)
        rw [c0] at d0
        rw [c1] at d1
        have hl1 := (hle j).1
        have hl2 := (hle (j + i)).1
        by_cases hj : j = mu
        · subst hj
          have heq := hrho.same_of (Nat.le_refl j) g2
          rw [← heq]
          clear heq HE
          go_wp2_with fail
          go_ret
          exact ⟨rfl, hB.trans (hbw.mono (by omega))⟩
        · have hne : ((Pl.iter (Pl.nextN t b) j x : Int) != (Pl.iter (Pl.nextN t b) (j + i) x : Int)) = true := by
            have : ¬ Pl.iter (Pl.nextN t b) j x = Pl.iter (Pl.nextN t b) (j + i) x := fun he => by
              have := (hrho.same hi1 he).1; omega
            simpa using fun h => this (by exact_mod_cast h)
          have F1 : Hid (Pl.nextN t b (Pl.iter (Pl.nextN t b) j x) = Pl.iter (Pl.nextN t b) (j + 1) x) := Lib.hid rfl
          have F2 : Hid (Pl.nextN t b (Pl.iter (Pl.nextN t b) (j + i) x) = Pl.iter (Pl.nextN t b) (j + 1 + i) x) := Lib.hid (by rw [show j + 1 + i = j + i + 1 by omega]; rfl)
          generalize Pl.iter (Pl.nextN t b) j x = Y at *
          generalize Pl.iter (Pl.nextN t b) (j + i) x = Z at *
          go_wp2_with fail
          refine (ruleNext t b _ hR hl2 _).mono ?_
          rintro e w2 ⟨rfl, hb2⟩
          rw [F2.out]
          have hb2' := hbw.trans (hb2.mono (Nat.le_trans (by omega) hbw.size))
          have d0 := hb2'.cell (p := ⟨w.heap.size, 0, none⟩) (by simp)
          have d1 := hb2'.cell (p := ⟨w.heap.size, 1, none⟩) (by simp)
          rw [c0] at d0
          rw [c1] at d1
          go_wp2_with fail
          refine (ruleNext t b _ hR hl1 _).mono ?_
          rintro e w3 ⟨rfl, hb3⟩
          rw [F1.out]
          have hb3' := hb2'.trans (hb3.mono (Nat.le_trans (by omega) hb2'.size))
          go_wp2_with fail
          go_roundg (mu - (j + 1))
          case measure => omega
          case rel => exact ⟨j + 1, by omega, rfl, rfl, hb3'⟩
    · have hiM : i ≠ M := fun e => heq (by rw [e]; exact HM.out)
      have hne : ((Pl.iter (Pl.nextN t b) i x : Int) != (Pl.iter (Pl.nextN t b) (i + i) x : Int)) = true := by
        simpa using fun h => heq (by exact_mod_cast h)
      have F1 : Hid (Pl.nextN t b (Pl.iter (Pl.nextN t b) i x) = Pl.iter (Pl.nextN t b) (i + 1) x) := Lib.hid rfl
      have F2 : Hid (Pl.nextN t b (Pl.nextN t b (Pl.iter (Pl.nextN t b) (i + i) x)) = Pl.iter (Pl.nextN t b) (i + 1 + (i + 1)) x) := Lib.hid (by rw [show i + 1 + (i + 1) = i + i + 1 + 1 by omega]; rfl)
      clear heq
      generalize Pl.iter (Pl.nextN t b) i x = Y at *
      generalize Pl.iter (Pl.nextN t b) (i + i) x = Z at *
      go_wp2_with fail
      refine wp_region_calm mixed (by kernel_rfl) ?_
      repeat (first
        | go_big_quiet_skip
        | (go_big_quiet_want
           first
             | (go_big_quiet_op; go_big_quiet_on)
             | (apply Exists.intro
                refine ⟨fun W hW => ?_, ?_⟩
                · have e0 := Below.cell hW hlt2 d0
                  have e1 := Below.cell hW hlt2 d1
                  go_simp
                  first | done | exact rfl
                simp only [Act.put, List.setIfInBounds_toArray, List.set_cons_zero, List.set_cons_succ]
                go_big_quiet_on)
             | (go_big_quiet_op
                apply Exists.intro
                refine ⟨fun W hW => Calm.call hW (ruleNext t b _ hR (by first | exact hl1 | exact hl2 | exact hl3) _), ?_⟩
                go_big_quiet_on)))
      refine wpQuiet_nil ?_
      intro W2 hW2
      rw [F1.out, F2.out]
      have hb2 := hbw.trans (hW2.mono (Nat.le_trans (by omega) hbw.size))
      go_wp2_with fail
      go_roundg (M - (i + 1))
      case measure => omega
      case rel => exact ⟨i + 1, by omega, by omega, rfl, rfl, hb2⟩

end Go.Proofs.YtgkkoegfmhgcjaaGreatDoor

namespace Go.Proofs.YtgkkoegfmhgcjaaGreatDoor
open Go.RowKit Go.Shelf

namespace Pl
/-- The round as the functions answer: none for others. -/
def roundA (n t b : Int) : List Int := if okT n t b = true then ints (roundL (nextN t.toNat b.toNat) n.toNat) else []
theorem roundA_yes (n t b : Nat) (h : okT n t b = true) : roundA n t b = ints (roundL (nextN t b) n) := by rw [roundA, if_pos h]; rfl
theorem roundA_no {n t b : Int} (h : ¬ okT n t b = true) : roundA n t b = [] := by rw [roundA, if_neg h]
theorem roundA_len (n t b : Int) : (roundA n t b).length ≤ 22781252 := by
  by_cases h : okT n t b = true
  · obtain ⟨x, s, k, rfl, rfl, rfl, hR, hx⟩ := okT_nat h
    rw [roundA_yes x s k h, ints_len]; exact (next_round hR hx).2.1
  · rw [roundA_no h]; simp
end Pl

set_option maxRecDepth 100000 in
set_option maxHeartbeats 2000000 in
theorem roundFromYes (t b x mu p : Nat) (hR : Pl.RuleOk t b) (hx : x ≤ 1000000000) (hrho : Pl.Rho (Pl.nextN t b) x mu p) (hp : mu + p ≤ 22781252) (w : World) :
    Calls Tryz.prog 148 #[.int .i64 x, .int .i64 t, .int .i64 b] w (ListPost w (Pl.ints (Pl.orb (Pl.nextN t b) x mu p))) := by
  have hok : Pl.okT x t b = true := Pl.okT_of hR hx
  obtain ⟨g1, g2⟩ := Bool.and_eq_true_iff.1 (by rw [Pl.okT] at hok; exact hok)
  have hp1 := hrho.pos
  have hle := Pl.iter_next_le hR hx
  obtain ⟨i0, hi0, hz0, hz1, hz2⟩ := info_parts info_int
  clear hok
  go_enter Tryz.func148, Tryz.ntmps148
  go_wp2_with fail
  refine (ruleOk _ _ _).mono ?_
  rintro e w1 ⟨rfl, hb1⟩
  obtain ⟨c0, c1, hB, hlt⟩ := rule_box hb1
  clear hb1
  go_wp2_with (go_at_call 79; refine (hasDigits _ _ _).mono ?_; rintro e w' ⟨rfl, rfl⟩)
  refine (firstAgain t b x mu p hR hx hrho _).mono ?_
  rintro e w2 ⟨rfl, hb2⟩
  have d0 := Below.cell hb2 hlt c0
  have d1 := Below.cell hb2 hlt c1
  have hlt2 := Nat.lt_of_lt_of_le hlt hb2.size
  have hB2 := hB.trans (hb2.mono hB.size)
  clear c0 c1 hlt hb2 hB g1 g2
  have hl0 := (hle mu).1
  go_wp2_with fail
  have b3 : Below (w.heap.size + 1) w2 (w2.alloc (.cells #[.int .i64 (Pl.iter (Pl.nextN t b) mu x)] 3)) := (Below.refl _ _).alloc (by omega) _
  refine (ruleNext t b _ hR hl0 _).mono ?_
  rintro e w3 ⟨rfl, hb3⟩
  have r3 : Row (w.heap.size + 1) w3 (.slice (some ⟨w2.heap.size, 0, none⟩) 1 1) (Pl.ints (Pl.orb (Pl.nextN t b) x mu 1)) := (row_one' (w.heap.size + 1) w2 _ (by omega)).below hb3
  have b4 : Below (w.heap.size + 1) w2 w3 := b3.trans (hb3.mono (by simp; omega))
  clear b3 hb3
  go_wp2_with fail
  go_loopg [9, 10] (p - 1) (fun g r nx wr => ∃ (q : Nat) (vv : Value), vv = r ∧ 1 ≤ q ∧ q + g = p ∧ nx = .int .i64 (Pl.iter (Pl.nextN t b) (mu + q) x) ∧ Row (w.heap.size + 1) wr vv (Pl.ints (Pl.orb (Pl.nextN t b) x mu q)) ∧ Below (w.heap.size + 1) w2 wr)
  case atStart => exact ⟨1, _, rfl, by omega, by omega, rfl, r3, b4⟩
  case round =>
    obtain ⟨q, vv, rfl, hq1, hqg, rfl, hr, hbw⟩ := hrel
    clear r3 b4
    by_cases hqp : q = p
    · subst hqp
      have hback := hrho.back
      rw [hback]
      obtain ⟨a6, cap6, rfl⟩ := hr.shape
      have HR := Lib.hid hr
      clear hr hback
      go_wp2_with fail
      go_ret
      exact ⟨_, rfl, HR.out.mono (by omega), hB2.trans (hbw.mono (by omega))⟩
    · have hne : ((Pl.iter (Pl.nextN t b) (mu + q) x : Int) != (Pl.iter (Pl.nextN t b) mu x : Int)) = true := by
        have : ¬ Pl.iter (Pl.nextN t b) mu x = Pl.iter (Pl.nextN t b) (mu + q) x := fun he => by
          have h1 := (hrho.same hq1 he).2
          have := Nat.le_of_dvd hq1 h1
          omega
        simpa using fun h => this (by exact_mod_cast h.symm)
      have e0 := hbw.cell (p := ⟨w.heap.size, 0, none⟩) (by simp)
      have e1 := hbw.cell (p := ⟨w.heap.size, 1, none⟩) (by simp)
      rw [d0] at e0
      rw [d1] at e1
      have hl1 := (hle (mu + q)).1
      have F1 : Hid (Pl.nextN t b (Pl.iter (Pl.nextN t b) (mu + q) x) = Pl.iter (Pl.nextN t b) (mu + (q + 1)) x) := Lib.hid rfl
      have F2 := Lib.hid (Pl.orb_succ (Pl.nextN t b) x mu q)
      have hlen : (Pl.ints (Pl.orb (Pl.nextN t b) x mu q)).length = q := by rw [Pl.ints_len, Pl.orb_len]
      generalize Pl.orb (Pl.nextN t b) x mu q = L at *
      generalize Pl.iter (Pl.nextN t b) (mu + q) x = Y at *
      have hr' : wr.ownsRow (w.heap.size + 1) 3 1 vv (Pl.ints L).length ((Pl.ints L).map (Value.int .i64)) := hr
      have F3 := Lib.hid (Pl.ints_snoc L Y)
      generalize Pl.ints L = L' at *
      have hsz := hbw.size
      clear hr
      go_wp2_with (at_builtin; refine wpList_append_own _ rfl _ _ 28 rfl (w.heap.size + 1) 3 i0 (.int .i64 0) 1 8 Tryz.underlying28 hi0 hz0 hz1 hz2 rfl (by decide) _ _ _ rfl (hr'.alloc _) ⟨wr.heap.size, 0, none⟩ 1 1 [.int .i64 (Y : Int)] rfl rfl (cell_one_new _ _ _) (by simp [Value.oneCell']) (by unfold maxLen; omega) (by omega) (by simp; omega) ?_; intro v6 w6 hown6 hgrow6 _; have hb6 : Below (w.heap.size + 1) wr w6 := below_append ((Below.refl (w.heap.size + 1) wr).alloc (by omega) _) (hr'.alloc _) hgrow6 (by omega); have f0 := (hb6.cell (p := ⟨w.heap.size, 0, none⟩) (by simp)).trans e0; have f1 := (hb6.cell (p := ⟨w.heap.size, 1, none⟩) (by simp)).trans e1)
      refine (ruleNext t b _ hR hl1 _).mono ?_
      rintro e w7 ⟨rfl, hb7⟩
      rw [F1.out]
      have hs6 := hb6.size
      have HR7 := Lib.hid ((row_snoc hown6).below hb7)
      clear hown6
      go_wp2_with fail
      go_roundg (p - (q + 1))
      case measure => omega
      case rel => exact ⟨q + 1, _, rfl, by omega, by omega, rfl, by rw [F2.out, F3.out]; exact HR7.out, (hbw.trans hb6).trans (hb7.mono (by omega))⟩


set_option maxHeartbeats 400000 in
theorem implRoundFrom (n t b : Int) (w : World) : Calls Tryz.prog 148 #[.int .i64 n, .int .i64 t, .int .i64 b] w (ListPost w (Pl.roundA n t b)) := by
  by_cases g1 : Pl.ruleB t b = true
  · by_cases g2 : Pl.okB n b = true
    · have h : Pl.okT n t b = true := by rw [Pl.okT, g1, g2]; rfl
      obtain ⟨x, s, k, rfl, rfl, rfl, hR, hx⟩ := Pl.okT_nat h
      obtain ⟨mu, p, hr, hb⟩ := Pl.next_rho hR hx
      rw [Pl.roundA_yes x s k h, Pl.roundL_eq hr (by omega)]
      exact roundFromYes s k x mu p hR hx hr hb w
    · have h : ¬ Pl.okT n t b = true := by rw [Pl.okT, g1]; simpa using g2
      have g2' : Pl.okB n b = false := by simpa using g2
      rw [Pl.roundA_no h]
      clear h g2
      go_enter Tryz.func148, Tryz.ntmps148
      go_wp2_with fail
      refine (ruleOk _ _ _).mono ?_
      rintro e w1 ⟨rfl, hb1⟩
      obtain ⟨c0, c1, hB, hlt⟩ := rule_box hb1
      clear hb1
      go_wp2_with (go_at_call 79; refine (hasDigits _ _ _).mono ?_; rintro e w' ⟨rfl, rfl⟩)
      go_ret
      exact ⟨_, rfl, World.ownsRow_nil _ _ _ _, hB⟩
  · have h : ¬ Pl.okT n t b = true := by rw [Pl.okT]; simp [g1]
    have g1' : Pl.ruleB t b = false := by simpa using g1
    rw [Pl.roundA_no h]
    clear h g1
    go_enter Tryz.func148, Tryz.ntmps148
    go_wp2_with fail
    refine (ruleOk _ _ _).mono ?_
    rintro e w1 ⟨rfl, hb1⟩
    obtain ⟨c0, c1, hB, hlt⟩ := rule_box hb1
    clear hb1
    go_wp2_with fail
    go_ret
    exact ⟨_, rfl, World.ownsRow_nil _ _ _ _, hB⟩

end Go.Proofs.YtgkkoegfmhgcjaaGreatDoor

namespace Go.Proofs.YtgkkoegfmhgcjaaGreatDoor
open Go.RowKit Go.Shelf

set_option maxRecDepth 100000 in
set_option maxHeartbeats 2000000 in
theorem specRoundYes (t b x mu p : Nat) (hR : Pl.RuleOk t b) (hx : x ≤ 1000000000) (hrho : Pl.Rho (Pl.nextN t b) x mu p) (hp : mu + p ≤ 22781252) (w : World) :
    Calls Tryz.prog 67 #[.int .i64 x, .int .i64 t, .int .i64 b] w (ListPost w (Pl.ints (Pl.orb (Pl.nextN t b) x mu p))) := by
  have hok : Pl.okT x t b = true := Pl.okT_of hR hx
  have hp1 := hrho.pos
  have hle := Pl.iter_next_le hR hx
  obtain ⟨i0, hi0, hz0, hz1, hz2⟩ := info_parts info_int
  have HN := Lib.hid (Pl.nextI_yes x t b hok)
  obtain ⟨OUT, hOUT⟩ : ∃ OUT, Pl.ints (Pl.orb (Pl.nextN t b) x mu p) = OUT := ⟨_, rfl⟩
  have HO := Lib.hid hOUT
  rw [hOUT]
  clear hok hOUT
  go_enter Tryz.func67, Tryz.ntmps67
  go_wp2_with fail
  refine (specNextOf _ _ _ _).mono ?_
  rintro e w' ⟨rfl, rfl⟩
  rw [HN.out]
  have hn0 : 0 ≤ (Pl.nextN t b x : Int) := by omega
  go_wp2_with fail
  have r1 : Row w.heap.size (w.alloc (.cells #[.int .i64 x] 3)) (.slice (some ⟨w.heap.size, 0, none⟩) 1 1) (Pl.ints (Pl.pre (Pl.nextN t b) x 1)) := row_one' w.heap.size w _ (Nat.le_refl _)
  have b1 : Below w.heap.size w (w.alloc (.cells #[.int .i64 x] 3)) := (Below.refl _ _).alloc (Nat.le_refl _) _
  go_loopg [7, 8, 9] (mu + p - 1) (fun g sn _ _ wr => ∃ (m : Nat) (vv : Value), vv = sn ∧ 1 ≤ m ∧ m + g = mu + p ∧ Row w.heap.size wr vv (Pl.ints (Pl.pre (Pl.nextN t b) x m)) ∧ Below w.heap.size w wr)
  case atStart => exact ⟨1, _, rfl, by omega, by omega, r1, b1⟩
  case round =>
    clear r1 b1
    obtain ⟨m, vv, rfl, hm1, hmg, hr, hbw⟩ := hrel
    have hlen : (Pl.ints (Pl.pre (Pl.nextN t b) x m)).length = m := by rw [Pl.ints_len, Pl.pre_len]
    obtain ⟨g, cap, rfl, hgb, hgl, hcap, hcm, hcell⟩ := hr.lies (by omega)
    have HR := Lib.hid hr
    rw [hlen] at HR hcap hcell ⊢
    have HC : Hid (∀ j, j < m → wr.cell? ⟨g, j, none⟩ = some (.int .i64 ((Pl.iter (Pl.nextN t b) j x : Nat) : Int))) := Lib.hid fun j hj => by rw [hcell j hj, pre_cell hj]
    have hc1 := HC.out (m - 1) (by omega)
    have hl1 := (hle (m - 1)).1
    have F1 : Hid (Pl.nextN t b (Pl.iter (Pl.nextN t b) (m - 1) x) = Pl.iter (Pl.nextN t b) m x) := Lib.hid (by
      show Pl.iter (Pl.nextN t b) (m - 1 + 1) x = _
      rw [Nat.sub_add_cancel hm1])
    clear hcell hr
    have i1 : (m : Int) - 1 = ((m - 1 : Nat) : Int) := by omega
    generalize Pl.iter (Pl.nextN t b) (m - 1) x = Y at *
    go_wp2_with fail
    refine (l3Next t b _ hR hl1 _).mono ?_
    rintro e w' ⟨rfl, rfl⟩
    rw [F1.out]
    clear hc1 hl1 F1 i1
    go_wp2_with fail
    go_loop [9] (fun k => ∃ K : Nat, K ≤ m ∧ (∀ i, i < K → Pl.iter (Pl.nextN t b) i x ≠ Pl.iter (Pl.nextN t b) m x) ∧ k = .int .i64 K) (fun k => m - (intOf k).toNat)
    case atStart => exact ⟨0, by omega, fun i hi => by omega, rfl⟩
    case round =>
      obtain ⟨K, hK, hno, rfl⟩ := hrel
      have HNO := Lib.hid hno
      clear hno
      by_cases hlt : K < m
      · have hc := HC.out K hlt
        by_cases heq : Pl.iter (Pl.nextN t b) K x = Pl.iter (Pl.nextN t b) m x
        · obtain ⟨g1, g2⟩ := hrho.same (a := K) (d := m - K) (by omega) (by rw [show K + (m - K) = m by omega]; exact heq)
          have g3 := Nat.le_of_dvd (by omega) g2
          obtain rfl : m = mu + p := by omega
          obtain rfl : K = mu := by omega
          have HD : Hid ((Pl.ints (Pl.pre (Pl.nextN t b) x (K + p))).drop K = OUT) := Lib.hid (by rw [← ints_drop, Pl.pre_drop]; exact HO.out)
          have hol : OUT.length = p := by rw [← HO.out, Pl.ints_len, Pl.orb_len]
          have hnews : ∀ j u, (OUT.map (Value.int .i64))[j]? = some u → (wr.alloc (.cells #[] 3)).cell? ((⟨g, K, none⟩ : Addr).add j) = some u := news_at fun j hj => by
            have h1 := HC.out (K + j) (by omega)
            rw [(Below.refl wr.heap.size wr).alloc (Nat.le_refl _) (.cells #[] 3) |>.cell (p := ⟨g, K + j, none⟩) hgl, h1]
            rw [← HO.out, Pl.ints_get, Pl.orb_get (by omega)]; rfl
          have hown0 : (wr.alloc (.cells #[] 3)).ownsRow w.heap.size 3 1 (.slice (some ⟨wr.heap.size, 0, none⟩) 0 0) 0 [] := (row_empty wr).mono hbw.size
          rw [heq] at hc
          clear heq HC hle
          have hbw2 : Below w.heap.size w (wr.alloc (.cells #[] 3)) := hbw.alloc hbw.size _
          generalize Pl.iter (Pl.nextN t b) (K + p) x = Z at *
          go_wp2_with (at_builtin; refine wpList_append_own _ rfl _ _ 28 rfl w.heap.size 3 i0 (.int .i64 0) 1 8 Tryz.underlying28 hi0 hz0 hz1 hz2 rfl (by decide) _ _ _ rfl hown0 ⟨g, K, none⟩ p (cap - K) (OUT.map (Value.int .i64)) rfl (by simp; omega) hnews (by simp [Value.oneCell']) (by unfold maxLen; omega) (by omega) (by have := hbw2.size; omega) ?_; intro v6 w6 hown6 hgrow6 _)
          go_ret
          exact ⟨_, rfl, row_of_app hol.symm hown6, below_append hbw2 hown0 hgrow6⟩
        · have hne : ((Pl.iter (Pl.nextN t b) K x : Int) == (Pl.iter (Pl.nextN t b) m x : Int)) = false := by
            simpa using fun h => heq (by exact_mod_cast h)
          have HE := Lib.hid heq
          clear heq
          go_wp2_with fail
          go_round
          case rel => exact ⟨K + 1, by omega, fun i hi => by
            by_cases h : i = K
            · subst h; exact HE.out
            · exact HNO.out i (by omega), by simp⟩
          case measure => simp [intOf]; omega
      · obtain rfl : K = m := by omega
        have hKp : K ≠ mu + p := fun e => HNO.out mu (by omega) (by rw [e, hrho.back])
        have HS := Lib.hid (Pl.pre_succ (Pl.nextN t b) x K)
        clear HNO HC hle
        have F3 := Lib.hid (Pl.ints_snoc (Pl.pre (Pl.nextN t b) x K) (Pl.iter (Pl.nextN t b) K x))
        generalize Pl.iter (Pl.nextN t b) K x = Z at *
        generalize Pl.pre (Pl.nextN t b) x K = L at *
        generalize Pl.ints L = L' at *
        have hr' : wr.ownsRow w.heap.size 3 1 (.slice (some ⟨g, 0, none⟩) K cap) L'.length (L'.map (Value.int .i64)) := HR.out
        have hsz := hbw.size
        go_wp2_with (at_builtin; refine wpList_append_own _ rfl _ _ 28 rfl w.heap.size 3 i0 (.int .i64 0) 1 8 Tryz.underlying28 hi0 hz0 hz1 hz2 rfl (by decide) _ _ _ rfl (hr'.alloc _) ⟨wr.heap.size, 0, none⟩ 1 1 [.int .i64 (Z : Int)] rfl rfl (cell_one_new _ _ _) (by simp [Value.oneCell']) (by unfold maxLen; omega) (by omega) (by simp; omega) ?_; intro v6 w6 hown6 hgrow6 _)
        go_roundg (mu + p - (K + 1))
        case measure => omega
        case rel => exact ⟨K + 1, _, rfl, by omega, by omega, by rw [HS.out, F3.out]; exact row_snoc hown6, below_append (hbw.alloc hbw.size _) (hr'.alloc _) hgrow6⟩


set_option maxHeartbeats 400000 in
theorem specRoundFrom (n t b : Int) (w : World) : Calls Tryz.prog 67 #[.int .i64 n, .int .i64 t, .int .i64 b] w (ListPost w (Pl.roundA n t b)) := by
  by_cases h : Pl.okT n t b = true
  · obtain ⟨x, s, k, rfl, rfl, rfl, hR, hx⟩ := Pl.okT_nat h
    obtain ⟨mu, p, hr, hb⟩ := Pl.next_rho hR hx
    rw [Pl.roundA_yes x s k h, Pl.roundL_eq hr (by omega)]
    exact specRoundYes s k x mu p hR hx hr hb w
  · rw [Pl.roundA_no h]
    have HN := Lib.hid (Pl.nextI_no h)
    clear h
    go_enter Tryz.func67, Tryz.ntmps67
    go_wp2_with fail
    refine (specNextOf _ _ _ _).mono ?_
    rintro e w' ⟨rfl, rfl⟩
    rw [HN.out]
    go_wp2_with fail
    go_ret
    exact ⟨_, rfl, row_empty w, (Below.refl _ _).alloc (Nat.le_refl _) _⟩

end Go.Proofs.YtgkkoegfmhgcjaaGreatDoor

namespace Go.Proofs.YtgkkoegfmhgcjaaGreatDoor
open Go.RowKit

namespace Pl
/-- Whether a number is happy, as the functions answer. -/
def happyB (n b : Int) : Bool := decide (roundA n 2 b = [1])
end Pl

set_option maxHeartbeats 1000000 in
theorem implHappyOk (n b : Int) (w : World) :
    Calls Tryz.prog 150 #[.int .i64 n, .int .i64 b] w fun e w' => e = .returned (.bool (Pl.happyB n b)) ∧ Below w.heap.size w w' := by
  have HI := Lib.hid (implRoundFrom n 2 b)
  have HB : Hid (Pl.happyB n b = decide (Pl.roundA n 2 b = [1])) := Lib.hid rfl
  have hlen := Pl.roundA_len n 2 b
  generalize Pl.roundA n 2 b = L at *
  go_enter Tryz.func150, Tryz.ntmps150
  go_wp2_with fail
  refine (HI.out _).mono ?_
  rintro e w1 ⟨v, rfl, r1, b1⟩
  match L, r1, hlen, HB with
  | [], r1, _, HB =>
    obtain ⟨a, cap, rfl⟩ := r1.shape
    go_wp2_with fail
    go_ret
    exact ⟨ret_bool (by rw [HB.out]; simp), b1⟩
  | [a], r1, _, HB =>
    obtain ⟨g, cap, rfl, _, _, _, _, hc⟩ := r1.lies (by simp)
    have hc0 := hc 0 (by simp)
    simp only [List.getElem?_cons_zero, Option.getD_some] at hc0
    clear hc r1
    go_wp2_with fail
    go_ret
    exact ⟨ret_bool (by rw [HB.out]; by_cases h : a = 1 <;> simp [h]), b1⟩
  | a :: c :: l, r1, hlen, HB =>
    obtain ⟨x, cap, rfl⟩ := r1.shape
    have hne : (((a :: c :: l).length : Int) == 1) = false := by simp; omega
    generalize (a :: c :: l).length = N at *
    clear r1
    go_wp2_with fail
    go_ret
    exact ⟨ret_bool (by rw [HB.out]; simp), b1⟩

set_option maxHeartbeats 1000000 in
theorem specHappyOk (n b : Int) (w : World) :
    Calls Tryz.prog 69 #[.int .i64 n, .int .i64 b] w fun e w' => e = .returned (.bool (Pl.happyB n b)) ∧ Below w.heap.size w w' := by
  have HI := Lib.hid (specRoundFrom n 2 b)
  have HB : Hid (Pl.happyB n b = decide (Pl.roundA n 2 b = [1])) := Lib.hid rfl
  have hlen := Pl.roundA_len n 2 b
  generalize Pl.roundA n 2 b = L at *
  go_enter Tryz.func69, Tryz.ntmps69
  go_wp2_with fail
  refine (HI.out _).mono ?_
  rintro e w1 ⟨v, rfl, r1, b1⟩
  match L, r1, hlen, HB with
  | [], r1, _, HB =>
    obtain ⟨a, cap, rfl⟩ := r1.shape
    go_wp2_with fail
    go_ret
    exact ⟨ret_bool (by rw [HB.out]; simp), b1⟩
  | [a], r1, _, HB =>
    obtain ⟨g, cap, rfl, _, _, _, _, hc⟩ := r1.lies (by simp)
    have hc0 := hc 0 (by simp)
    simp only [List.getElem?_cons_zero, Option.getD_some] at hc0
    clear hc r1
    go_wp2_with fail
    go_ret
    exact ⟨ret_bool (by rw [HB.out]; by_cases h : a = 1 <;> simp [h]), b1⟩
  | a :: c :: l, r1, hlen, HB =>
    obtain ⟨x, cap, rfl⟩ := r1.shape
    have hne : (((a :: c :: l).length : Int) == 1) = false := by simp; omega
    generalize (a :: c :: l).length = N at *
    clear r1
    go_wp2_with fail
    go_ret
    exact ⟨ret_bool (by rw [HB.out]; simp), b1⟩

end Go.Proofs.YtgkkoegfmhgcjaaGreatDoor
