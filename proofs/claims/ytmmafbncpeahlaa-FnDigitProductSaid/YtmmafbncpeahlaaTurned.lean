/-
  TurnedOf, PalindromeOk, AddedTurned, of the program and of the model; their exact laws.
-/
import Derived.Test.YtmmafbncpeahlaaWhole
import Derived.Test.YtmmafbncpeahlaaDigitsOf
import Derived.Test.YtmmafbncpeahlaaMathTurn
namespace Go.Proofs.Ytmmafbncpeahlaa
open Go.RowKit Go.Shelf

namespace Pl

theorem valF_more {b : Nat} (hb : 1 ≤ b) : ∀ (l : List Nat) (acc : Nat), acc ≤ valF b acc l := by
  intro l
  induction l with
  | nil => intro acc; exact Nat.le_refl _
  | cons d t ih =>
    intro acc
    have h1 := ih (acc * b + d)
    have h2 : acc ≤ acc * b := Nat.le_mul_of_pos_right _ hb
    show acc ≤ valF b (acc * b + d) t
    omega

/-- The number of a row, if it may be told. -/
theorem wholeO_row {b : Nat} (hb : 1 ≤ b) : ∀ (l : List Nat) (acc : Nat), (∀ x ∈ l, x < b) → acc ≤ 1000000000 → wholeO b (l.map fun d : Nat => (d : Int)) acc = if valF b acc l ≤ 1000000000 then some (valF b acc l) else none := by
  intro l
  induction l with
  | nil => intro acc _ h; rw [show valF b acc [] = acc from rfl, if_pos h]; rfl
  | cons d t ih =>
    intro acc hm h
    have hd := hm d (by simp)
    have hge : acc * b + d ≤ valF b (acc * b + d) t := valF_more hb t _
    have e : valF b acc (d :: t) = valF b (acc * b + d) t := rfl
    have ec : ((acc * b + d : Nat) : Int) = (acc : Int) * b + (d : Int) := by rw [Int.natCast_add, Int.natCast_mul]
    rw [List.map_cons, e]
    by_cases hs : acc * b + d ≤ 1000000000
    · rw [wholeO_good _ _ _ _ ⟨by omega, by omega⟩, Int.toNat_natCast]
      exact ih _ (fun x hx => hm x (by simp [hx])) hs
    · rw [wholeO_bad _ _ _ _ (by omega), if_neg (by omega)]

theorem whole_row {b : Nat} (hb : 2 ≤ b) (hb' : b ≤ 16) {l : List Nat} (h0 : l ≠ []) (hm : ∀ x ∈ l, x < b) : whole (l.map fun d : Nat => (d : Int)) b = if valF b 0 l ≤ 1000000000 then some (valF b 0 l) else none := by
  rw [whole, if_pos ⟨by rw [baseB_iff]; omega, by simpa using h0⟩, Int.toNat_natCast]
  exact wholeO_row (by omega) l 0 hm (by omega)

theorem digI_rev (b n : Nat) : (digI b n).reverse = (digsR b n).map fun d : Nat => (d : Int) := by
  rw [digI, digs, List.map_reverse, List.reverse_reverse]

theorem whole_turned {n b : Nat} (h : okB n b = true) : wV (whole (digI b n).reverse b) = turnI n b := by
  have h' := h
  rw [okB_iff] at h'
  have hp := digsR_pos b n
  rw [digI_rev, whole_row (by omega) (by omega) (by intro h0; rw [h0] at hp; simp at hp) (fun x hx => digsR_mem (by omega) n x hx)]
  rw [show valF b 0 (digsR b n) = turnN b n from rfl]
  by_cases hs : turnN b n ≤ 1000000000
  · rw [turnI_yes n b h hs, if_pos hs]; rfl
  · rw [turnI_big n b hs, if_neg hs]; rfl

theorem turnI_ok {n b : Int} (h : 0 ≤ turnI n b) : okB n b = true := Classical.byContradiction fun hno => by
  rw [turnI_no hno] at h; omega
theorem turnI_range (n b : Int) : -1 ≤ turnI n b ∧ turnI n b ≤ 1000000000 := by
  unfold turnI; split <;> omega

/-- A number and it turned round, added. -/
def addI (n b : Int) : Int := if 0 ≤ turnI n b ∧ n + turnI n b ≤ 1000000000 then n + turnI n b else -1
def addB (n b : Int) : Bool := decide (0 ≤ turnI n b) && decide (n + turnI n b ≤ 1000000000)
theorem addI_yes {n b : Int} (h1 : 0 ≤ turnI n b) (h2 : n + turnI n b ≤ 1000000000) : addI n b = n + turnI n b ∧ addB n b = true := by
  refine ⟨by rw [addI, if_pos ⟨h1, h2⟩], by simp [addB, h1, h2]⟩
theorem addI_no {n b : Int} (h : ¬ (0 ≤ turnI n b ∧ n + turnI n b ≤ 1000000000)) : addI n b = -1 ∧ addB n b = false := by
  refine ⟨by rw [addI, if_neg h], ?_⟩
  rw [addB, ← Bool.not_eq_true, Bool.and_eq_true, decide_eq_true_eq, decide_eq_true_eq]; exact h

theorem turn_le {b n : Nat} (hb : 2 ≤ b) (hb' : b ≤ 16) (h : 1 ≤ n) : turnN b n < 16 * n := by
  have h0 := digsR_pos b n
  have h1 := turn_pow hb n
  have h2 := pow_le_of hb n h
  obtain ⟨l, hl⟩ : ∃ l, (digsR b n).length = l + 1 := ⟨(digsR b n).length - 1, by omega⟩
  rw [hl, Nat.add_sub_cancel] at h2
  rw [hl, Nat.pow_succ] at h1
  have h3 : b ^ l * b ≤ n * 16 := Nat.mul_le_mul h2 hb'
  omega

theorem turn_top {b n : Nat} (hb : 2 ≤ b) (hb' : b ≤ 16) (h : n ≤ 1000000000) : turnN b n ≤ 16000000000 := by
  by_cases h1 : 1 ≤ n
  · have := turn_le hb hb' h1; omega
  · obtain rfl : n = 0 := by omega
    rw [turnN_lt (by omega)]; omega

/-- The walk over the digits, the last one first: what has come and what is left. -/
def TurnAt (b n T left : Nat) : Prop := (left = 0 ∧ T = turnN b n) ∨ (1 ≤ left ∧ valF b T (digsR b left) = turnN b n)

theorem turnAt_start (b n : Nat) (hb : 2 ≤ b) : TurnAt b n 0 n := by
  by_cases h : 1 ≤ n
  · exact .inr ⟨h, rfl⟩
  · obtain rfl : n = 0 := by omega
    exact .inl ⟨rfl, by rw [turnN_lt (by omega)]⟩

theorem turnAt_next {b n T left : Nat} (hb : 2 ≤ b) (h : TurnAt b n T left) (h0 : 0 < left) : TurnAt b n (T * b + left % b) (left / b) ∧ T * b + left % b ≤ turnN b n := by
  rcases h with ⟨h1, _⟩ | ⟨h1, h2⟩
  · omega
  · by_cases hl : left < b
    · rw [digsR_lt hl] at h2
      have e : T * b + left = turnN b n := h2
      rw [Nat.mod_eq_of_lt hl, Nat.div_eq_of_lt hl]
      exact ⟨.inl ⟨rfl, e⟩, by omega⟩
    · rw [digsR_ge hb (by omega)] at h2
      have e : valF b (T * b + left % b) (digsR b (left / b)) = turnN b n := h2
      refine ⟨.inr ⟨(Nat.one_le_div_iff (by omega)).2 (by omega), e⟩, ?_⟩
      rw [← e]; exact valF_more (by omega) _ _

theorem turnAt_end {b n T : Nat} (h : TurnAt b n T 0) : T = turnN b n := by
  rcases h with ⟨_, h1⟩ | ⟨h1, _⟩
  · exact h1
  · omega

end Pl

set_option maxHeartbeats 400000 in
theorem implTurnedOf (n b : Int) (w : World) :
    Calls Try.prog 27 #[.int .i64 n, .int .i64 b] w fun e w' => e = .returned (.int .i64 (Pl.turnI n b)) ∧ Below w.heap.size w w' := by
  by_cases h : Pl.okB n b = true
  · obtain ⟨x, k, rfl, rfl, h1, h2, h3⟩ := Pl.okB_nat h
    have HD := Lib.hid (digitsOfYes x k h1 h2 h3)
    have HW := Lib.hid (Pl.whole_turned h)
    have hlen := Pl.digI_len30 h1 h3
    generalize Pl.digI k x = L at *
    generalize Pl.turnI (x : Int) (k : Int) = T at *
    go_enter Try.func27, Try.ntmps27
    go_wp2_with (go_at_call 31; refine (hasDigits _ _ _).mono ?_; rintro e w' ⟨rfl, rfl⟩; rw [h])
    refine (HD.out _).mono ?_
    rintro e w1 ⟨v, rfl, r1, b1⟩
    go_wp2_with fail
    refine (reversed _ L _ r1.ints (by omega)).mono ?_
    rintro e w2 ⟨u, rfl, r2, b2⟩
    go_wp2_with fail
    refine (implWholeOf _ L.reverse _ _ r2.ints (by rw [List.length_reverse]; omega)).mono ?_
    rintro e w3 ⟨rfl, rfl⟩
    go_wp2
    go_ret
    exact ⟨ret_int HW.out, b1.trans (b2.mono b1.size)⟩
  · rw [Pl.turnI_no h]
    have h' : Pl.okB n b = false := by simpa using h
    clear h
    go_enter Try.func27, Try.ntmps27
    go_wp2_with (go_at_call 31; refine (hasDigits _ _ _).mono ?_; rintro e w' ⟨rfl, rfl⟩; rw [h'])
    go_ret
    exact ⟨rfl, Below.refl _ _⟩

/-- What the walks of AddedTurned ask of a number turned round. -/
theorem Pl.turn_facts {n b : Int} (h : 0 ≤ Pl.turnI n b) : 0 ≤ n ∧ n ≤ 1000000000 := ((Pl.okB_iff n b).1 (Pl.turnI_ok h)).2

end Go.Proofs.Ytmmafbncpeahlaa
