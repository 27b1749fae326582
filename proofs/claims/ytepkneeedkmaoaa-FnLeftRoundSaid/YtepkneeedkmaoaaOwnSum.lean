/-
  impl.OwnSum, impl.OwnOk; spec.l4Power, spec.l4Sum, spec.OwnSum, spec.OwnOk: what they answer; the exact laws of OwnSum and OwnOk.
-/
import Derived.Test.YtepkneeedkmaoaaOwn
import Derived.Test.YtepkneeedkmaoaaSpecRound
namespace Go.Proofs.Ytepkneeedkmaoaa
open Go.RowKit Go.Shelf

set_option maxHeartbeats 1000000 in
theorem l4Power (d t : Nat) (hd : d < 16) (ht : t ≤ 15) (w : World) :
    Calls Try.prog 45 #[.int .i64 d, .int .i64 t] w fun e w' => e = .returned (.int .i64 ((d ^ t : Nat) : Int)) ∧ w = w' := by
  obtain ⟨R, hR⟩ : ∃ R, d ^ t = R := ⟨_, rfl⟩
  rw [hR]
  have HR := Lib.hid hR
  clear hR
  go_enter Try.func45, Try.ntmps45
  go_wp2
  go_loop [5, 6] (fun p i => ∃ P I : Nat, I ≤ t ∧ P ≤ 437893890380859375 ∧ P = d ^ I ∧ p = .int .i64 P ∧ i = .int .i64 I) (fun _ i => t - (intOf i).toNat)
  case atStart => exact ⟨1, 0, by omega, by omega, by simp, rfl, rfl⟩
  case round =>
    obtain ⟨P, I, hI, hP, hPe, rfl, rfl⟩ := hrel
    by_cases hlt : I < t
    · have hq : P * d = d ^ (I + 1) := by rw [hPe, Nat.pow_succ]
      have hq2 : P * d ≤ 437893890380859375 := by rw [hq]; exact Pl.pow_le15 hd (by omega)
      have HQ := Lib.hid hq
      have e : IntKind.i64.wrap ((P : Int) * (d : Int)) = ((P * d : Nat) : Int) := by
        rw [← Int.natCast_mul]; exact IntWalk.i64_in _ (by omega)
      have hi : (I : Int) < (t : Int) := by omega
      clear hq hPe
      generalize P * d = Q at *
      go_wp2
      go_round
      case rel => exact ⟨Q, I + 1, by omega, hq2, HQ.out, rfl, by simp⟩
      case measure => simp [intOf]; omega
    · obtain rfl : I = t := by omega
      have HP := Lib.hid hPe
      clear hPe
      go_wp2
      go_ret
      exact ⟨ret_int (by rw [HP.out, HR.out]), rfl⟩

/-- The sum of what the first j digits add. -/
def ruleTo (r : Nat) (D : List Nat) (j : Nat) : Nat := ((D.take j).map fun d => Pl.addR r d D.length).sum
theorem ruleTo_zero (r : Nat) (D : List Nat) : ruleTo r D 0 = 0 := by simp [ruleTo]
theorem ruleTo_succ (r : Nat) (D : List Nat) {j : Nat} (h : j < D.length) : ruleTo r D (j + 1) = ruleTo r D j + Pl.addR r (D[j]?.getD 0) D.length := by
  unfold ruleTo
  rw [List.take_succ_eq_append_getElem h, List.map_append, List.sum_append, List.getElem?_eq_getElem h]
  simp
theorem ruleTo_all {r b x : Nat} : ruleTo r (Pl.digs b x) (Pl.digs b x).length = Pl.ownN r b x := by
  unfold ruleTo Pl.ownN
  rw [List.take_length, Pl.digs, List.length_reverse, List.map_reverse, List.sum_reverse]
theorem ruleTo_le {r : Nat} {D : List Nat} (hD : ∀ x ∈ D, x < 16) (hl : D.length ≤ 15) (j : Nat) (hj : j ≤ D.length) : ruleTo r D j ≤ j * 437893890380859375 := by
  have := Pl.sum_le_mul (B := 437893890380859375) ((D.take j).map fun d => Pl.addR r d D.length) (fun x hx => by
    obtain ⟨d, hd, rfl⟩ := List.mem_map.1 hx
    exact Pl.addR_le (hD d (List.mem_of_mem_take hd)) hl)
  rw [List.length_map, List.length_take, Nat.min_eq_left hj] at this
  exact this
theorem digI_at (b x j : Nat) : (Pl.digI b x)[j]?.getD 0 = (((Pl.digs b x)[j]?.getD 0 : Nat) : Int) := by
  unfold Pl.digI
  rw [List.getElem?_map]
  cases (Pl.digs b x)[j]? <;> rfl

/-- What spec.l4Sum reads: the digits, in new memory. -/
structure DigRow (b x : Nat) (D : List Nat) (I : List Int) : Prop where
  ilen : I.length = D.length
  len1 : 1 ≤ D.length
  len : D.length ≤ 11
  small : ∀ j : Nat, D[j]?.getD 0 < 16
  small' : ∀ y ∈ D, y < 16
  at' : ∀ j : Nat, I[j]?.getD 0 = ((D[j]?.getD 0 : Nat) : Int)
  all : ∀ r, ruleTo r D D.length = Pl.ownN r b x
theorem digRow {b x : Nat} (hb : 2 ≤ b) (hb' : b ≤ 16) (hx : x ≤ 2000) : DigRow b x (Pl.digs b x) (Pl.digI b x) := by
  have hm : ∀ y ∈ Pl.digs b x, y < 16 := fun y hy => by
    rw [Pl.digs, List.mem_reverse] at hy
    have := Pl.digsR_mem hb x y hy; omega
  have hl : (Pl.digs b x).length = (Pl.digsR b x).length := by rw [Pl.digs, List.length_reverse]
  refine ⟨by rw [Pl.digI_len, hl], by rw [hl]; exact Pl.digsR_pos b x, by rw [hl]; exact Pl.len11 hb hx, fun j => ?_, hm, digI_at b x, fun r => ruleTo_all⟩
  by_cases h : j < (Pl.digs b x).length
  · rw [List.getElem?_eq_getElem h]; exact hm _ (List.getElem_mem h)
  · rw [List.getElem?_eq_none (by omega)]; simp

/-- One step of the sum by a rule. -/
theorem DigRow.next {b x : Nat} {D : List Nat} {I : List Int} (h : DigRow b x D I) (r : Nat) {K : Nat} (hK : K < D.length) :
    ∃ A S : Int, A = ((Pl.addR r (D[K]?.getD 0) D.length : Nat) : Int) ∧ S = ((ruleTo r D K : Nat) : Int) ∧ 0 ≤ A ∧ A ≤ 437893890380859375 ∧ 0 ≤ S ∧ S ≤ 4378938903808593750 ∧ S + A = ((ruleTo r D (K + 1) : Nat) : Int) := by
  have h1 := Pl.addR_le (r := r) (h.small K) (show D.length ≤ 15 by have := h.len; omega)
  have h2 := ruleTo_le (r := r) h.small' (by have := h.len; omega) K (by omega)
  have h3 := h.len
  refine ⟨_, _, rfl, rfl, by omega, by omega, by omega, by omega, ?_⟩
  rw [ruleTo_succ r D hK]; omega

theorem specOwn_not {n r b : Int} (h : ¬ Pl.ownB n r b = true) : (decide (0 ≤ n) && decide (n ≤ 2000)) = false ∨ ((decide (0 ≤ n) && decide (n ≤ 2000)) = true ∧ (decide (0 ≤ r) && decide (r ≤ 2)) = false) ∨
    ((decide (0 ≤ n) && decide (n ≤ 2000)) = true ∧ (decide (0 ≤ r) && decide (r ≤ 2)) = true ∧ (decide (2 ≤ b) && decide (b ≤ 10)) = false) := by
  rw [Pl.ownB_iff] at h
  simp only [Bool.and_eq_true, Bool.and_eq_false_iff, decide_eq_true_eq, decide_eq_false_iff_not]
  omega

end Go.Proofs.Ytepkneeedkmaoaa
