/-
  A ring of digits (a struct with a slice): its methods at and same.
-/
import Derived.BigQuiet
import Derived.Test.YtnogcoijlnnbdaaRoundOf8
import Derived.Test.YtnogcoijlnnbdaaSpecHalves
namespace Go.Proofs.Ytnogcoijlnnbdaa
open Go.RowKit Go.Shelf

/-- A box that holds a ring, and what writes nothing of before. -/
theorem ring_box {w w1 : World} {a : Option Addr} {m cap : Nat} {q : Int} (h : Below (w.heap.size + 1) (w.alloc (.cells #[.slice a m cap, .int .i64 q] 48)) w1) :
    w1.cell? ⟨w.heap.size, 0, none⟩ = some (.slice a m cap) ∧ w1.cell? ⟨w.heap.size, 1, none⟩ = some (.int .i64 q) ∧ Below w.heap.size w w1 ∧ w.heap.size < w1.heap.size :=
  ⟨(Below.cell h (p := ⟨w.heap.size, 0, none⟩) (by simp)).trans (by rw [World.cell?_alloc_new]; rfl), (Below.cell h (p := ⟨w.heap.size, 1, none⟩) (by simp)).trans (by rw [World.cell?_alloc_new]; rfl),
    ((Below.refl _ w).alloc (Nat.le_refl _) _).trans (h.mono (by omega)), by have := h.size; simp at this; omega⟩

set_option maxRecDepth 100000 in
set_option maxHeartbeats 2000000 in
theorem ringAt (v : Value) (L : List Int) (m q j : Nat) (hm : L.length = m) (h0 : 1 ≤ m) (hmx : m ≤ 1000000000) (hq : q ≤ 1000000000) (hj : j ≤ 1000000000) (w : World) (hv : Ints w v L) :
    Calls Try.prog 48 #[.agg #[v, .int .i64 (q : Int)], .int .i64 (j : Int)] w fun e w' => e = .returned (.int .i64 (L[(q + j) % m]?.getD 0)) ∧ Below w.heap.size w w' := by
  obtain ⟨a, cap, rfl, ha⟩ := hv
  obtain ⟨J, hJ⟩ : ∃ J, (q + j) % m = J := ⟨_, rfl⟩
  have hJm : J < m := by rw [← hJ]; exact Nat.mod_lt _ (by omega)
  obtain ⟨b1, o1, rfl, c1⟩ := ha J (by omega)
  rw [hm] at *
  clear ha hm
  rw [hJ]
  generalize L[J]?.getD 0 = D at *
  have e1 : IntKind.i64.wrap ((q : Int) + (j : Int)) = ((q + j : Nat) : Int) := by rw [← Int.natCast_add]; exact IntWalk.i64_in _ (by omega)
  have e2 : ((q + j : Nat) : Int).tmod (m : Int) = (J : Int) := by rw [← hJ]; rfl
  have e3 : ((q + j : Nat) : Int) % (m : Int) = (J : Int) := by rw [← hJ]; rfl
  have hm0 : ((m : Int) == 0) = false := by simp; omega
  have hm1 : ¬ m = 0 := by omega
  have hJi : (J : Int) < (m : Int) := by omega
  clear hJ
  generalize hS : ((q + j : Nat) : Int) = S at *
  go_enter Try.func48, Try.ntmps48
  obtain ⟨d0, d1, hb, hlt⟩ := ring_box (w := w) (a := some ⟨b1, o1, none⟩) (m := m) (cap := cap) (q := (q : Int)) (Below.refl _ _)
  have c2 : (w.alloc (.cells #[.slice (some ⟨b1, o1, none⟩) m cap, .int .i64 (q : Int)] 48)).cell? ⟨b1, o1 + J, none⟩ = some (.int .i64 D) := cell_alloc_l _ c1
  go_wp2_with fail
  go_big_quiet (fail)
  go_wp2_with fail
  go_ret
  exact ⟨rfl, hb.trans ((drewN_below _ nq).mono hb.size)⟩

set_option maxRecDepth 100000 in
set_option maxHeartbeats 1000000 in
theorem ringSame (v v2 : Value) (L M : List Int) (m q : Nat) (hm : L.length = m) (h0 : 1 ≤ m) (hmx : m ≤ 1000000) (hq : q ≤ 1000000) (w : World) (hv : Ints w v L) (hv2 : Ints w v2 M) (R : Bool)
    (hR : R = true ↔ M.length = m ∧ ∀ j, j < m → L[(q + j) % m]?.getD 0 = M[j]?.getD 0) :
    Calls Try.prog 49 #[.agg #[v, .int .i64 (q : Int)], v2] w fun e w' => e = .returned (.bool R) ∧ Below w.heap.size w w' := by
  have HAT : Hid (∀ (j : Nat) (W : World), j ≤ 1000000 → Below w.heap.size w W → Calls Try.prog 48 #[.agg #[v, .int .i64 (q : Int)], .int .i64 (j : Int)] W fun e w' => e = .returned (.int .i64 (L[(q + j) % m]?.getD 0)) ∧ Below W.heap.size W w') :=
    Lib.hid fun j W hj hW => ringAt v L m q j hm h0 (by omega) (by omega) (by omega) W (hv.below hW)
  obtain ⟨a, cap, rfl, _⟩ := hv
  obtain ⟨a2, cap2, rfl, ha2⟩ := hv2
  rw [hm] at HAT ⊢
  clear hm
  by_cases hl : M.length = m
  · rw [hl] at hR ha2 ⊢
    have HR := Lib.hid hR
    clear hR hl
    have HA2 := Lib.hid ha2
    clear ha2
    go_enter Try.func49, Try.ntmps49
    obtain ⟨d0, d1, hb, hlt⟩ := ring_box (w := w) (a := a) (m := m) (cap := cap) (q := (q : Int)) (Below.refl _ _)
    go_wp2_with fail
    go_loopw [15] (fun iv wr => ∃ i : Nat, i ≤ m ∧ iv = .int .i64 i ∧ (∀ j, j < i → L[(q + j) % m]?.getD 0 = M[j]?.getD 0) ∧ Below (w.heap.size + 1) (w.alloc (.cells #[.slice a m cap, .int .i64 (q : Int)] 48)) wr) (fun iv _ => m - (intOf iv).toNat)
    case atStart => exact ⟨0, Nat.zero_le _, rfl, fun j hj => by omega, Below.refl _ _⟩
    case round =>
      obtain ⟨i, hi, rfl, hall, hbw⟩ := hrel
      have HALL := Lib.hid hall
      clear hall d0 d1 hb hlt
      obtain ⟨d0, d1, hb, hlt⟩ := ring_box hbw
      by_cases hil : i < m
      · have hii : (i : Int) < (m : Int) := by omega
        obtain ⟨b1, o1, rfl, c1⟩ := HA2.out i (by omega)
        have c2 := (World.cell?_of_block (w := w) (hb.block _ (lt_of_heap (cells_of_cell c1).choose_spec.1))).trans c1
        have HAT1 := Lib.hid (HAT.out i wr (by omega) hb)
        clear c1 HAT
        generalize hP : M[i]?.getD 0 = P at *
        generalize hQ : L[(q + i) % m]?.getD 0 = Q at *
        have HP := Lib.hid hP
        have HQ := Lib.hid hQ
        clear hP hQ
        by_cases he : Q = P
        · have ht : (Q != P) = false := by simp [he]
          have HE := Lib.hid he
          clear he
          go_wp2_with fail
          refine HAT1.out.mono ?_
          rintro e w2 ⟨rfl, hb2⟩
          have hbw2 := hbw.trans (hb2.mono (by omega))
          clear d0 d1 hb
          go_wp2_with fail
          go_roundw
          case rel => exact ⟨i + 1, by omega, by go_num, fun j hj => by
            by_cases h : j = i
            · rw [h, HP.out, HQ.out]; exact HE.out
            · exact HALL.out j (by omega), hbw2⟩
          case measure => simp [intOf]; omega
        · have ht : (Q != P) = true := by simp [he]
          have HF : Hid (R = false) := Lib.hid (by
            rw [← Bool.not_eq_true]
            intro hh
            refine he ?_
            rw [← HP.out, ← HQ.out]
            exact (HR.out.1 hh).2 i hil)
          clear he
          go_wp2_with fail
          refine HAT1.out.mono ?_
          rintro e w2 ⟨rfl, hb2⟩
          have hbw2 := hb.trans (hb2.mono hb.size)
          clear d0 d1
          go_wp2_with fail
          go_ret
          exact ⟨ret_bool (by rw [HF.out]), hbw2⟩
      · obtain rfl : i = m := by omega
        have hii : ¬ (i : Int) < (i : Int) := by omega
        have HT : Hid (R = true) := Lib.hid (HR.out.2 ⟨by trivial, HALL.out⟩)
        go_wp2_with fail
        go_ret
        exact ⟨ret_bool (by rw [HT.out]), hb⟩
  · have HF : Hid (R = false) := Lib.hid (by
      rw [← Bool.not_eq_true]
      intro hh
      exact hl (hR.1 hh).1)
    have ht : (((M.length : Nat) : Int) != (m : Int)) = true := by rw [bne_iff_ne]; omega
    clear hR hl ha2 HAT
    generalize M.length = N at *
    go_enter Try.func49, Try.ntmps49
    obtain ⟨d0, d1, hb, hlt⟩ := ring_box (w := w) (a := a) (m := m) (cap := cap) (q := (q : Int)) (Below.refl _ _)
    go_wp2_with fail
    go_ret
    exact ⟨ret_bool (by rw [HF.out]), hb⟩

end Go.Proofs.Ytnogcoijlnnbdaa
