/-
  Slices of integers as lists: what a slice value holds ('Ints'), what a call owns ('Row'); the comparison of two lists.
-/
import Derived.Test.YtepkneeedkmaoaaBase
import Derived.Test.YtepkneeedkmaoaaRow
import Derived.Deep.QuietTactic
import Derived.BigQuiet
import Derived.OpenShut
import Derived.RangeFuncBox
namespace Go.Proofs.Ytepkneeedkmaoaa
open Go.RowKit

/-- The slice value v holds the integers xs. -/
def Ints (w : World) (v : Value) (xs : List Int) : Prop :=
  ∃ a cap, v = .slice a xs.length cap ∧ ∀ j, j < xs.length → ∃ b off, a = some ⟨b, off, none⟩ ∧ w.cell? ⟨b, off + j, none⟩ = some (.int .i64 (xs[j]?.getD 0))

/-- The slice value v owns the integers xs, in a block from 'base' on. -/
def Row (base : Nat) (w : World) (v : Value) (xs : List Int) : Prop := w.ownsRow base 3 1 v xs.length (xs.map (Value.int .i64))

theorem Ints.below {w w' : World} {v : Value} {xs : List Int} (h : Ints w v xs) (hb : Below w.heap.size w w') : Ints w' v xs := by
  obtain ⟨a, cap, hv, hc⟩ := h
  refine ⟨a, cap, hv, fun j hj => ?_⟩
  obtain ⟨b, off, ha, hx⟩ := hc j hj
  exact ⟨b, off, ha, (hb.cell (p := ⟨b, off + j, none⟩) (World.block_lt_of_cell? _ _ hx)).trans hx⟩

theorem Row.shape {base : Nat} {w : World} {v : Value} {xs : List Int} (h : Row base w v xs) : ∃ a cap, v = .slice a xs.length cap := by
  rcases h.2 with ⟨rfl, h0⟩ | ⟨g, cap, cur, rfl, _⟩
  · rw [h0]; exact ⟨none, 0, rfl⟩
  · exact ⟨_, cap, rfl⟩

theorem Row.ints {base : Nat} {w : World} {v : Value} {xs : List Int} (h : Row base w v xs) : Ints w v xs := by
  have h' := h
  rcases h.2 with ⟨rfl, h0⟩ | ⟨g, cap, cur, rfl, _⟩
  · rw [List.length_eq_zero_iff] at h0; subst h0; exact ⟨none, 0, rfl, fun j hj => by simp at hj⟩
  · refine ⟨_, cap, rfl, fun j hj => ⟨g, 0, rfl, ?_⟩⟩
    have := World.ownsRow.cellAt h' j (by omega)
    rw [Nat.zero_add, this]
    simp [hj]

theorem lt_of_heap {w : World} {b : Nat} {o : Obj} (h : w.heap[b]? = some o) : b < w.heap.size := by
  rcases Nat.lt_or_ge b w.heap.size with h' | h'
  · exact h'
  · simp [Array.getElem?_eq_none h'] at h

theorem Row.below {base : Nat} {w w' : World} {v : Value} {xs : List Int} (h : Row base w v xs) (hb : Below w.heap.size w w') : Row base w' v xs := by
  rcases h with ⟨h1, h2 | ⟨g, cap, cur, hv, hg, hh, r⟩⟩
  · exact ⟨h1, .inl h2⟩
  · exact ⟨h1, .inr ⟨g, cap, cur, hv, hg, by rw [hb.block g (lt_of_heap hh)]; exact hh, r⟩⟩

theorem Row.mono {base base' : Nat} {w : World} {v : Value} {xs : List Int} (h : Row base w v xs) (hb : base' ≤ base) : Row base' w v xs := by
  rcases h with ⟨h1, h2 | ⟨g, cap, cur, hv, hg, r⟩⟩
  · exact ⟨h1, .inl h2⟩
  · exact ⟨h1, .inr ⟨g, cap, cur, hv, Nat.le_trans hb hg, r⟩⟩

theorem IsRow.ints {w : World} {a : Option Addr} {len cap : Nat} {zs : List Int} (h : IsRow .i64 w a len cap zs) : Ints w (.slice a len cap) (zs.take len) ∧ (zs.take len).length = len := by
  rcases h with ⟨rfl, rfl, rfl, rfl⟩ | ⟨x, rfl, hl, hm, hz, hc, hw⟩
  · exact ⟨⟨none, 0, rfl, fun j hj => by simp at hj⟩, rfl⟩
  · have hlen : (zs.take len).length = len := by simp; omega
    refine ⟨⟨some x, cap, by rw [hlen], fun j hj => ?_⟩, hlen⟩
    rw [hlen] at hj
    have hcj := hc j (by omega)
    have hs := World.cell?_spot hcj
    obtain ⟨b, off, spot⟩ := x
    have hs : spot = none := by
      simp only [Addr.add] at hs
      split at hs
      · exact hs
      · exact (by simpa [Addr.add] using World.cell?_spot (hc 0 (by omega)))
    subst hs
    refine ⟨b, off, rfl, ?_⟩
    have e : (⟨b, off, none⟩ : Addr).add j = ⟨b, off + j, none⟩ := by
      simp only [Addr.add]; split
      · subst j; rfl
      · rfl
    rw [e] at hcj
    rw [hcj, List.getD_eq_getElem?_getD, List.getElem?_take, if_pos hj]

theorem take_succ_eq {xs ys : List Int} (hl : xs.length = ys.length) {k : Nat} (hk : k < xs.length) (h : xs.take k = ys.take k) (he : xs[k]?.getD 0 = ys[k]?.getD 0) : xs.take (k + 1) = ys.take (k + 1) := by
  rw [List.take_succ_eq_append_getElem hk, List.take_succ_eq_append_getElem (hl ▸ hk), h]
  simp only [List.getElem?_eq_getElem hk, List.getElem?_eq_getElem (hl ▸ hk : k < ys.length), Option.getD_some] at he
  rw [he]

theorem drewN_below (w : World) (n : Nat) : Below w.heap.size w (w.drewN n) := ⟨rfl, rfl, rfl, Nat.le_refl _, fun _ _ => rfl⟩

/-- Whether two lists are equal. -/
def eqL (xs ys : List Int) : Bool := decide (xs = ys)

set_option maxHeartbeats 800000 in
theorem sameInts (u v : Value) (xs ys : List Int) (w : World) (hu : Ints w u xs) (hv : Ints w v ys) (hx : xs.length ≤ 1000000000) :
    Calls Try.prog 34 #[u, v] w fun e w' => e = .returned (.bool (eqL xs ys)) ∧ Below w.heap.size w w' := by
  obtain ⟨a, cap, rfl, ha⟩ := hu
  obtain ⟨b, cbp, rfl, hb⟩ := hv
  by_cases hl : xs.length = ys.length
  · have hne : ((xs.length : Int) != (ys.length : Int)) = false := by simp [hl]
    have HL := Lib.hid hl
    clear hl
    go_enter Try.func34, Try.ntmps34
    go_wp2
    go_loopw [5] (fun i wr => ∃ (k n : Nat), k ≤ xs.length ∧ i = .int .i64 k ∧ xs.take k = ys.take k ∧ wr = w.drewN n) (fun i _ => xs.length - (intOf i).toNat)
    case atStart => exact ⟨0, 0, Nat.zero_le _, rfl, rfl, rfl⟩
    case round =>
      obtain ⟨k, n, hk, rfl, ht, rfl⟩ := hrel
      by_cases hlt : k < xs.length
      · obtain ⟨b1, o1, rfl, c1⟩ := ha k hlt
        obtain ⟨b2, o2, rfl, c2⟩ := hb k (by rw [← HL.out]; exact hlt)
        clear ha hb
        generalize hp : xs[k]?.getD 0 = p at *
        generalize hq : ys[k]?.getD 0 = q at *
        have HP := Lib.hid hp
        have HQ := Lib.hid hq
        have HT := Lib.hid ht
        clear hp hq ht
        have hi1 : (k : Int) < (xs.length : Int) := by omega
        have hi2 : (k : Int) < (ys.length : Int) := by have := HL.out; omega
        go_wp2
        go_quiet (fail)
        go_wp2
        · have hd : (p != q) = true := by assumption
          go_ret
          refine ⟨ret_bool ?_, (drewN_below _ _).trans ((drewN_below (w.drewN n) nq).mono (Nat.le_refl _))⟩
          have : xs ≠ ys := fun e => by
            rw [← HP.out, ← HQ.out, e] at hd; simp at hd
          simp [eqL, this]
        · have hd : (p != q) = false := by assumption
          have he : p = q := by simpa using hd
          refine ⟨⟨k + 1, n + nq, by omega, by go_num, take_succ_eq HL.out hlt HT.out (by rw [HP.out, HQ.out, he]), rfl⟩, by simp [intOf]; omega⟩
      · obtain rfl : k = xs.length := by omega
        have he : xs = ys := by
          rw [List.take_length, HL.out, List.take_length] at ht; exact ht
        clear ha hb ht
        have HE := Lib.hid he
        clear he
        go_wp2
        go_ret
        exact ⟨ret_bool (by simp [eqL, HE.out]), drewN_below _ _⟩
  · have hne : ((xs.length : Int) != (ys.length : Int)) = true := by simp; omega
    have hnq : xs ≠ ys := fun e => hl (by rw [e])
    clear hl ha hb
    go_enter Try.func34, Try.ntmps34
    go_wp2
    go_ret
    exact ⟨ret_bool (by simp [eqL, hnq]), Below.refl _ _⟩

set_option maxHeartbeats 800000 in
theorem eqIntS (u v : Value) (xs ys : List Int) (w : World) (hu : Ints w u xs) (hv : Ints w v ys) (hx : xs.length ≤ 1000000000) :
    Calls Try.prog 37 #[u, v] w fun e w' => e = .returned (.bool (eqL xs ys)) ∧ Below w.heap.size w w' := by
  obtain ⟨a, cap, rfl, ha⟩ := hu
  obtain ⟨b, cbp, rfl, hb⟩ := hv
  by_cases hl : xs.length = ys.length
  · have hne : ((xs.length : Int) != (ys.length : Int)) = false := by simp [hl]
    have HL := Lib.hid hl
    clear hl
    go_enter Try.func37, Try.ntmps37
    go_wp2
    go_loopw [5] (fun i wr => ∃ (k n : Nat), k ≤ xs.length ∧ i = .int .i64 k ∧ xs.take k = ys.take k ∧ wr = w.drewN n) (fun i _ => xs.length - (intOf i).toNat)
    case atStart => exact ⟨0, 0, Nat.zero_le _, rfl, rfl, rfl⟩
    case round =>
      obtain ⟨k, n, hk, rfl, ht, rfl⟩ := hrel
      by_cases hlt : k < xs.length
      · obtain ⟨b1, o1, rfl, c1⟩ := ha k hlt
        obtain ⟨b2, o2, rfl, c2⟩ := hb k (by rw [← HL.out]; exact hlt)
        clear ha hb
        generalize hp : xs[k]?.getD 0 = p at *
        generalize hq : ys[k]?.getD 0 = q at *
        have HP := Lib.hid hp
        have HQ := Lib.hid hq
        have HT := Lib.hid ht
        clear hp hq ht
        have hi1 : (k : Int) < (xs.length : Int) := by omega
        have hi2 : (k : Int) < (ys.length : Int) := by have := HL.out; omega
        go_wp2
        go_quiet (fail)
        go_wp2
        · have hd : (p != q) = true := by assumption
          go_ret
          refine ⟨ret_bool ?_, (drewN_below _ _).trans ((drewN_below (w.drewN n) nq).mono (Nat.le_refl _))⟩
          have : xs ≠ ys := fun e => by
            rw [← HP.out, ← HQ.out, e] at hd; simp at hd
          simp [eqL, this]
        · have hd : (p != q) = false := by assumption
          have he : p = q := by simpa using hd
          refine ⟨⟨k + 1, n + nq, by omega, by go_num, take_succ_eq HL.out hlt HT.out (by rw [HP.out, HQ.out, he]), rfl⟩, by simp [intOf]; omega⟩
      · obtain rfl : k = xs.length := by omega
        have he : xs = ys := by
          rw [List.take_length, HL.out, List.take_length] at ht; exact ht
        clear ha hb ht
        have HE := Lib.hid he
        clear he
        go_wp2
        go_ret
        exact ⟨ret_bool (by simp [eqL, HE.out]), drewN_below _ _⟩
  · have hne : ((xs.length : Int) != (ys.length : Int)) = true := by simp; omega
    have hnq : xs ≠ ys := fun e => hl (by rw [e])
    clear hl ha hb
    go_enter Try.func37, Try.ntmps37
    go_wp2
    go_ret
    exact ⟨ret_bool (by simp [eqL, hnq]), Below.refl _ _⟩

end Go.Proofs.Ytepkneeedkmaoaa
