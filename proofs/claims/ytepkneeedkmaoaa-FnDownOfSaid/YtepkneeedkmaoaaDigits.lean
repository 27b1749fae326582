/-
  spec.l1Digits, spec.DigitsOf, impl.DigitsOf: the digits of a number, in new memory.
-/
import Derived.Test.YtepkneeedkmaoaaList
import Derived.Test.YtepkneeedkmaoaaSumOf
import Derived.Deep.AppendLies
import Derived.Deep.RegionLaw
import Derived.OwnWalk
import Derived.Maps.AppendAt
namespace Go.Proofs.Ytepkneeedkmaoaa
open Go.RowKit Go.Shelf

theorem info_int : (Try.prog.info? 3).map (fun i => (i.zero, i.size, i.bytes)) = some (some (.int .i64 0), 1, 8) := by kernel_rfl

/-- A call that hands back a new list of integers. -/
def ListPost (w : World) (xs : List Int) (e : Ending) (w' : World) : Prop := ∃ v, e = .returned v ∧ Row w.heap.size w' v xs ∧ Below w.heap.size w w'

theorem row_snoc {base : Nat} {w : World} {v : Value} {xs : List Int} {q : Int} (h : w.ownsRow base 3 1 v (xs.length + 1) (xs.map (Value.int .i64) ++ [.int .i64 q])) : Row base w v (xs ++ [q]) := by
  unfold Row; simpa using h

theorem below_append {B : Nat} {w w1 w2 : World} {e : TypeId} {size : Nat} {v : Value} {n : Nat} {xs : List Value} (h : Below B w w1) (hown : w1.ownsRow B e size v n xs) (hg : w1.grownBy w2 v.ownBlock) (hB : B ≤ w.heap.size := by exact Nat.le_refl _) : Below B w w2 :=
  h.grown hg (Nat.le_trans hB h.size) fun k e => (hown.lt k e).1

theorem row_one (w : World) (q : Int) : Row w.heap.size (w.alloc (.cells #[.int .i64 q] 3)) (.slice (some ⟨w.heap.size, 0, none⟩) 1 1) [q] :=
  World.ownsRow_lit w #[.int .i64 q] 1 (Nat.le_refl _) (by unfold maxLen; omega) (by simp)

theorem rev_step (xs : List Int) (k : Nat) (h : k < xs.length) : xs.reverse.take (k + 1) = xs.reverse.take k ++ [xs[xs.length - 1 - k]?.getD 0] := by
  rw [List.take_succ_eq_append_getElem (by simpa using h)]
  simp only [List.getElem_reverse]
  rw [List.getElem?_eq_getElem (by omega)]
  rfl

set_option maxHeartbeats 1000000 in
theorem reversed (v : Value) (xs : List Int) (w : World) (hv : Ints w v xs) (hx : xs.length ≤ 1000000000) :
    Calls Try.prog 58 #[v] w (ListPost w xs.reverse) := by
  obtain ⟨a, cap, rfl, ha⟩ := hv
  obtain ⟨i0, hi0, hz0, hz1, hz2⟩ := info_parts info_int
  obtain ⟨n, hn⟩ : ∃ n, xs.length = n := ⟨_, rfl⟩
  have HN := Lib.hid hn
  rw [hn] at ha hx ⊢
  clear hn
  go_enter Try.func58, Try.ntmps58
  go_wp2_with (at_make; refine wpList_make_own _ rfl _ _ 30 rfl w.heap.size 3 i0 (.int .i64 0) 1 Try.underlying30 hi0 hz0 hz1 .i64 .i64 _ n rfl rfl rfl (by rw [hz2]; omega) (by unfold maxLen; omega) (Nat.le_refl _) ?_; intro w0 hown0 hgrow0)
  have hb0 : Below w.heap.size w w0 := (Below.refl _ w).grown hgrow0 (Nat.le_refl _) (fun k e => by cases e)
  go_loopw [3, 10] (fun v' i wr => ∃ (k : Nat) (vv : Value), vv = v' ∧ k ≤ n ∧ i = .int .i64 k ∧ Row w.heap.size wr v' (xs.reverse.take k) ∧ Below w.heap.size w wr) (fun _ i _ => n - (intOf i).toNat)
  case atStart => exact ⟨0, _, rfl, Nat.zero_le _, rfl, hown0, hb0⟩
  case round =>
    obtain ⟨k, vv, rfl, hk, rfl, hr, hbl⟩ := hrel
    by_cases hlt : k < n
    · obtain ⟨b, off, rfl, hc⟩ := ha (n - 1 - k) (by omega)
      have hc' : wr.cell? ⟨b, off + (n - 1 - k), none⟩ = some (.int .i64 (xs[n - 1 - k]?.getD 0)) := (hbl.cell (p := ⟨b, off + (n - 1 - k), none⟩) (World.block_lt_of_cell? _ _ hc)).trans hc
      have HS := Lib.hid (rev_step xs k (by have := HN.out; omega))
      rw [HN.out] at HS
      have hlen : (xs.reverse.take k).length = k := by have := HN.out; simp; omega
      generalize hL : xs.reverse.take k = L at *
      generalize xs[n - 1 - k]?.getD 0 = q at *
      have hsz := hbl.size
      have hr' : wr.ownsRow w.heap.size 3 1 vv L.length (L.map (Value.int .i64)) := hr
      clear ha hc hb0 hown0 hgrow0 hL hr
      go_wp2_with (at_builtin; refine wpList_append_own _ rfl _ _ 30 rfl w.heap.size 3 i0 (.int .i64 0) 1 8 Try.underlying30 hi0 hz0 hz1 hz2 rfl (by decide) _ _ _ rfl (hr'.alloc _) ⟨wr.heap.size, 0, none⟩ 1 1 [.int .i64 q] rfl rfl (cell_one_new _ _ _) (by simp [Value.oneCell']) (by unfold maxLen; omega) (by omega) (by simp; omega) ?_; intro v2 w1 hown1 hgrow1 _)
      go_roundw
      case rel => exact ⟨k + 1, _, rfl, by omega, by go_num, by rw [HS.out]; exact row_snoc hown1, below_append (hbl.alloc hbl.size _) (hr'.alloc _) hgrow1⟩
      case measure => simp [intOf]; omega
    · obtain rfl : k = n := by omega
      have HR := Lib.hid hr
      have hfull : xs.reverse.take k = xs.reverse := List.take_of_length_le (by have := HN.out; simp; omega)
      have HF := Lib.hid hfull
      obtain ⟨a', cap', hv'⟩ := hr.shape
      clear ha hb0 hown0 hgrow0 hr hfull
      go_wp2
      go_ret
      exact ⟨_, rfl, by rw [← HF.out]; exact HR.out, hbl⟩

end Go.Proofs.Ytepkneeedkmaoaa
