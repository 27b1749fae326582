/-
  l1Digits, reversed, DigitsOf, LongOf, alive; the exact laws of DigitsOf and LongOf.
-/
import Derived.Test.YtgkkoegfmhgcjaaDoorList
import Derived.Test.YtgkkoegfmhgcjaaDoorSumOf
import Derived.Deep.AppendLies
import Derived.Deep.RegionLaw
import Derived.OwnWalk
import Derived.Maps.AppendAt
namespace Go.Proofs.YtgkkoegfmhgcjaaDoor
open Go.RowKit Go.Shelf

theorem info_int : (Tryd.prog.info? 3).map (fun i => (i.zero, i.size, i.bytes)) = some (some (.int .i64 0), 1, 8) := by kernel_rfl

/-- A call that hands back a new list of integers. -/
def ListPost (w : World) (xs : List Int) (e : Ending) (w' : World) : Prop := ∃ v, e = .returned v ∧ Row w.heap.size w' v xs ∧ Below w.heap.size w w'

theorem row_snoc {base : Nat} {w : World} {v : Value} {xs : List Int} {q : Int} (h : w.ownsRow base 3 1 v (xs.length + 1) (xs.map (Value.int .i64) ++ [.int .i64 q])) : Row base w v (xs ++ [q]) := by
  unfold Row; simpa using h

theorem below_append {B : Nat} {w w1 w2 : World} {e : TypeId} {size : Nat} {v : Value} {n : Nat} {xs : List Value} (h : Below B w w1) (hown : w1.ownsRow B e size v n xs) (hg : w1.grownBy w2 v.ownBlock) (hB : B ≤ w.heap.size := by exact Nat.le_refl _) : Below B w w2 :=
  h.grown hg (Nat.le_trans hB h.size) fun k e => (hown.lt k e).1

theorem row_one (w : World) (q : Int) : Row w.heap.size (w.alloc (.cells #[.int .i64 q] 3)) (.slice (some ⟨w.heap.size, 0, none⟩) 1 1) [q] :=
  World.ownsRow_lit w #[.int .i64 q] 1 (Nat.le_refl _) (by unfold maxLen; omega) (by simp)

theorem rev_step (xs : List Int) (k : Nat) (h : k < xs.length) : xs.reverse.take (k + 1) = xs.reverse.take k ++ [xs[xs.length - 1 - k]?.getD 0] := by
  rw [List.take_succ_eq_append_getElem (by simpa using h)]
  simp only [List.getElem_reverse]
  rw [List.getElem?_eq_getElem (by omega)]
  rfl

end Go.Proofs.YtgkkoegfmhgcjaaDoor

namespace Go.Proofs.YtgkkoegfmhgcjaaDoor
open Go.RowKit Go.Shelf

attribute [local go_sem] Oper.semAt_some

theorem row_empty (w : World) : Row w.heap.size (w.alloc (.cells #[] 3)) (.slice (some ⟨w.heap.size, 0, none⟩) 0 0) [] :=
  World.ownsRow_lit w #[] 0 (Nat.le_refl _) (by unfold maxLen; omega) (by simp)

/-- okB by its two halves, as spec's functions ask them. -/
theorem okB_halves (n b : Int) : Pl.okB n b = ((decide (0 ≤ n) && decide (n ≤ 1000000000)) && Pl.baseB b) := by simp [Pl.okB, Bool.and_comm]

/-- Behind 'out = append(out, ..)' in a loop over the iterator, the rows from n₁ on, the box below. -/
theorem appended' {W w1 : World} {n₁ B : Nat} {t e : TypeId} {v v' : Value} {k m : Nat} {xs ys : List Value} {tmp : Obj}
    (hv : Boxed W B t v) (hte : t ≠ e) (hrow : W.ownsRow n₁ e 1 v k xs) (hn₁ : n₁ ≤ W.heap.size) (hB : B < n₁) (hown' : w1.ownsRow n₁ e 1 v' m ys) (hgrow : (W.alloc tmp).grownBy w1 v.ownBlock) :
    Boxed w1 B t v ∧ Boxed (w1.setCell ⟨B, 0, none⟩ v') B t v' ∧ (w1.setCell ⟨B, 0, none⟩ v').ownsRow n₁ e 1 v' m ys ∧ KeepsOthers W (w1.setCell ⟨B, 0, none⟩ v') ∧ Below B W (w1.setCell ⟨B, 0, none⟩ v') ∧ Kept (B + 1) n₁ W (w1.setCell ⟨B, 0, none⟩ v') := by
  have hv1 : Boxed w1 B t v := (hv.alloc tmp).kept hgrow (hv.not_row hte hrow)
  refine ⟨hv1, hv1.set v', hown'.kept (grownBy_setCell' w1 B v') (.inr (hv1.not_row hte hown').symm), ?_, ?_, ?_⟩
  · refine ((KeepsOthers.alloc W tmp).trans (KeepsOthers.of_grownBy hgrow fun j o ej hj => ?_)).trans (KeepsOthers.setCell _ _ _)
    rcases (hrow.alloc tmp).2 with ⟨rfl, _⟩ | ⟨g, cap, cur, rfl, _, hgb, _⟩
    · simp [Value.ownBlock] at ej
    · obtain rfl : g = j := by simpa [Value.ownBlock] using ej
      rw [hgb] at hj; cases hj; rfl
  · refine (((Below.refl B W).alloc (by omega) tmp).grown hgrow (by simp; omega) fun j ej => ?_).setCell (p := ⟨B, 0, none⟩) (Nat.le_refl _) v'
    have := (hrow.lt j ej).1; omega
  · intro k h1 h2
    rw [Below.heap_setCell _ _ _ _ (by simp; omega), hgrow.block k (by simp; omega) (fun e => by have := (hrow.lt k e.symm).1; omega)]
    exact Below.heap_alloc _ _ _ (by omega)

/-- What has come, as integers. -/
def intsDg (l : List Pl.Dg) : List Int := l.map fun d => (d.1 : Int)
theorem intsDg_len (l : List Pl.Dg) : (intsDg l).length = l.length := by simp [intsDg]

theorem rev_digs {b x : Nat} (hb : 2 ≤ b) (hb' : b ≤ 16) : (intsDg (Pl.digsF b x)).reverse = Pl.digI b x := by
  have h : intsDg (Pl.digsF b x) = (Pl.digsR b x).map fun d : Nat => (d : Int) := by
    rw [← Pl.digsF_val (n := x) hb hb']; simp [intsDg]
  rw [h, Pl.digI, Pl.digs, List.map_reverse]

theorem _root_.Go.World.ownsRow.mono' {w : World} {base base' : Nat} {e : TypeId} {size : Nat} {v : Value} {n : Nat} {xs : List Value} (h : w.ownsRow base e size v n xs) (hb : base' ≤ base) : w.ownsRow base' e size v n xs := by
  rcases h with ⟨h1, h2 | ⟨g, cap, cur, hv, hg, r⟩⟩
  · exact ⟨h1, .inl h2⟩
  · exact ⟨h1, .inr ⟨g, cap, cur, hv, Nat.le_trans hb hg, r⟩⟩

/-- How many digits, as the functions answer: -1 for others. -/
def longI (n b : Int) : Int := if Pl.okB n b = true then ((Pl.digA n b).length : Int) else -1

theorem longI_nat (x k : Nat) (h : Pl.okB x k = true) : longI x k = ((Pl.digsR k x).length : Int) := by
  rw [longI, if_pos h, Pl.digA_yes x k h, Pl.digI_len]

set_option maxHeartbeats 400000 in
theorem alive (w : World) : Calls Tryd.prog 7 #[] w fun e w' => e = .returned (.bool true) ∧ w = w' := by
  go_enter Tryd.func7, Tryd.ntmps7
  go_wp2_with (go_at_call 20; refine (implBaseOk _ _).mono ?_; rintro e w' ⟨rfl, rfl⟩)
  go_ret
  exact ⟨ret_bool (by decide), rfl⟩

theorem alive_q (w : World) : Calls Tryd.prog 7 #[] w fun e w' => e = .returned (.bool true) ∧ w' = w := (alive w).mono fun _ _ h => ⟨h.1, h.2.symm⟩

end Go.Proofs.YtgkkoegfmhgcjaaDoor

namespace Go.Proofs.YtgkkoegfmhgcjaaDoor
open Go.RowKit

theorem eqL_self (xs : List Int) : eqL xs xs = true := by simp [eqL]

theorem Ints.kept {w w' : World} {v : Value} {xs : List Int} (h : Ints w v xs) {B : Nat} (hB : w.heap.size ≤ B) (hb : Below B w w') : Ints w' v xs := h.below (hb.mono hB)

end Go.Proofs.YtgkkoegfmhgcjaaDoor
