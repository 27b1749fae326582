/-
  impl.lastFirst, the range over function; impl and spec of SumOf.
-/
import Derived.RangeFuncNested
import Derived.RangeFuncBound
import Derived.RangeFuncCalls
import Derived.RangeFuncLeaves
import Derived.RangeFuncBox
import Derived.Shelf.Abstract
import Derived.Shelf.RegionOpen
import Derived.WalkKit
import Derived.OwnWalkIn
import Derived.TacticsInMore
import Derived.LoopNIn
import Derived.LoopIn
import Derived.Lib.Hide
import Derived.Test.YtgkkoegfmhgcjaaDoorProg
import Derived.Test.YtgkkoegfmhgcjaaDoorMath
import Derived.Test.YtgkkoegfmhgcjaaDoorList
namespace Go.Proofs.YtgkkoegfmhgcjaaDoor
open Go.RowKit Go.Shelf

attribute [local go_sem] Oper.semAt_some

theorem cell_new_l (W : World) (v : Value) (t : TypeId) : (W.alloc (.cells #[v] t)).cell? ⟨W.heap.size, 0, none⟩ = some v ∧ (W.alloc (.cells #[v] t)).frozen? ⟨W.heap.size, 0, none⟩ = false := ⟨(Boxed.new W t v).cell, (Boxed.new W t v).frozen⟩
theorem cell_alloc_l {W : World} {a : Addr} {v : Value} (o : Obj) (h : W.cell? a = some v) : (W.alloc o).cell? a = some v := cell_kept h (World.grownBy_alloc W o none) (fun r e => by cases e)
theorem frozen_alloc_l {W : World} {a : Addr} {v : Value} (o : Obj) (h : W.cell? a = some v) (hf : W.frozen? a = false) : (W.alloc o).frozen? a = false := (frozen_kept h (World.grownBy_alloc W o none) (fun r e => by cases e)).trans hf

/-- What a round keeps: the blocks from B1 up to B2 lie as they lay. -/
def Kept (B1 B2 : Nat) (W W' : World) : Prop := ∀ k, B1 ≤ k → k < B2 → W'.heap[k]? = W.heap[k]?
theorem Kept.refl {B1 B2 : Nat} (W : World) : Kept B1 B2 W W := fun _ _ _ => rfl
theorem Kept.trans {B1 B2 : Nat} {A B C : World} (h : Kept B1 B2 A B) (k : Kept B1 B2 B C) : Kept B1 B2 A C := fun i h1 h2 => (k i h1 h2).trans (h i h1 h2)
theorem Kept.cell {B1 B2 : Nat} {W W' : World} (h : Kept B1 B2 W W') {p : Addr} (h1 : B1 ≤ p.block) (h2 : p.block < B2) : W'.cell? p = W.cell? p := World.cell?_of_block (w := W) (h _ h1 h2)
theorem Kept.setCell {B1 B2 : Nat} {A W : World} (h : Kept B1 B2 A W) {p : Addr} (hp : p.block < B1 ∨ B2 ≤ p.block) (u : Value) : Kept B1 B2 A (W.setCell p u) :=
  h.trans fun k h1 h2 => Below.heap_setCell _ _ _ _ (by omega)
theorem Kept.alloc {B1 B2 : Nat} {A W : World} (h : Kept B1 B2 A W) (hB : B2 ≤ W.heap.size) (o : Obj) : Kept B1 B2 A (W.alloc o) := h.trans fun k h1 h2 => Below.heap_alloc _ _ _ (by omega)
theorem Kept.drew {B1 B2 : Nat} {A W : World} (h : Kept B1 B2 A W) : Kept B1 B2 A W.drew := h
theorem Kept.of_below {B1 B2 : Nat} {A W : World} (h : Below B2 A W) : Kept B1 B2 A W := fun k _ h2 => h.block k h2
theorem kept_b {B1 B2 : Nat} {w : World} (hB : B2 ≤ w.heap.size) (W : World) (l : Nat) (o o' : Obj) (hl : w.heap.size ≤ l) (_ : W.heap[l]? = some o) (_ : o.isCells = false) (_ : o.isWalk = false) : Kept B1 B2 W (W.putObj l o') :=
  fun k _ h2 => World.putObj_heap_other (by omega)

end Go.Proofs.YtgkkoegfmhgcjaaDoor

namespace Go.Proofs.YtgkkoegfmhgcjaaDoor
open Go.RowKit Go.Shelf

attribute [local go_sem] Oper.semAt_some

/-- The sum of what has come. -/
def sumDg (l : List Pl.Dg) : Nat := (l.map (·.1)).sum
theorem sumDg_snoc (l : List Pl.Dg) (d : Pl.Dg) : sumDg (l ++ [d]) = sumDg l + d.1 := by simp [sumDg]
theorem sumDg_le (l : List Pl.Dg) : sumDg l ≤ 16 * l.length := by
  induction l with
  | nil => simp [sumDg]
  | cons a l ih => simp only [sumDg, List.map_cons, List.sum_cons, List.length_cons] at *; have := a.2; omega

end Go.Proofs.YtgkkoegfmhgcjaaDoor
