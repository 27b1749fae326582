/-
  A region that draws its order and whose operations and callees write nothing that was there: one walk of the lexical order serves every order.
-/
import Derived.BigQuiet
import Derived.Below
import Derived.WalkKit
import Derived.Test.YtakkjlcnfkklpaaProg
namespace Go.Proofs.Ytakkjlcnfkklpaa
open Go.RowKit

theorem wp_region_calm {P : Program} {id : Nat} {Q : Exit → Act → World → Prop} {a : Act} {w : World} {l : List Oper} (hm : P.follows .mixedOrders = true) (hB : Region.lexB .any l.toArray = true)
    (h : wpQuiet P l.toArray (fun W => Below w.heap.size w W) (fun a' => ∀ W, Below w.heap.size w W → Q .normal a' W) l a) : (Code.region id l.toArray true).wp P Q a w :=
  wp_region_quiet (C := fun W => Below w.heap.size w W) hm hB ⟨rfl, rfl, rfl, Nat.le_refl _, fun _ _ => rfl⟩ (by simpa using h)

theorem Below.cell {B : Nat} {w W : World} (h : Below B w W) {p : Addr} {v : Value} (hp : p.block < B) (hc : w.cell? p = some v) : W.cell? p = some v := (World.cell?_of_block (w := w) (h.block _ hp)).trans hc

theorem Calm.call {P : Program} {f : FuncId} {args : Array Value} {w W : World} {v : Value} (hW : Below w.heap.size w W) (h : Calls P f args W fun e w' => e = .returned v ∧ Below W.heap.size W w') :
    Calls P f args W fun e w' => e = .returned v ∧ Below w.heap.size w w' := h.mono fun _ _ ⟨he, hb⟩ => ⟨he, hW.trans (hb.mono hW.size)⟩
theorem Calm.same {P : Program} {f : FuncId} {args : Array Value} {w W : World} {v : Value} (hW : Below w.heap.size w W) (h : Calls P f args W fun e w' => e = .returned v ∧ W = w') :
    Calls P f args W fun e w' => e = .returned v ∧ Below w.heap.size w w' := h.mono fun _ _ ⟨he, hb⟩ => ⟨he, hb ▸ hW⟩

end Go.Proofs.Ytakkjlcnfkklpaa
