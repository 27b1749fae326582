/-
  Arguments: a slice of deeds, a slice of texts, as they come in.
-/
import Derived.Deep.SlicePairs
import Derived.SliceStrings
import Derived.ChangeSlices
import Derived.Test.YtakkjlcnfkklpaaStructs
namespace Go.Proofs.Ytakkjlcnfkklpaa
open Go.RowKit Go.Shelf Go.ChangeShapes

/-- An address whose cells lie plainly. -/
theorem plain_addr {w : World} {x : Addr} {v : Value} (h : w.cell? (x.add 0) = some v) : ∃ b off, x = ⟨b, off, none⟩ := by
  obtain ⟨b, off, spot⟩ := x
  have hs := World.cell?_spot h
  simp only [Addr.add] at hs
  exact ⟨b, off, by rw [show spot = none by simpa using hs]⟩

/-- A slice of deeds that came in. -/
theorem deeds_in {H : Type} {enc : TypeId × Value → H} {W : World} {base : Nat} {spare : Nat → Bool} {held : Bool} {fuel : Nat} {v : Value} {x : DataW H × List MemPlace} (h : DataW.trod enc Try.prog W base spare held fuel 55 [v] = some x) :
    ∃ (a : Option Addr) (len cap : Nat) (ds : List (Int × Int)), v = .slice a len cap ∧ Deeds W (.slice a len cap) ds ∧ ds.length = len ∧ len ≤ maxLen := by
  rcases Go.Deep.open_slice_pairs Try.underlying55 Try.underlying52 (by kernel_rfl) rfl rfl (by kernel_rfl) (by kernel_rfl) h with ⟨hcs, _⟩ | ⟨a, len, cap, m, n, V0, V1, D0, D1, P0, P1, hcs, _, hl, hm, hmm, _, hc⟩
  · simp at hcs
    exact ⟨none, 0, 0, [], hcs, ⟨none, 0, rfl, fun j hj => by simp at hj⟩, rfl, by unfold maxLen; omega⟩
  · simp at hcs
    have hlm : len ≤ m := by rw [hmm]; split <;> omega
    have hv : ∀ i, i < m → V0 i = .int .i64 (intOf (V0 i)) ∧ V1 i = .int .i64 (intOf (V1 i)) := fun i hi => by
      obtain ⟨_, _, t0, t1⟩ := hc i hi
      obtain ⟨p, hp, _, _⟩ := DataW.trod_int Try.underlying3 t0
      obtain ⟨q, hq, _, _⟩ := DataW.trod_int Try.underlying3 t1
      simp only [List.cons.injEq, and_true] at hp hq
      rw [hp, hq]; exact ⟨rfl, rfl⟩
    refine ⟨some a, len, cap, (List.range len).map fun i => (intOf (V0 i), intOf (V1 i)), hcs, ⟨some a, cap, by simp, fun j hj => ?_⟩, by simp, by omega⟩
    have hj' : j < len := by simpa using hj
    obtain ⟨b, off, rfl⟩ := plain_addr (hc 0 (by omega)).1
    obtain ⟨c0, c1, _, _⟩ := hc j (by omega)
    obtain ⟨e0, e1⟩ := hv j (by omega)
    rw [Addr.add_lit] at c0 c1
    refine ⟨b, off, rfl, ?_, ?_⟩
    · rw [c0, e0]; simp [hj', intOf]
    · rw [c1, e1]; simp [hj', intOf]

/-- The slice value v holds the texts ts. -/
def Texts (w : World) (v : Value) (ts : List ByteArray) : Prop :=
  ∃ a cap, v = .slice a ts.length cap ∧ ∀ j, j < ts.length → ∃ b off, a = some ⟨b, off, none⟩ ∧ w.cell? ⟨b, off + j, none⟩ = some (.string (ts[j]?.getD ByteArray.empty))
theorem Texts.below {w w' : World} {v : Value} {ts : List ByteArray} (h : Texts w v ts) (hb : Below w.heap.size w w') : Texts w' v ts := by
  obtain ⟨a, cap, hv, hc⟩ := h
  refine ⟨a, cap, hv, fun j hj => ?_⟩
  obtain ⟨b, off, ha, hx⟩ := hc j hj
  exact ⟨b, off, ha, (hb.cell (p := ⟨b, off + j, none⟩) (World.block_lt_of_cell? _ _ hx)).trans hx⟩
end Go.Proofs.Ytakkjlcnfkklpaa
