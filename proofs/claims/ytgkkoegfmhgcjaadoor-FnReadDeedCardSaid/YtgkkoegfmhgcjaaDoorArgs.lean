/-
  Arguments: a slice of deeds, a slice of texts, as they come in.
-/
import Derived.Deep.SlicePairs
import Derived.SliceStrings
import Derived.ChangeSlices
import Derived.Test.YtgkkoegfmhgcjaaDoorStructs
namespace Go.Proofs.YtgkkoegfmhgcjaaDoor
open Go.RowKit Go.Shelf Go.ChangeShapes

/-- An address whose cells lie plainly. -/
theorem plain_addr {w : World} {x : Addr} {v : Value} (h : w.cell? (x.add 0) = some v) : ∃ b off, x = ⟨b, off, none⟩ := by
  obtain ⟨b, off, spot⟩ := x
  have hs := World.cell?_spot h
  simp only [Addr.add] at hs
  exact ⟨b, off, by rw [show spot = none by simpa using hs]⟩

/-- The slice value v holds the texts ts. -/
def Texts (w : World) (v : Value) (ts : List ByteArray) : Prop :=
  ∃ a cap, v = .slice a ts.length cap ∧ ∀ j, j < ts.length → ∃ b off, a = some ⟨b, off, none⟩ ∧ w.cell? ⟨b, off + j, none⟩ = some (.string (ts[j]?.getD ByteArray.empty))
theorem Texts.below {w w' : World} {v : Value} {ts : List ByteArray} (h : Texts w v ts) (hb : Below w.heap.size w w') : Texts w' v ts := by
  obtain ⟨a, cap, hv, hc⟩ := h
  refine ⟨a, cap, hv, fun j hj => ?_⟩
  obtain ⟨b, off, ha, hx⟩ := hc j hj
  exact ⟨b, off, ha, (hb.cell (p := ⟨b, off + j, none⟩) (World.block_lt_of_cell? _ _ hx)).trans hx⟩
/-- A slice of texts that came in. -/
theorem texts_in {H : Type} {enc : TypeId × Value → H} {W : World} {base : Nat} {spare : Nat → Bool} {held : Bool} {fuel : Nat} {v : Value} {x : DataW H × List MemPlace} (h : DataW.trod enc Tryd.prog W base spare held fuel 41 [v] = some x) :
    ∃ (a : Option Addr) (len cap : Nat) (ts : List ByteArray), v = .slice a len cap ∧ Texts W (.slice a len cap) ts ∧ ts.length = len ∧ len ≤ maxLen ∧ ∀ s ∈ ts, s.size ≤ maxLen := by
  rcases open_strings Tryd.underlying41 Tryd.underlying9 (by kernel_rfl) h with ⟨hcs, _⟩ | ⟨a, len, cap, ss, hcs, _, hl, hm, hz, _, hc, hw⟩
  · simp at hcs
    exact ⟨none, 0, 0, [], hcs, ⟨none, 0, rfl, fun j hj => by simp at hj⟩, rfl, by unfold maxLen; omega, fun s hs => by cases hs⟩
  · simp at hcs
    have hlz : len ≤ ss.length := by rw [hz]; split <;> omega
    have hlt : (ss.take len).length = len := by rw [List.length_take]; omega
    refine ⟨some a, len, cap, ss.take len, hcs, ⟨some a, cap, by rw [hlt], fun j hj => ?_⟩, hlt, by omega, fun s hs => hw s (List.mem_of_mem_take hs)⟩
    rw [hlt] at hj
    obtain ⟨b, off, rfl⟩ := plain_addr (hc 0 (by omega))
    have hcj := hc j (by omega)
    rw [Addr.add_lit] at hcj
    refine ⟨b, off, rfl, ?_⟩
    rw [hcj, List.getD_eq_getElem?_getD, List.getElem?_take, if_pos hj]

end Go.Proofs.YtgkkoegfmhgcjaaDoor
