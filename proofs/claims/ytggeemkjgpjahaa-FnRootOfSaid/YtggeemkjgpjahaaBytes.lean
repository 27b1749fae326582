/-
  A slice of bytes that came in: where its cells lie.
-/
import Derived.Test.YtggeemkjgpjahaaDraw
namespace Go.Proofs.Ytggeemkjgpjahaa
open Go.RowKit

/-- A slice of bytes that came in: where its cells lie. -/
theorem IsRow.bytes {w : World} {a : Option Addr} {len cap : Nat} {zs : List Int} (h : IsRow .u8 w a len cap zs) (hl : ¬ len = 0) :
    ∃ b off, a = some ⟨b, off, none⟩ ∧ b < w.heap.size ∧ ∀ i, i < len → w.cell? ⟨b, off + i, none⟩ = some (.int .u8 (zs.getD i 0)) ∧ 0 ≤ zs.getD i 0 ∧ zs.getD i 0 ≤ 255 := by
  rcases h with ⟨_, h, _⟩ | ⟨x, rfl, hl, hm, hz, hc, hw⟩
  · exact absurd h hl
  have hc0 := hc 0 (by omega)
  obtain ⟨b, off, spot⟩ := x
  have hs : spot = none := by simpa [Addr.add] using World.cell?_spot hc0
  subst hs
  have hlt : b < w.heap.size := by
    have := World.block_lt_of_cell? _ _ hc0
    simpa [Addr.add] using this
  refine ⟨b, off, rfl, hlt, fun i hi => ?_⟩
  have hci := hc i (by omega)
  have e : (⟨b, off, none⟩ : Addr).add i = ⟨b, off + i, none⟩ := by
    simp only [Addr.add]; split
    · subst i; rfl
    · rfl
  rw [e] at hci
  refine ⟨hci, ?_⟩
  have hmem : zs.getD i 0 ∈ zs := by
    rw [List.getD_eq_getElem?_getD, List.getElem?_eq_getElem (by omega)]
    exact List.getElem_mem _
  exact bounds_u8 (hw _ hmem)

end Go.Proofs.Ytggeemkjgpjahaa
