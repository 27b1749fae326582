/-
  The library's slices.Sort at rows of integers that the call owns: by the shelf's contract.
-/
import Derived.Test.YtgdgafoaangmkaaShelf
import Derived.Test.YtgdgafoaangmkaaRowFacts
import Derived.Lib.OwnBridge
import Derived.Sort.Grow
namespace Go.Proofs.Ytgdgafoaangmkaa
open Go.RowKit Go.Sort

theorem below_grow (w : World) (os : Array Obj) : Below w.heap.size w (grow w os) :=
  ⟨rfl, rfl, rfl, by simp, fun _ hk => heap_grow_old w os hk⟩

/-- Sorted, in its own place. -/
def sortI (xs : List Int) : List Int := xs.mergeSort fun x y => decide (x ≤ y)
theorem sortI_len (xs : List Int) : (sortI xs).length = xs.length := List.length_mergeSort xs

theorem sliceSort {base : Nat} {w : World} {v : Value} {xs : List Int} (h : Row base w v xs) (h0 : 1 ≤ xs.length) (h1 : xs.length ≤ 1000000000) :
    Calls Try.prog 48 #[v] w fun e w' => e = .returned (.tuple #[]) ∧ Row base w' v (sortI xs) ∧ ∀ B W, B ≤ base → Below B W w → Below B W w' := by
  obtain ⟨g, cap, hv, hg, hlt, hn, hm, hl, hH⟩ := Lib.holds_of_ownsRow (enc := Value.int .i64) h (fun e => by
    obtain ⟨g, cap, rfl, _⟩ := h.lies h0; cases e)
  subst hv
  refine (Any.slices_Sort_int Try.lays189 g 0 cap xs w hH hlt (by omega)).mono ?_
  rintro e w' ⟨rfl, n, os, rfl⟩
  have hp := Lib.ownsRow_putRow (enc := Value.int .i64) (q := n) (k := xs.length) (ys := sortI xs) h (sortI_len xs) (Nat.le_refl _)
  rw [List.take_of_length_le (by rw [sortI_len]; exact Nat.le_refl _)] at hp
  refine ⟨rfl, ?_, fun B W hB hb => ?_⟩
  · have h2 : Row base (putRow (Value.int .i64) (Sort.ahead w n) g 0 (sortI xs).toArray) (.slice (some ⟨g, 0, none⟩) xs.length cap) (sortI xs) := by
      unfold Row; rw [sortI_len]; exact hp
    exact h2.below (below_grow _ os)
  · have h3 := Lib.below_putRow (enc := Value.int .i64) (q := n) (d := (sortI xs).toArray) hb (Nat.le_trans hB hg)
    have hs : (putRow (Value.int .i64) (Sort.ahead w n) g 0 (sortI xs).toArray).heap.size = w.heap.size := by simp [putRow, mapBlock, Sort.ahead]
    exact h3.trans ((below_grow _ os).mono (by omega))

end Go.Proofs.Ytgdgafoaangmkaa
