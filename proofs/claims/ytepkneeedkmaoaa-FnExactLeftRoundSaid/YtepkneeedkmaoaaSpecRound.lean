/-
  spec.RoundFrom: the round into which a number leads, in new memory; the exact law of RoundFrom.
-/
import Derived.Test.YtepkneeedkmaoaaRoundFrom
import Derived.Test.YtepkneeedkmaoaaDigitsOf
import Derived.Test.YtepkneeedkmaoaaMark
namespace Go.Proofs.Ytepkneeedkmaoaa
open Go.RowKit Go.Shelf

/-- Where a row that is not empty lies. -/
theorem Row.lies {base : Nat} {w : World} {v : Value} {xs : List Int} (h : Row base w v xs) (h0 : 1 ≤ xs.length) :
    ∃ g cap, v = .slice (some ⟨g, 0, none⟩) xs.length cap ∧ base ≤ g ∧ g < w.heap.size ∧ xs.length ≤ cap ∧ cap ≤ maxLen ∧ ∀ j, j < xs.length → w.cell? ⟨g, j, none⟩ = some (.int .i64 (xs[j]?.getD 0)) := by
  have h' := h
  rcases h.2 with ⟨rfl, h1⟩ | ⟨g, cap, cur, rfl, hg, hh, hn, hm, _⟩
  · omega
  · refine ⟨g, cap, rfl, hg, lt_of_heap hh, hn, hm, fun j hj => ?_⟩
    have := World.ownsRow.cellAt h' j (by omega)
    rw [this]
    simp [hj]

theorem Row.nil_no {base : Nat} {w : World} {v : Value} {xs : List Int} (h : Row base w v xs) (hv : v ≠ .slice none 0 0) :
    ∃ g cap, v = .slice (some ⟨g, 0, none⟩) xs.length cap ∧ base ≤ g ∧ g < w.heap.size ∧ xs.length ≤ cap ∧ cap ≤ maxLen ∧ ∀ j, j < xs.length → w.cell? ⟨g, j, none⟩ = some (.int .i64 (xs[j]?.getD 0)) := by
  have h' := h
  rcases h.2 with ⟨rfl, h1⟩ | ⟨g, cap, cur, rfl, hg, hh, hn, hm, _⟩
  · exact absurd rfl hv
  · refine ⟨g, cap, rfl, hg, lt_of_heap hh, hn, hm, fun j hj => ?_⟩
    rw [World.ownsRow.cellAt h' j (by omega)]
    simp [hj]

theorem pre_cell {f : Nat → Nat} {n m j : Nat} (h : j < m) : (Pl.ints (Pl.pre f n m))[j]?.getD 0 = ((Pl.iter f j n : Nat) : Int) := by
  rw [Pl.ints_get, Pl.pre_get h]; rfl

theorem ints_drop (l : List Nat) (k : Nat) : Pl.ints (l.drop k) = (Pl.ints l).drop k := by simp [Pl.ints]

/-- Cells in a row from an address on, as an append asks for them. -/
theorem news_at {w : World} {g K : Nat} {ys : List Int} (h : ∀ j, j < ys.length → w.cell? ⟨g, K + j, none⟩ = some (.int .i64 (ys[j]?.getD 0))) : ∀ j u, (ys.map (Value.int .i64))[j]? = some u → w.cell? ((⟨g, K, none⟩ : Addr).add j) = some u := by
  intro j u hu
  have hj : j < ys.length := by have := (List.getElem?_eq_some_iff.1 hu).1; simpa using this
  have e : (⟨g, K, none⟩ : Addr).add j = ⟨g, K + j, none⟩ := by
    unfold Addr.add; split <;> simp_all
  rw [e, h j hj, ← hu, List.getElem?_map, List.getElem?_eq_getElem hj]; rfl

theorem row_of_app {base : Nat} {w : World} {v : Value} {n : Nat} {ys : List Int} (hn : n = ys.length) (h : w.ownsRow base 3 1 v (0 + n) ([] ++ ys.map (Value.int .i64))) : Row base w v ys := by
  subst hn; unfold Row; simpa using h

end Go.Proofs.Ytepkneeedkmaoaa
