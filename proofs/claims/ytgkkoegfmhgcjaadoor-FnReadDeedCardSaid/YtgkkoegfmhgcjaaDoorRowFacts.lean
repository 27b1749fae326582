/-
  Rows of integers, more: natural numbers as integers; where a row lies; cells as an append asks for them; the end of a row; slices.Index, slices.Contains walked in place.
-/
import Derived.Test.YtgkkoegfmhgcjaaDoorDigitsOf
import Derived.Test.YtgkkoegfmhgcjaaDoorMathRho
namespace Go.Proofs.YtgkkoegfmhgcjaaDoor
open Go.RowKit Go.Shelf

namespace Pl
/-- Natural numbers as integers. -/
def ints (l : List Nat) : List Int := l.map fun d : Nat => (d : Int)
theorem ints_len (l : List Nat) : (ints l).length = l.length := by simp [ints]
theorem ints_snoc (l : List Nat) (d : Nat) : ints (l ++ [d]) = ints l ++ [(d : Int)] := by simp [ints]
theorem ints_get (l : List Nat) (i : Nat) : (ints l)[i]?.getD 0 = ((l[i]?.getD 0 : Nat) : Int) := by
  rw [ints, List.getElem?_map]; cases l[i]? <;> rfl
end Pl

theorem row_one' (base : Nat) (w : World) (q : Int) (h : base ≤ w.heap.size) : Row base (w.alloc (.cells #[.int .i64 q] 3)) (.slice (some ⟨w.heap.size, 0, none⟩) 1 1) [q] := (row_one w q).mono h

/-- Where a row that is not empty lies. -/
theorem Row.lies {base : Nat} {w : World} {v : Value} {xs : List Int} (h : Row base w v xs) (h0 : 1 ≤ xs.length) :
    ∃ g cap, v = .slice (some ⟨g, 0, none⟩) xs.length cap ∧ base ≤ g ∧ g < w.heap.size ∧ xs.length ≤ cap ∧ cap ≤ maxLen ∧ ∀ j, j < xs.length → w.cell? ⟨g, j, none⟩ = some (.int .i64 (xs[j]?.getD 0)) := by
  have h' := h
  rcases h.2 with ⟨rfl, h1⟩ | ⟨g, cap, cur, rfl, hg, hh, hn, hm, _⟩
  · omega
  · refine ⟨g, cap, rfl, hg, lt_of_heap hh, hn, hm, fun j hj => ?_⟩
    have := World.ownsRow.cellAt h' j (by omega)
    rw [this]
    simp [hj]

theorem Row.nil_no {base : Nat} {w : World} {v : Value} {xs : List Int} (h : Row base w v xs) (hv : v ≠ .slice none 0 0) :
    ∃ g cap, v = .slice (some ⟨g, 0, none⟩) xs.length cap ∧ base ≤ g ∧ g < w.heap.size ∧ xs.length ≤ cap ∧ cap ≤ maxLen ∧ ∀ j, j < xs.length → w.cell? ⟨g, j, none⟩ = some (.int .i64 (xs[j]?.getD 0)) := by
  have h' := h
  rcases h.2 with ⟨rfl, h1⟩ | ⟨g, cap, cur, rfl, hg, hh, hn, hm, _⟩
  · exact absurd rfl hv
  · refine ⟨g, cap, rfl, hg, lt_of_heap hh, hn, hm, fun j hj => ?_⟩
    rw [World.ownsRow.cellAt h' j (by omega)]
    simp [hj]

theorem pre_cell {f : Nat → Nat} {n m j : Nat} (h : j < m) : (Pl.ints (Pl.pre f n m))[j]?.getD 0 = ((Pl.iter f j n : Nat) : Int) := by
  rw [Pl.ints_get, Pl.pre_get h]; rfl

theorem ints_drop (l : List Nat) (k : Nat) : Pl.ints (l.drop k) = (Pl.ints l).drop k := by simp [Pl.ints]

/-- Cells in a row from an address on, as an append asks for them. -/
theorem news_at {w : World} {g K : Nat} {ys : List Int} (h : ∀ j, j < ys.length → w.cell? ⟨g, K + j, none⟩ = some (.int .i64 (ys[j]?.getD 0))) : ∀ j u, (ys.map (Value.int .i64))[j]? = some u → w.cell? ((⟨g, K, none⟩ : Addr).add j) = some u := by
  intro j u hu
  have hj : j < ys.length := by have := (List.getElem?_eq_some_iff.1 hu).1; simpa using this
  have e : (⟨g, K, none⟩ : Addr).add j = ⟨g, K + j, none⟩ := by
    unfold Addr.add; split <;> simp_all
  rw [e, h j hj, ← hu, List.getElem?_map, List.getElem?_eq_getElem hj]; rfl

theorem row_of_app {base : Nat} {w : World} {v : Value} {n : Nat} {ys : List Int} (hn : n = ys.length) (h : w.ownsRow base 3 1 v (0 + n) ([] ++ ys.map (Value.int .i64))) : Row base w v ys := by
  subst hn; unfold Row; simpa using h

theorem Pl.mem_ints {l : List Nat} {x : Nat} : (x : Int) ∈ Pl.ints l ↔ x ∈ l := by
  unfold Pl.ints
  rw [List.mem_map]
  constructor
  · rintro ⟨y, hy, he⟩; rwa [show x = y by omega]
  · exact fun h => ⟨x, h, rfl⟩

theorem row_first (w : World) (q : Int) : Row w.heap.size (w.alloc (.cells #[.int .i64 q] 3)) (.slice (some ⟨w.heap.size, 0, none⟩) 1 1) [q] := row_one w q

/-- The end of a row of a call's own. -/
def RowTail (base : Nat) (W : World) (v : Value) (xs : List Int) : Prop :=
  ∃ g off cap capY ys, v = .slice (some ⟨g, off, none⟩) xs.length cap ∧ ys.drop off = xs ∧ off + xs.length = ys.length ∧ Row base W (.slice (some ⟨g, 0, none⟩) ys.length capY) ys

theorem tail_get {ys xs : List Int} {off : Nat} (h : ys.drop off = xs) (j : Nat) : ys[off + j]?.getD 0 = xs[j]?.getD 0 := by
  rw [← h, List.getElem?_drop]

theorem RowTail.ints {base : Nat} {W : World} {v : Value} {xs : List Int} (h : RowTail base W v xs) : Ints W v xs := by
  obtain ⟨g, off, cap, capY, ys, rfl, hd, hl, hr⟩ := h
  refine ⟨_, cap, rfl, fun j hj => ⟨g, off, rfl, ?_⟩⟩
  rw [(hr.cellAt rfl (off + j) (by omega)).1, tail_get hd]

theorem RowTail.below {base : Nat} {W W' : World} {v : Value} {xs : List Int} (h : RowTail base W v xs) (hb : Below W.heap.size W W') : RowTail base W' v xs := by
  obtain ⟨g, off, cap, capY, ys, rfl, hd, hl, hr⟩ := h
  exact ⟨g, off, cap, capY, ys, rfl, hd, hl, hr.below hb⟩

theorem set_behind (A B : List Int) (j : Nat) (q : Int) {off : Nat} (h : A.length = off) : (A ++ B).set (off + j) q = A ++ B.set j q := by
  subst h
  rw [List.set_append_right _ _ (by omega), Nat.add_sub_cancel_left]

theorem Ints.nil (w : World) : Ints w (.slice none 0 0) [] := ⟨none, 0, rfl, fun j hj => by simp at hj⟩

end Go.Proofs.YtgkkoegfmhgcjaaDoor
