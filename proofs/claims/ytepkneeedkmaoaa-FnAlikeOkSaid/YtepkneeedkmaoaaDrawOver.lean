/-
  A reader and rows behind what writes nothing but the reader, or nothing of before.
-/
import Derived.Test.YtepkneeedkmaoaaDraw
import Derived.Test.YtepkneeedkmaoaaList
namespace Go.Proofs.Ytepkneeedkmaoaa
open Go.RowKit

theorem Row.only {r : Nat} {w w' : World} {v : Value} {xs : List Int} (h : Row (r + 1) w v xs) (ho : Only r w w') : Row (r + 1) w' v xs := by
  rcases h with ⟨h1, h2 | ⟨g, cap, cur, hv, hg, hh, rest⟩⟩
  · exact ⟨h1, .inl h2⟩
  · exact ⟨h1, .inr ⟨g, cap, cur, hv, hg, by rw [ho.block g (lt_of_heap hh) (by omega)]; exact hh, rest⟩⟩

theorem Rd.over {w0 : World} {r q : Nat} {w w' : World} (h : Rd w0 r q w) (hb : Below (r + 1) w w') : Rd w0 r q w' := by
  obtain ⟨a, len, cap, zs, p, hp, h1, h2, h3, h4, h5, h6, h7, h8⟩ := h
  exact ⟨a, len, cap, zs, p, hp, h1, Nat.lt_of_lt_of_le h2 hb.size, (hb.cell (p := ⟨r, 0, none⟩) (by simp)).trans h3, (hb.cell (p := ⟨r, 1, none⟩) (by simp)).trans h4, (hb.frozen (p := ⟨r, 1, none⟩) (by simp)).trans h5, h6, h7,
    h8.trans (hb.mono (by omega))⟩

theorem Rd.lt {w0 : World} {r q : Nat} {w : World} (h : Rd w0 r q w) : w0.heap.size ≤ r ∧ r < w.heap.size := by
  obtain ⟨_, _, _, _, _, _, h1, h2, _⟩ := h; exact ⟨h1, h2⟩

end Go.Proofs.Ytepkneeedkmaoaa
