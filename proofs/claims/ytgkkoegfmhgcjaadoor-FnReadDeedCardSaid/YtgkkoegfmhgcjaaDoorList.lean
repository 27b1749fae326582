/-
  Slices of integers: what comes in (IsRow), what a value holds (Ints), what a call owns (Row); BaseOk, l1In; sameInts, eqIntS, markIntS, heldIntS, hasInt, ascend.
-/
import Derived.Test.YtgkkoegfmhgcjaaDoorProg
import Derived.WalkKit
import Derived.Below
import Derived.Test.YtgkkoegfmhgcjaaDoorMath
import Derived.Lib.Hide
import Derived.Deep.QuietTactic
import Derived.BigQuiet
import Derived.OpenShut
import Derived.RangeFuncBox
namespace Go.Proofs.YtgkkoegfmhgcjaaDoor
open Go.RowKit

/-- A slice of integers that came in: nil; or a row of 'cap' cells, the numbers 'zs' (the first 'len' are its elements), each fitting its kind. -/
def IsRow (k : IntKind) (w : World) (a : Option Addr) (len cap : Nat) (zs : List Int) : Prop :=
  (a = none ∧ len = 0 ∧ cap = 0 ∧ zs = []) ∨
  ∃ x, a = some x ∧ len ≤ cap ∧ cap ≤ maxLen ∧ zs.length = cap ∧ (∀ i, i < zs.length → w.cell? (x.add i) = some (.int k (zs.getD i 0))) ∧ ∀ n ∈ zs, (Lit.int k n).wf = true

end Go.Proofs.YtgkkoegfmhgcjaaDoor

namespace Go.Proofs.YtgkkoegfmhgcjaaDoor
open Go.RowKit

theorem ret_bool {a b : Bool} (h : a = b) : Ending.returned (.bool a) = .returned (.bool b) := by rw [h]
theorem ret_int {k : IntKind} {a b : Int} (h : a = b) : Ending.returned (.int k a) = .returned (.int k b) := by rw [h]

set_option maxHeartbeats 400000 in
theorem implBaseOk (b : Int) (w : World) :
    Calls Tryd.prog 20 #[.int .i64 b] w fun e w' => e = .returned (.bool (Pl.baseB b)) ∧ w = w' := by
  by_cases h1 : 2 ≤ b
  · by_cases h2 : b ≤ 16
    · go_enter Tryd.func20, Tryd.ntmps20
      go_wp2
      go_ret
      exact ⟨ret_bool (by simp [Pl.baseB]; omega), rfl⟩
    · go_enter Tryd.func20, Tryd.ntmps20
      go_wp2
      go_ret
      exact ⟨ret_bool (by simp [Pl.baseB]; omega), rfl⟩
  · go_enter Tryd.func20, Tryd.ntmps20
    go_wp2
    go_ret
    exact ⟨ret_bool (by simp [Pl.baseB]; omega), rfl⟩

set_option maxHeartbeats 400000 in
theorem specIn (n l h : Int) (w : World) :
    Calls Tryd.prog 22 #[.int .i64 n, .int .i64 l, .int .i64 h] w fun e w' => e = .returned (.bool (decide (l ≤ n) && decide (n ≤ h))) ∧ w = w' := by
  by_cases h1 : l ≤ n
  · go_enter Tryd.func22, Tryd.ntmps22
    go_wp2
    go_ret
    exact ⟨ret_bool (by simp [h1]), rfl⟩
  · go_enter Tryd.func22, Tryd.ntmps22
    go_wp2
    go_ret
    exact ⟨ret_bool (by simp; omega), rfl⟩

theorem specIn_yes (n l h : Int) (w : World) (h1 : l ≤ n ∧ n ≤ h) :
    Calls Tryd.prog 22 #[.int .i64 n, .int .i64 l, .int .i64 h] w fun e w' => e = .returned (.bool true) ∧ w = w' := by
  have := specIn n l h w
  rwa [show (decide (l ≤ n) && decide (n ≤ h)) = true from by simp [h1.1, h1.2]] at this

theorem specIn_no (n l h : Int) (w : World) (h1 : ¬ (l ≤ n ∧ n ≤ h)) :
    Calls Tryd.prog 22 #[.int .i64 n, .int .i64 l, .int .i64 h] w fun e w' => e = .returned (.bool false) ∧ w = w' := by
  have := specIn n l h w
  rwa [show (decide (l ≤ n) && decide (n ≤ h)) = false from by simp; omega] at this

end Go.Proofs.YtgkkoegfmhgcjaaDoor

namespace Go.Proofs.YtgkkoegfmhgcjaaDoor
open Go.RowKit

/-- The slice value v holds the integers xs. -/
def Ints (w : World) (v : Value) (xs : List Int) : Prop :=
  ∃ a cap, v = .slice a xs.length cap ∧ ∀ j, j < xs.length → ∃ b off, a = some ⟨b, off, none⟩ ∧ w.cell? ⟨b, off + j, none⟩ = some (.int .i64 (xs[j]?.getD 0))

/-- The slice value v owns the integers xs, in a block from 'base' on. -/
def Row (base : Nat) (w : World) (v : Value) (xs : List Int) : Prop := w.ownsRow base 3 1 v xs.length (xs.map (Value.int .i64))

theorem Ints.below {w w' : World} {v : Value} {xs : List Int} (h : Ints w v xs) (hb : Below w.heap.size w w') : Ints w' v xs := by
  obtain ⟨a, cap, hv, hc⟩ := h
  refine ⟨a, cap, hv, fun j hj => ?_⟩
  obtain ⟨b, off, ha, hx⟩ := hc j hj
  exact ⟨b, off, ha, (hb.cell (p := ⟨b, off + j, none⟩) (World.block_lt_of_cell? _ _ hx)).trans hx⟩

theorem Row.shape {base : Nat} {w : World} {v : Value} {xs : List Int} (h : Row base w v xs) : ∃ a cap, v = .slice a xs.length cap := by
  rcases h.2 with ⟨rfl, h0⟩ | ⟨g, cap, cur, rfl, _⟩
  · rw [h0]; exact ⟨none, 0, rfl⟩
  · exact ⟨_, cap, rfl⟩

theorem Row.ints {base : Nat} {w : World} {v : Value} {xs : List Int} (h : Row base w v xs) : Ints w v xs := by
  have h' := h
  rcases h.2 with ⟨rfl, h0⟩ | ⟨g, cap, cur, rfl, _⟩
  · rw [List.length_eq_zero_iff] at h0; subst h0; exact ⟨none, 0, rfl, fun j hj => by simp at hj⟩
  · refine ⟨_, cap, rfl, fun j hj => ⟨g, 0, rfl, ?_⟩⟩
    have := World.ownsRow.cellAt h' j (by omega)
    rw [Nat.zero_add, this]
    simp [hj]

theorem lt_of_heap {w : World} {b : Nat} {o : Obj} (h : w.heap[b]? = some o) : b < w.heap.size := by
  rcases Nat.lt_or_ge b w.heap.size with h' | h'
  · exact h'
  · simp [Array.getElem?_eq_none h'] at h

theorem Row.below {base : Nat} {w w' : World} {v : Value} {xs : List Int} (h : Row base w v xs) (hb : Below w.heap.size w w') : Row base w' v xs := by
  rcases h with ⟨h1, h2 | ⟨g, cap, cur, hv, hg, hh, r⟩⟩
  · exact ⟨h1, .inl h2⟩
  · exact ⟨h1, .inr ⟨g, cap, cur, hv, hg, by rw [hb.block g (lt_of_heap hh)]; exact hh, r⟩⟩

theorem Row.mono {base base' : Nat} {w : World} {v : Value} {xs : List Int} (h : Row base w v xs) (hb : base' ≤ base) : Row base' w v xs := by
  rcases h with ⟨h1, h2 | ⟨g, cap, cur, hv, hg, r⟩⟩
  · exact ⟨h1, .inl h2⟩
  · exact ⟨h1, .inr ⟨g, cap, cur, hv, Nat.le_trans hb hg, r⟩⟩

theorem IsRow.ints {w : World} {a : Option Addr} {len cap : Nat} {zs : List Int} (h : IsRow .i64 w a len cap zs) : Ints w (.slice a len cap) (zs.take len) ∧ (zs.take len).length = len := by
  rcases h with ⟨rfl, rfl, rfl, rfl⟩ | ⟨x, rfl, hl, hm, hz, hc, hw⟩
  · exact ⟨⟨none, 0, rfl, fun j hj => by simp at hj⟩, rfl⟩
  · have hlen : (zs.take len).length = len := by simp; omega
    refine ⟨⟨some x, cap, by rw [hlen], fun j hj => ?_⟩, hlen⟩
    rw [hlen] at hj
    have hcj := hc j (by omega)
    have hs := World.cell?_spot hcj
    obtain ⟨b, off, spot⟩ := x
    have hs : spot = none := by
      simp only [Addr.add] at hs
      split at hs
      · exact hs
      · exact (by simpa [Addr.add] using World.cell?_spot (hc 0 (by omega)))
    subst hs
    refine ⟨b, off, rfl, ?_⟩
    have e : (⟨b, off, none⟩ : Addr).add j = ⟨b, off + j, none⟩ := by
      simp only [Addr.add]; split
      · subst j; rfl
      · rfl
    rw [e] at hcj
    rw [hcj, List.getD_eq_getElem?_getD, List.getElem?_take, if_pos hj]

theorem take_succ_eq {xs ys : List Int} (hl : xs.length = ys.length) {k : Nat} (hk : k < xs.length) (h : xs.take k = ys.take k) (he : xs[k]?.getD 0 = ys[k]?.getD 0) : xs.take (k + 1) = ys.take (k + 1) := by
  rw [List.take_succ_eq_append_getElem hk, List.take_succ_eq_append_getElem (hl ▸ hk), h]
  simp only [List.getElem?_eq_getElem hk, List.getElem?_eq_getElem (hl ▸ hk : k < ys.length), Option.getD_some] at he
  rw [he]

theorem drewN_below (w : World) (n : Nat) : Below w.heap.size w (w.drewN n) := ⟨rfl, rfl, rfl, Nat.le_refl _, fun _ _ => rfl⟩

/-- Whether two lists are equal. -/
def eqL (xs ys : List Int) : Bool := decide (xs = ys)

end Go.Proofs.YtgkkoegfmhgcjaaDoor

namespace Go.Proofs.YtgkkoegfmhgcjaaDoor
open Go.RowKit

/-- k, k + 1, .., n numbers. -/
def marks (k : Int) (n : Nat) : List Int := (List.range n).map fun i : Nat => k + (i : Int)
theorem marks_length (k : Int) (n : Nat) : (marks k n).length = n := by simp [marks]
theorem marks_get (k : Int) {n j : Nat} (h : j < n) : (marks k n)[j]?.getD 0 = k + (j : Int) := by simp [marks, h]

theorem Row.lt {base : Nat} {w : World} {v : Value} {xs : List Int} (h : Row base w v xs) (hx : 0 < xs.length) : ∃ g cap, v = .slice (some ⟨g, 0, none⟩) xs.length cap ∧ base ≤ g ∧ g < w.heap.size := by
  rcases h.2 with ⟨rfl, h0⟩ | ⟨g, cap, cur, rfl, hg, hh, _⟩
  · omega
  · exact ⟨g, cap, rfl, hg, lt_of_heap hh⟩

theorem Row.set {base : Nat} {w : World} {g n cap : Nat} {xs : List Int} (h : Row base w (.slice (some ⟨g, 0, none⟩) n cap) xs) (hn : xs.length = n) (j : Nat) (q : Int) :
    Row base (w.setCell ⟨g, j, none⟩ (.int .i64 q)) (.slice (some ⟨g, 0, none⟩) n cap) (xs.set j q) := by
  subst hn
  have := (World.ownsRow.stored h j (.int .i64 q)).1
  rw [← List.map_set] at this
  unfold Row
  rw [List.length_set]
  exact this

theorem Row.cellAt {base : Nat} {w : World} {g n cap : Nat} {xs : List Int} (h : Row base w (.slice (some ⟨g, 0, none⟩) n cap) xs) (hn : xs.length = n) (j : Nat) (hj : j < n) :
    w.cell? ⟨g, j, none⟩ = some (.int .i64 (xs[j]?.getD 0)) ∧ w.frozen? ⟨g, j, none⟩ = false := by
  subst hn
  refine ⟨?_, World.ownsRow.frozenAt h j⟩
  have := World.ownsRow.cellAt h j (by omega)
  rw [this]; simp [hj]

theorem marks_step (k : Int) (xs : List Int) (j : Nat) (hj : j < xs.length) : (marks k j ++ xs.drop j).set j (k + (j : Int)) = marks k (j + 1) ++ xs.drop (j + 1) := by
  apply List.ext_getElem
  · simp [marks]; omega
  · intro i h1 h2
    simp only [marks, List.getElem_set, List.getElem_append, List.length_map, List.length_range, List.getElem_map, List.getElem_range, List.getElem_drop]
    split
    · subst i; rw [dif_pos (by omega)]
    · split
      · rw [dif_pos (by omega)]
      · rw [dif_neg (by omega)]
        congr 1; omega

end Go.Proofs.YtgkkoegfmhgcjaaDoor

namespace Go.Proofs.YtgkkoegfmhgcjaaDoor
open Go.RowKit

theorem not_mem_of {xs : List Int} {x : Int} (h : ∀ i, i < xs.length → xs[i]?.getD 0 ≠ x) : x ∉ xs := by
  intro hx
  obtain ⟨i, hi, he⟩ := List.mem_iff_getElem.1 hx
  exact h i hi (by rw [List.getElem?_eq_getElem hi, Option.getD_some, he])

theorem asc_at {xs : List Int} (h : xs.Pairwise (· < ·)) {k : Nat} (h1 : 1 ≤ k) (hk : k < xs.length) : xs[k - 1]?.getD 0 < xs[k]?.getD 0 := by
  have := List.pairwise_iff_getElem.1 h (k - 1) k (by omega) hk (by omega)
  rw [List.getElem?_eq_getElem hk, List.getElem?_eq_getElem (by omega)]
  exact this

end Go.Proofs.YtgkkoegfmhgcjaaDoor
