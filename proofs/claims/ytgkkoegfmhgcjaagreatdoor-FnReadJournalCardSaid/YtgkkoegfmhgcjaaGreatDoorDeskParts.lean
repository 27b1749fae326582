/-
  Deeds done in two parts; parts of a list of deeds.
-/
import Derived.Test.YtgkkoegfmhgcjaaGreatDoorGDrawDesk
import Derived.Test.YtgkkoegfmhgcjaaGreatDoorGDeskI
namespace Go.Proofs.YtgkkoegfmhgcjaaGreatDoor
open Go.RowKit Go.Shelf

theorem Pl.runA_yes {d : Pl.Dk} {l : List (Int × Int)} (h : Pl.dkB d = true) (hl : l.length ≤ 40) : Pl.runA d l = Pl.runD d l := by
  unfold Pl.runA; rw [if_pos ⟨h, hl⟩]
theorem Pl.runA_no {d : Pl.Dk} {l : List (Int × Int)} (h : ¬ (Pl.dkB d = true ∧ l.length ≤ 40)) : Pl.runA d l = (Pl.dk0, 0) := by
  unfold Pl.runA; rw [if_neg h]
theorem Pl.runA_count (d : Pl.Dk) (l : List (Int × Int)) : (Pl.runA d l).2 ≤ l.length := by
  unfold Pl.runA
  split
  · rename_i h; exact (Pl.runD_desk h.1 l).2.2
  · exact Nat.zero_le _
/-- In two parts, one after the other, it is the same. -/
theorem Pl.runA_parts {d : Pl.Dk} {l : List (Int × Int)} (h : Pl.dkB d = true) (hl : l.length ≤ 40) (k : Nat) :
    Pl.dkB (Pl.runA d l).1 = true ∧ (Pl.runA (Pl.runA d (l.take k)).1 (l.drop k)).1 = (Pl.runA d l).1 ∧
      (Pl.runA d (l.take k)).2 + (Pl.runA (Pl.runA d (l.take k)).1 (l.drop k)).2 = (Pl.runA d l).2 ∧ Pl.dkB (Pl.runA d (l.take k)).1 = true := by
  have h1 : (l.take k).length ≤ 40 := by rw [List.length_take]; omega
  have h2 : (l.drop k).length ≤ 40 := by rw [List.length_drop]; omega
  rw [Pl.runA_yes h hl, Pl.runA_yes h h1]
  have h3 := (Pl.runD_desk h (l.take k)).1
  rw [Pl.runA_yes h3 h2]
  have h4 := Pl.runD_append d (l.take k) (l.drop k)
  rw [List.take_append_drop] at h4
  exact ⟨(Pl.runD_desk h l).1, by rw [h4], by rw [h4], h3⟩

theorem Deeds.front {w : World} {a : Option Addr} {n cap cap' : Nat} {ds : List (Int × Int)} (h : Deeds w (.slice a n cap) ds) {k : Nat} (hk : k ≤ n) : Deeds w (.slice a k cap') (ds.take k) := by
  obtain ⟨a', c', hv, hc⟩ := h
  simp only [Value.slice.injEq] at hv
  obtain ⟨rfl, rfl, rfl⟩ := hv
  refine ⟨a, cap', by rw [List.length_take, Nat.min_eq_left hk], fun j hj => ?_⟩
  rw [List.length_take, Nat.min_eq_left hk] at hj
  obtain ⟨b, off, h1, h2, h3⟩ := hc j (by omega)
  refine ⟨b, off, h1, ?_, ?_⟩
  · rw [List.getElem?_take_of_lt hj]; exact h2
  · rw [List.getElem?_take_of_lt hj]; exact h3
theorem Deeds.back {w : World} {b off n cap cap' : Nat} {ds : List (Int × Int)} (h : Deeds w (.slice (some ⟨b, off, none⟩) n cap) ds) {k : Nat} (hk : k ≤ n) : Deeds w (.slice (some ⟨b, off + k * 2, none⟩) (n - k) cap') (ds.drop k) := by
  obtain ⟨a', c', hv, hc⟩ := h
  simp only [Value.slice.injEq] at hv
  obtain ⟨rfl, rfl, rfl⟩ := hv
  refine ⟨_, cap', by rw [List.length_drop], fun j hj => ?_⟩
  rw [List.length_drop] at hj
  obtain ⟨b', off', h1, h2, h3⟩ := hc (k + j) (by omega)
  simp only [Option.some.injEq, Addr.mk.injEq, and_true] at h1
  obtain ⟨rfl, rfl⟩ := h1
  refine ⟨b, off + k * 2, rfl, ?_, ?_⟩
  · rw [List.getElem?_drop, show off + k * 2 + j * 2 = off + (k + j) * 2 by omega]; exact h2
  · rw [List.getElem?_drop, show off + k * 2 + (j * 2 + 1) = off + ((k + j) * 2 + 1) by omega]; exact h3

end Go.Proofs.YtgkkoegfmhgcjaaGreatDoor
