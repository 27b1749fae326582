/-
  The exact laws of desks: where each order of a drawn region ends.
-/
import Derived.Test.YtgkkoegfmhgcjaaGreatDoorGDeskX
import Derived.Test.YtgkkoegfmhgcjaaGreatDoorGDeskI
namespace Go.Proofs.YtgkkoegfmhgcjaaGreatDoor
open Go.RowKit Go.Shelf

theorem Pl.doA_few (d : Pl.Dk) (k n : Int) : (Pl.doA d k n).1.past.length ≤ 8 := by
  by_cases h : Pl.dkB d = true
  · exact ((Pl.dkB_iff _).mp (Pl.doA_desk h).1).2.2
  · rw [Pl.doA_none h]; exact Nat.zero_le _
theorem OwnTail.far {base b : Nat} {w w' : World} {u v : Value} {xs ys : List Int} (hu : OwnTail base w u xs) (hv : OwnTail b w' v ys) (h : w'.heap.size ≤ base) : ∀ g, u.ownBlock = some g → v.ownBlock ≠ some g := fun g h1 h2 => by
  obtain ⟨h3, _⟩ := hu.block h1
  obtain ⟨_, cur, h4⟩ := hv.block h2
  have := lt_of_heap h4
  omega
theorem OwnTail.near {base b : Nat} {w w' : World} {u v : Value} {xs ys : List Int} (hu : OwnTail b w u xs) (hv : OwnTail base w' v ys) (h : w.heap.size ≤ base) : ∀ g, u.ownBlock = some g → v.ownBlock ≠ some g := fun g h1 h2 => by
  obtain ⟨h3, _⟩ := hv.block h2
  obtain ⟨_, cur, h4⟩ := hu.block h1
  have := lt_of_heap h4
  omega

/-- A desk lies in a box of its own behind a drawn statement. -/
def DeskCut (w1 : World) (D : Pl.Dk) (s : Value) (wc : World) : Prop :=
  ∃ g a l, s = .pointer (some ⟨g, 0, none⟩) ∧ w1.heap.size ≤ g ∧ SBox wc g 30 #[.int .i64 D.b, .int .i64 D.n, .slice a D.past.length l] ∧ OwnTail w1.heap.size wc (.slice a D.past.length l) D.past ∧ Below w1.heap.size w1 wc
theorem SBox.far3 {W : World} {B g : Nat} {T : TypeId} {cs : Array Value} (h : SBox W B T cs) (hne : B ≠ g) (x y z : Value) : SBox (((W.setCell ⟨g, 0, none⟩ x).setCell ⟨g, 1, none⟩ y).setCell ⟨g, 2, none⟩ z) B T cs :=
  ((h.far (p := ⟨g, 0, none⟩) hne x).far (p := ⟨g, 1, none⟩) hne y).far (p := ⟨g, 2, none⟩) hne z
theorem cut_last {w1 w4 : World} {D : Pl.Dk} {a : Option Addr} {l : Nat} (b : Below w1.heap.size w1 w4) (o : OwnTail w1.heap.size w4 (.slice a D.past.length l) D.past) :
    DeskCut w1 D (.pointer (some ⟨w4.heap.size, 0, none⟩)) (w4.alloc (.cells #[.int .i64 D.b, .int .i64 D.n, .slice a D.past.length l] 30)) :=
  ⟨_, a, l, rfl, b.size, SBox.new _ _ _, o.below ((Below.refl _ _).alloc (Nat.le_refl _) _), b.alloc b.size _⟩
theorem cut_set {w1 w4 : World} {D : Pl.Dk} {a : Option Addr} {l g : Nat} (hg : w1.heap.size ≤ g) (b : Below w1.heap.size w1 w4) (o : OwnTail w1.heap.size w4 (.slice a D.past.length l) D.past) (n : SBox w4 g 30 #[.int .i64 0, .int .i64 0, .slice none 0 0]) :
    DeskCut w1 D (.pointer (some ⟨g, 0, none⟩)) (((w4.setCell ⟨g, 0, none⟩ (.int .i64 D.b)).setCell ⟨g, 1, none⟩ (.int .i64 D.n)).setCell ⟨g, 2, none⟩ (.slice a D.past.length l)) :=
  ⟨g, a, l, rfl, hg, n.three _ _ _, ((o.setBox n (by decide) 0 _).setBox (n.set 0 _) (by decide) 1 _).setBox ((n.set 0 _).set 1 _) (by decide) 2 _, below_three b hg _ _ _⟩

theorem Pl.runA_few (d : Pl.Dk) (l : List (Int × Int)) : (Pl.runA d l).1.past.length ≤ 8 := by
  unfold Pl.runA
  split
  · rename_i h
    exact ((Pl.dkB_iff _).mp (Pl.runD_desk h.1 l).1).2.2
  · exact Nat.zero_le _
theorem DRow.mono {base base' : Nat} {w : World} {v : Value} {ds : List (Int × Int)} (h : DRow base w v ds) (hb : base' ≤ base) : DRow base' w v ds := by
  rcases h with ⟨h1, h2 | ⟨g, cap, cur, hv, hg, r⟩⟩
  · exact ⟨h1, .inl h2⟩
  · exact ⟨h1, .inr ⟨g, cap, cur, hv, Nat.le_trans hb hg, r⟩⟩
/-- Numbers and deeds lie in blocks of their own. -/
theorem notBoth {b b' : Nat} {w : World} {u v : Value} {xs : List Int} {ds : List (Int × Int)} (hu : OwnTail b w u xs) (hv : DRow b' w v ds) : ∀ g, u.ownBlock = some g → v.ownBlock ≠ some g := fun g h1 h2 => by
  obtain ⟨_, cur, h3⟩ := hu.block h1
  obtain ⟨_, cur', h4⟩ := hv.block h2
  rw [h3] at h4
  injection h4 with h4
  injection h4 with _ ht _
  exact absurd ht (by decide)
theorem DRow.apart {base : Nat} {w w' : World} {u v : Value} {ds : List (Int × Int)} (h : DRow base w u ds) (hE : Else v w w') (hv : ∀ g, u.ownBlock = some g → v.ownBlock ≠ some g) : DRow base w' u ds := by
  rcases h with ⟨h1, h2 | ⟨g, cap, cur, rfl, hg, hh, r⟩⟩
  · exact ⟨h1, .inl h2⟩
  · exact ⟨h1, .inr ⟨g, cap, cur, rfl, hg, (hE g (hv g rfl)).trans hh, r⟩⟩
theorem DRow.markedI {base b : Nat} {w w' : World} {u v : Value} {ds : List (Int × Int)} {xs : List Int} {o : Obj} (h : DRow base w u ds) (hv : OwnTail b w v xs) (hE : Else v (w.alloc o) w') : DRow base w' u ds :=
  (h.below ((Below.refl _ w).alloc (Nat.le_refl _) o)).apart hE fun g h1 h2 => notBoth hv h g h2 h1
theorem OwnTail.apartD {base b : Nat} {w w' : World} {u v : Value} {xs : List Int} {ds : List (Int × Int)} (h : OwnTail base w u xs) (hv : DRow b w v ds) (hE : Else v w w') : OwnTail base w' u xs :=
  h.apart hE (notBoth h hv)

end Go.Proofs.YtgkkoegfmhgcjaaGreatDoor
