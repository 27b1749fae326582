/-
  A region that draws its order and whose operations and callees write nothing that was there: one walk of the lexical order serves every order.
-/
import Derived.BigQuiet
import Derived.Below
import Derived.WalkKit
import Derived.Test.YtgkkoegfmhgcjaaGreatDoorProg
import Derived.Test.YtgkkoegfmhgcjaaGreatDoorGPlain
import Derived.Lib.Hide
import Derived.Deep.QuietTactic
import Derived.OpenShut
import Derived.RangeFuncBox
import Derived.RangeFuncNested
import Derived.RangeFuncBound
import Derived.RangeFuncCalls
import Derived.RangeFuncLeaves
import Derived.Shelf.Abstract
import Derived.Shelf.RegionOpen
import Derived.OwnWalkIn
import Derived.TacticsInMore
import Derived.LoopNIn
import Derived.LoopIn
import Derived.Deep.AppendLies
import Derived.Deep.RegionLaw
import Derived.OwnWalk
import Derived.Maps.AppendAt
import Derived.Laws.AppendOwnNone
namespace Go.Proofs.YtgkkoegfmhgcjaaGreatDoor
open Go.RowKit

theorem wp_region_calm {P : Program} {id : Nat} {Q : Exit → Act → World → Prop} {a : Act} {w : World} {l : List Oper} (hm : P.follows .mixedOrders = true) (hB : Region.lexB .any l.toArray = true)
    (h : wpQuiet P l.toArray (fun W => Below w.heap.size w W) (fun a' => ∀ W, Below w.heap.size w W → Q .normal a' W) l a) : (Code.region id l.toArray true).wp P Q a w :=
  wp_region_quiet (C := fun W => Below w.heap.size w W) hm hB ⟨rfl, rfl, rfl, Nat.le_refl _, fun _ _ => rfl⟩ (by simpa using h)

theorem Below.cell {B : Nat} {w W : World} (h : Below B w W) {p : Addr} {v : Value} (hp : p.block < B) (hc : w.cell? p = some v) : W.cell? p = some v := (World.cell?_of_block (w := w) (h.block _ hp)).trans hc

theorem Calm.call {P : Program} {f : FuncId} {args : Array Value} {w W : World} {v : Value} (hW : Below w.heap.size w W) (h : Calls P f args W fun e w' => e = .returned v ∧ Below W.heap.size W w') :
    Calls P f args W fun e w' => e = .returned v ∧ Below w.heap.size w w' := h.mono fun _ _ ⟨he, hb⟩ => ⟨he, hW.trans (hb.mono hW.size)⟩
theorem Calm.same {P : Program} {f : FuncId} {args : Array Value} {w W : World} {v : Value} (hW : Below w.heap.size w W) (h : Calls P f args W fun e w' => e = .returned v ∧ W = w') :
    Calls P f args W fun e w' => e = .returned v ∧ Below w.heap.size w w' := h.mono fun _ _ ⟨he, hb⟩ => ⟨he, hb ▸ hW⟩

end Go.Proofs.YtgkkoegfmhgcjaaGreatDoor

namespace Go.Proofs.YtgkkoegfmhgcjaaGreatDoor
open Go.RowKit

/-- A slice of integers that came in: nil; or a row of 'cap' cells, the numbers 'zs' (the first 'len' are its elements), each fitting its kind. -/
def IsRow (k : IntKind) (w : World) (a : Option Addr) (len cap : Nat) (zs : List Int) : Prop :=
  (a = none ∧ len = 0 ∧ cap = 0 ∧ zs = []) ∨
  ∃ x, a = some x ∧ len ≤ cap ∧ cap ≤ maxLen ∧ zs.length = cap ∧ (∀ i, i < zs.length → w.cell? (x.add i) = some (.int k (zs.getD i 0))) ∧ ∀ n ∈ zs, (Lit.int k n).wf = true

end Go.Proofs.YtgkkoegfmhgcjaaGreatDoor

namespace Go.Proofs.YtgkkoegfmhgcjaaGreatDoor
open Go.RowKit

theorem ret_bool {a b : Bool} (h : a = b) : Ending.returned (.bool a) = .returned (.bool b) := by rw [h]
theorem ret_int {k : IntKind} {a b : Int} (h : a = b) : Ending.returned (.int k a) = .returned (.int k b) := by rw [h]

set_option maxHeartbeats 400000 in
theorem implBaseOk (b : Int) (w : World) :
    Calls Tryz.prog 59 #[.int .i64 b] w fun e w' => e = .returned (.bool (Pl.baseB b)) ∧ w = w' := by
  by_cases h1 : 2 ≤ b
  · by_cases h2 : b ≤ 16
    · go_enter Tryz.func59, Tryz.ntmps59
      go_wp2
      go_ret
      exact ⟨ret_bool (by simp [Pl.baseB]; omega), rfl⟩
    · go_enter Tryz.func59, Tryz.ntmps59
      go_wp2
      go_ret
      exact ⟨ret_bool (by simp [Pl.baseB]; omega), rfl⟩
  · go_enter Tryz.func59, Tryz.ntmps59
    go_wp2
    go_ret
    exact ⟨ret_bool (by simp [Pl.baseB]; omega), rfl⟩

set_option maxHeartbeats 400000 in
theorem specIn (n l h : Int) (w : World) :
    Calls Tryz.prog 49 #[.int .i64 n, .int .i64 l, .int .i64 h] w fun e w' => e = .returned (.bool (decide (l ≤ n) && decide (n ≤ h))) ∧ w = w' := by
  by_cases h1 : l ≤ n
  · go_enter Tryz.func49, Tryz.ntmps49
    go_wp2
    go_ret
    exact ⟨ret_bool (by simp [h1]), rfl⟩
  · go_enter Tryz.func49, Tryz.ntmps49
    go_wp2
    go_ret
    exact ⟨ret_bool (by simp; omega), rfl⟩

theorem specIn_yes (n l h : Int) (w : World) (h1 : l ≤ n ∧ n ≤ h) :
    Calls Tryz.prog 49 #[.int .i64 n, .int .i64 l, .int .i64 h] w fun e w' => e = .returned (.bool true) ∧ w = w' := by
  have := specIn n l h w
  rwa [show (decide (l ≤ n) && decide (n ≤ h)) = true from by simp [h1.1, h1.2]] at this

theorem specIn_no (n l h : Int) (w : World) (h1 : ¬ (l ≤ n ∧ n ≤ h)) :
    Calls Tryz.prog 49 #[.int .i64 n, .int .i64 l, .int .i64 h] w fun e w' => e = .returned (.bool false) ∧ w = w' := by
  have := specIn n l h w
  rwa [show (decide (l ≤ n) && decide (n ≤ h)) = false from by simp; omega] at this

set_option maxHeartbeats 400000 in
theorem specBaseOk (b : Int) (w : World) :
    Calls Tryz.prog 50 #[.int .i64 b] w fun e w' => e = .returned (.bool (Pl.baseB b)) ∧ w = w' := by
  go_enter Tryz.func50, Tryz.ntmps50
  go_wp2_with (go_at_call 49; refine (specIn _ _ _ _).mono ?_; rintro e w' ⟨rfl, rfl⟩)
  go_ret
  exact ⟨ret_bool rfl, rfl⟩

end Go.Proofs.YtgkkoegfmhgcjaaGreatDoor

namespace Go.Proofs.YtgkkoegfmhgcjaaGreatDoor
open Go.RowKit

/-- The slice value v holds the integers xs. -/
def Ints (w : World) (v : Value) (xs : List Int) : Prop :=
  ∃ a cap, v = .slice a xs.length cap ∧ ∀ j, j < xs.length → ∃ b off, a = some ⟨b, off, none⟩ ∧ w.cell? ⟨b, off + j, none⟩ = some (.int .i64 (xs[j]?.getD 0))

/-- The slice value v owns the integers xs, in a block from 'base' on. -/
def Row (base : Nat) (w : World) (v : Value) (xs : List Int) : Prop := w.ownsRow base 3 1 v xs.length (xs.map (Value.int .i64))

theorem Ints.below {w w' : World} {v : Value} {xs : List Int} (h : Ints w v xs) (hb : Below w.heap.size w w') : Ints w' v xs := by
  obtain ⟨a, cap, hv, hc⟩ := h
  refine ⟨a, cap, hv, fun j hj => ?_⟩
  obtain ⟨b, off, ha, hx⟩ := hc j hj
  exact ⟨b, off, ha, (hb.cell (p := ⟨b, off + j, none⟩) (World.block_lt_of_cell? _ _ hx)).trans hx⟩

theorem Row.shape {base : Nat} {w : World} {v : Value} {xs : List Int} (h : Row base w v xs) : ∃ a cap, v = .slice a xs.length cap := by
  rcases h.2 with ⟨rfl, h0⟩ | ⟨g, cap, cur, rfl, _⟩
  · rw [h0]; exact ⟨none, 0, rfl⟩
  · exact ⟨_, cap, rfl⟩

theorem Row.ints {base : Nat} {w : World} {v : Value} {xs : List Int} (h : Row base w v xs) : Ints w v xs := by
  have h' := h
  rcases h.2 with ⟨rfl, h0⟩ | ⟨g, cap, cur, rfl, _⟩
  · rw [List.length_eq_zero_iff] at h0; subst h0; exact ⟨none, 0, rfl, fun j hj => by simp at hj⟩
  · refine ⟨_, cap, rfl, fun j hj => ⟨g, 0, rfl, ?_⟩⟩
    have := World.ownsRow.cellAt h' j (by omega)
    rw [Nat.zero_add, this]
    simp [hj]

theorem lt_of_heap {w : World} {b : Nat} {o : Obj} (h : w.heap[b]? = some o) : b < w.heap.size := by
  rcases Nat.lt_or_ge b w.heap.size with h' | h'
  · exact h'
  · simp [Array.getElem?_eq_none h'] at h

theorem Row.below {base : Nat} {w w' : World} {v : Value} {xs : List Int} (h : Row base w v xs) (hb : Below w.heap.size w w') : Row base w' v xs := by
  rcases h with ⟨h1, h2 | ⟨g, cap, cur, hv, hg, hh, r⟩⟩
  · exact ⟨h1, .inl h2⟩
  · exact ⟨h1, .inr ⟨g, cap, cur, hv, hg, by rw [hb.block g (lt_of_heap hh)]; exact hh, r⟩⟩

theorem Row.mono {base base' : Nat} {w : World} {v : Value} {xs : List Int} (h : Row base w v xs) (hb : base' ≤ base) : Row base' w v xs := by
  rcases h with ⟨h1, h2 | ⟨g, cap, cur, hv, hg, r⟩⟩
  · exact ⟨h1, .inl h2⟩
  · exact ⟨h1, .inr ⟨g, cap, cur, hv, Nat.le_trans hb hg, r⟩⟩

theorem IsRow.ints {w : World} {a : Option Addr} {len cap : Nat} {zs : List Int} (h : IsRow .i64 w a len cap zs) : Ints w (.slice a len cap) (zs.take len) ∧ (zs.take len).length = len := by
  rcases h with ⟨rfl, rfl, rfl, rfl⟩ | ⟨x, rfl, hl, hm, hz, hc, hw⟩
  · exact ⟨⟨none, 0, rfl, fun j hj => by simp at hj⟩, rfl⟩
  · have hlen : (zs.take len).length = len := by simp; omega
    refine ⟨⟨some x, cap, by rw [hlen], fun j hj => ?_⟩, hlen⟩
    rw [hlen] at hj
    have hcj := hc j (by omega)
    have hs := World.cell?_spot hcj
    obtain ⟨b, off, spot⟩ := x
    have hs : spot = none := by
      simp only [Addr.add] at hs
      split at hs
      · exact hs
      · exact (by simpa [Addr.add] using World.cell?_spot (hc 0 (by omega)))
    subst hs
    refine ⟨b, off, rfl, ?_⟩
    have e : (⟨b, off, none⟩ : Addr).add j = ⟨b, off + j, none⟩ := by
      simp only [Addr.add]; split
      · subst j; rfl
      · rfl
    rw [e] at hcj
    rw [hcj, List.getD_eq_getElem?_getD, List.getElem?_take, if_pos hj]

theorem take_succ_eq {xs ys : List Int} (hl : xs.length = ys.length) {k : Nat} (hk : k < xs.length) (h : xs.take k = ys.take k) (he : xs[k]?.getD 0 = ys[k]?.getD 0) : xs.take (k + 1) = ys.take (k + 1) := by
  rw [List.take_succ_eq_append_getElem hk, List.take_succ_eq_append_getElem (hl ▸ hk), h]
  simp only [List.getElem?_eq_getElem hk, List.getElem?_eq_getElem (hl ▸ hk : k < ys.length), Option.getD_some] at he
  rw [he]

theorem drewN_below (w : World) (n : Nat) : Below w.heap.size w (w.drewN n) := ⟨rfl, rfl, rfl, Nat.le_refl _, fun _ _ => rfl⟩

/-- Whether two lists are equal. -/
def eqL (xs ys : List Int) : Bool := decide (xs = ys)

set_option maxHeartbeats 800000 in
theorem sameInts (u v : Value) (xs ys : List Int) (w : World) (hu : Ints w u xs) (hv : Ints w v ys) (hx : xs.length ≤ 1000000000) :
    Calls Tryz.prog 58 #[u, v] w fun e w' => e = .returned (.bool (eqL xs ys)) ∧ Below w.heap.size w w' := by
  obtain ⟨a, cap, rfl, ha⟩ := hu
  obtain ⟨b, cbp, rfl, hb⟩ := hv
  by_cases hl : xs.length = ys.length
  · have hne : ((xs.length : Int) != (ys.length : Int)) = false := by simp [hl]
    have HL := Lib.hid hl
    clear hl
    go_enter Tryz.func58, Tryz.ntmps58
    go_wp2
    go_loopw [5] (fun i wr => ∃ (k n : Nat), k ≤ xs.length ∧ i = .int .i64 k ∧ xs.take k = ys.take k ∧ wr = w.drewN n) (fun i _ => xs.length - (intOf i).toNat)
    case atStart => exact ⟨0, 0, Nat.zero_le _, rfl, rfl, rfl⟩
    case round =>
      obtain ⟨k, n, hk, rfl, ht, rfl⟩ := hrel
      by_cases hlt : k < xs.length
      · obtain ⟨b1, o1, rfl, c1⟩ := ha k hlt
        obtain ⟨b2, o2, rfl, c2⟩ := hb k (by rw [← HL.out]; exact hlt)
        clear ha hb
        generalize hp : xs[k]?.getD 0 = p at *
        generalize hq : ys[k]?.getD 0 = q at *
        have HP := Lib.hid hp
        have HQ := Lib.hid hq
        have HT := Lib.hid ht
        clear hp hq ht
        have hi1 : (k : Int) < (xs.length : Int) := by omega
        have hi2 : (k : Int) < (ys.length : Int) := by have := HL.out; omega
        go_wp2
        go_quiet (fail)
        go_wp2
        · have hd : (p != q) = true := by assumption
          go_ret
          refine ⟨ret_bool ?_, (drewN_below _ _).trans ((drewN_below (w.drewN n) nq).mono (Nat.le_refl _))⟩
          have : xs ≠ ys := fun e => by
            rw [← HP.out, ← HQ.out, e] at hd; simp at hd
          simp [eqL, this]
        · have hd : (p != q) = false := by assumption
          have he : p = q := by simpa using hd
          refine ⟨⟨k + 1, n + nq, by omega, by go_num, take_succ_eq HL.out hlt HT.out (by rw [HP.out, HQ.out, he]), rfl⟩, by simp [intOf]; omega⟩
      · obtain rfl : k = xs.length := by omega
        have he : xs = ys := by
          rw [List.take_length, HL.out, List.take_length] at ht; exact ht
        clear ha hb ht
        have HE := Lib.hid he
        clear he
        go_wp2
        go_ret
        exact ⟨ret_bool (by simp [eqL, HE.out]), drewN_below _ _⟩
  · have hne : ((xs.length : Int) != (ys.length : Int)) = true := by simp; omega
    have hnq : xs ≠ ys := fun e => hl (by rw [e])
    clear hl ha hb
    go_enter Tryz.func58, Tryz.ntmps58
    go_wp2
    go_ret
    exact ⟨ret_bool (by simp [eqL, hnq]), Below.refl _ _⟩

set_option maxHeartbeats 800000 in
theorem eqIntS (u v : Value) (xs ys : List Int) (w : World) (hu : Ints w u xs) (hv : Ints w v ys) (hx : xs.length ≤ 1000000000) :
    Calls Tryz.prog 82 #[u, v] w fun e w' => e = .returned (.bool (eqL xs ys)) ∧ Below w.heap.size w w' := by
  obtain ⟨a, cap, rfl, ha⟩ := hu
  obtain ⟨b, cbp, rfl, hb⟩ := hv
  by_cases hl : xs.length = ys.length
  · have hne : ((xs.length : Int) != (ys.length : Int)) = false := by simp [hl]
    have HL := Lib.hid hl
    clear hl
    go_enter Tryz.func82, Tryz.ntmps82
    go_wp2
    go_loopw [5] (fun i wr => ∃ (k n : Nat), k ≤ xs.length ∧ i = .int .i64 k ∧ xs.take k = ys.take k ∧ wr = w.drewN n) (fun i _ => xs.length - (intOf i).toNat)
    case atStart => exact ⟨0, 0, Nat.zero_le _, rfl, rfl, rfl⟩
    case round =>
      obtain ⟨k, n, hk, rfl, ht, rfl⟩ := hrel
      by_cases hlt : k < xs.length
      · obtain ⟨b1, o1, rfl, c1⟩ := ha k hlt
        obtain ⟨b2, o2, rfl, c2⟩ := hb k (by rw [← HL.out]; exact hlt)
        clear ha hb
        generalize hp : xs[k]?.getD 0 = p at *
        generalize hq : ys[k]?.getD 0 = q at *
        have HP := Lib.hid hp
        have HQ := Lib.hid hq
        have HT := Lib.hid ht
        clear hp hq ht
        have hi1 : (k : Int) < (xs.length : Int) := by omega
        have hi2 : (k : Int) < (ys.length : Int) := by have := HL.out; omega
        go_wp2
        go_quiet (fail)
        go_wp2
        · have hd : (p != q) = true := by assumption
          go_ret
          refine ⟨ret_bool ?_, (drewN_below _ _).trans ((drewN_below (w.drewN n) nq).mono (Nat.le_refl _))⟩
          have : xs ≠ ys := fun e => by
            rw [← HP.out, ← HQ.out, e] at hd; simp at hd
          simp [eqL, this]
        · have hd : (p != q) = false := by assumption
          have he : p = q := by simpa using hd
          refine ⟨⟨k + 1, n + nq, by omega, by go_num, take_succ_eq HL.out hlt HT.out (by rw [HP.out, HQ.out, he]), rfl⟩, by simp [intOf]; omega⟩
      · obtain rfl : k = xs.length := by omega
        have he : xs = ys := by
          rw [List.take_length, HL.out, List.take_length] at ht; exact ht
        clear ha hb ht
        have HE := Lib.hid he
        clear he
        go_wp2
        go_ret
        exact ⟨ret_bool (by simp [eqL, HE.out]), drewN_below _ _⟩
  · have hne : ((xs.length : Int) != (ys.length : Int)) = true := by simp; omega
    have hnq : xs ≠ ys := fun e => hl (by rw [e])
    clear hl ha hb
    go_enter Tryz.func82, Tryz.ntmps82
    go_wp2
    go_ret
    exact ⟨ret_bool (by simp [eqL, hnq]), Below.refl _ _⟩

end Go.Proofs.YtgkkoegfmhgcjaaGreatDoor

namespace Go.Proofs.YtgkkoegfmhgcjaaGreatDoor
open Go.RowKit

/-- k, k + 1, .., n numbers. -/
def marks (k : Int) (n : Nat) : List Int := (List.range n).map fun i : Nat => k + (i : Int)
theorem marks_length (k : Int) (n : Nat) : (marks k n).length = n := by simp [marks]
theorem marks_get (k : Int) {n j : Nat} (h : j < n) : (marks k n)[j]?.getD 0 = k + (j : Int) := by simp [marks, h]

theorem Row.lt {base : Nat} {w : World} {v : Value} {xs : List Int} (h : Row base w v xs) (hx : 0 < xs.length) : ∃ g cap, v = .slice (some ⟨g, 0, none⟩) xs.length cap ∧ base ≤ g ∧ g < w.heap.size := by
  rcases h.2 with ⟨rfl, h0⟩ | ⟨g, cap, cur, rfl, hg, hh, _⟩
  · omega
  · exact ⟨g, cap, rfl, hg, lt_of_heap hh⟩

theorem Row.set {base : Nat} {w : World} {g n cap : Nat} {xs : List Int} (h : Row base w (.slice (some ⟨g, 0, none⟩) n cap) xs) (hn : xs.length = n) (j : Nat) (q : Int) :
    Row base (w.setCell ⟨g, j, none⟩ (.int .i64 q)) (.slice (some ⟨g, 0, none⟩) n cap) (xs.set j q) := by
  subst hn
  have := (World.ownsRow.stored h j (.int .i64 q)).1
  rw [← List.map_set] at this
  unfold Row
  rw [List.length_set]
  exact this

theorem Row.cellAt {base : Nat} {w : World} {g n cap : Nat} {xs : List Int} (h : Row base w (.slice (some ⟨g, 0, none⟩) n cap) xs) (hn : xs.length = n) (j : Nat) (hj : j < n) :
    w.cell? ⟨g, j, none⟩ = some (.int .i64 (xs[j]?.getD 0)) ∧ w.frozen? ⟨g, j, none⟩ = false := by
  subst hn
  refine ⟨?_, World.ownsRow.frozenAt h j⟩
  have := World.ownsRow.cellAt h j (by omega)
  rw [this]; simp [hj]

theorem marks_step (k : Int) (xs : List Int) (j : Nat) (hj : j < xs.length) : (marks k j ++ xs.drop j).set j (k + (j : Int)) = marks k (j + 1) ++ xs.drop (j + 1) := by
  apply List.ext_getElem
  · simp [marks]; omega
  · intro i h1 h2
    simp only [marks, List.getElem_set, List.getElem_append, List.length_map, List.length_range, List.getElem_map, List.getElem_range, List.getElem_drop]
    split
    · subst i; rw [dif_pos (by omega)]
    · split
      · rw [dif_pos (by omega)]
      · rw [dif_neg (by omega)]
        congr 1; omega

set_option maxHeartbeats 800000 in
theorem markIntS (base : Nat) (v : Value) (xs : List Int) (k : Int) (w : World) (hv : Row base w v xs) (hx : xs.length ≤ 1000000000) (h0 : 0 ≤ k) (h1 : k ≤ 1000000000) :
    Calls Tryz.prog 83 #[v, .int .i64 k] w fun e w' => e = .returned (.int .i64 (k + xs.length)) ∧ Row base w' v (marks k xs.length) ∧ Below base w w' := by
  by_cases hl : xs.length = 0
  · obtain ⟨a, cap, rfl⟩ := hv.shape
    rw [List.length_eq_zero_iff] at hl
    subst hl
    have HV := Lib.hid hv
    clear hv
    go_enter Tryz.func83, Tryz.ntmps83
    go_wp2
    go_loopw [1, 5] (fun q i wr => q = .int .i64 k ∧ i = .int .i64 0 ∧ wr = w) (fun _ _ _ => 0)
    case atStart => exact ⟨rfl, rfl, rfl⟩
    case round =>
      obtain ⟨rfl, rfl, rfl⟩ := hrel
      go_wp2
      go_ret
      exact ⟨ret_int (by simp), HV.out, Below.refl _ _⟩
  · obtain ⟨g, cap, rfl, hg, hgs⟩ := hv.lt (by omega)
    have HV := Lib.hid hv
    obtain ⟨n, hn⟩ : ∃ n, xs.length = n := ⟨_, rfl⟩
    rw [hn] at hx ⊢
    have HN := Lib.hid hn
    have hn1 : n ≠ 0 := by omega
    clear hv hl
    rw [hn] at HV
    clear hn
    go_enter Tryz.func83, Tryz.ntmps83
    go_wp2
    go_loopw [1, 5] (fun q i wr => ∃ j : Nat, j ≤ n ∧ q = .int .i64 (k + j) ∧ i = .int .i64 j ∧ Row base wr (.slice (some ⟨g, 0, none⟩) n cap) (marks k j ++ xs.drop j) ∧ Below base w wr) (fun _ i _ => n - (intOf i).toNat)
    case atStart => exact ⟨0, Nat.zero_le _, by simp, rfl, by simpa [marks] using HV.out, Below.refl _ _⟩
    case round =>
      obtain ⟨j, hj, rfl, rfl, hr, hbl⟩ := hrel
      by_cases hlt : j < n
      · have hlen : (marks k j ++ xs.drop j).length = n := by have := HN.out; simp [marks_length]; omega
        obtain ⟨c1, c2⟩ := hr.cellAt hlen j hlt
        have HS := Lib.hid (hr.set hlen j (k + (j : Int)))
        rw [marks_step k xs j (by have := HN.out; omega)] at HS
        clear hr hlen
        have hi : (j : Int) < (n : Int) := by omega
        go_wp2
        go_roundw
        case rel => exact ⟨j + 1, by omega, by go_num, by go_num, HS.out, hbl.setCell (p := ⟨g, j, none⟩) hg _⟩
        case measure => simp [intOf]; omega
      · obtain rfl : j = n := by omega
        have HR := Lib.hid hr
        clear hr
        go_wp2
        go_ret
        refine ⟨rfl, ?_, hbl⟩
        have := HR.out
        rw [List.drop_of_length_le (by have := HN.out; omega), List.append_nil] at this
        exact this

set_option maxHeartbeats 800000 in
theorem heldIntS (v : Value) (k : Int) (n : Nat) (w : World) (hv : Ints w v (marks k n)) (hx : n ≤ 1000000000) (h0 : 0 ≤ k) (h1 : k ≤ 1000000000) :
    Calls Tryz.prog 84 #[v, .int .i64 k] w fun e w' => e = .returned (.int .i64 (k + n)) ∧ w = w' := by
  obtain ⟨a, cap, rfl, ha⟩ := hv
  rw [marks_length] at ha ⊢
  go_enter Tryz.func84, Tryz.ntmps84
  go_wp2
  go_loop [1, 5] (fun q i => ∃ j : Nat, j ≤ n ∧ q = .int .i64 (k + j) ∧ i = .int .i64 j) (fun _ i => n - (intOf i).toNat)
  case atStart => exact ⟨0, Nat.zero_le _, by simp, rfl⟩
  case round =>
    obtain ⟨j, hj, rfl, rfl⟩ := hrel
    by_cases hlt : j < n
    · obtain ⟨b, off, rfl, c1⟩ := ha j hlt
      rw [marks_get k hlt] at c1
      clear ha
      have hi : (j : Int) < (n : Int) := by omega
      go_wp2
      go_round
      case rel => exact ⟨j + 1, by omega, by go_num, by go_num⟩
      case measure => simp [intOf]; omega
    · obtain rfl : j = n := by omega
      clear ha
      go_wp2
      go_ret
      exact ⟨rfl, rfl⟩

end Go.Proofs.YtgkkoegfmhgcjaaGreatDoor

namespace Go.Proofs.YtgkkoegfmhgcjaaGreatDoor
open Go.RowKit

theorem not_mem_of {xs : List Int} {x : Int} (h : ∀ i, i < xs.length → xs[i]?.getD 0 ≠ x) : x ∉ xs := by
  intro hx
  obtain ⟨i, hi, he⟩ := List.mem_iff_getElem.1 hx
  exact h i hi (by rw [List.getElem?_eq_getElem hi, Option.getD_some, he])

theorem asc_at {xs : List Int} (h : xs.Pairwise (· < ·)) {k : Nat} (h1 : 1 ≤ k) (hk : k < xs.length) : xs[k - 1]?.getD 0 < xs[k]?.getD 0 := by
  have := List.pairwise_iff_getElem.1 h (k - 1) k (by omega) hk (by omega)
  rw [List.getElem?_eq_getElem hk, List.getElem?_eq_getElem (by omega)]
  exact this

end Go.Proofs.YtgkkoegfmhgcjaaGreatDoor

namespace Go.Proofs.YtgkkoegfmhgcjaaGreatDoor
open Go.RowKit Go.Shelf

attribute [local go_sem] Oper.semAt_some

theorem cell_new_l (W : World) (v : Value) (t : TypeId) : (W.alloc (.cells #[v] t)).cell? ⟨W.heap.size, 0, none⟩ = some v ∧ (W.alloc (.cells #[v] t)).frozen? ⟨W.heap.size, 0, none⟩ = false := ⟨(Boxed.new W t v).cell, (Boxed.new W t v).frozen⟩
theorem cell_alloc_l {W : World} {a : Addr} {v : Value} (o : Obj) (h : W.cell? a = some v) : (W.alloc o).cell? a = some v := cell_kept h (World.grownBy_alloc W o none) (fun r e => by cases e)
theorem frozen_alloc_l {W : World} {a : Addr} {v : Value} (o : Obj) (h : W.cell? a = some v) (hf : W.frozen? a = false) : (W.alloc o).frozen? a = false := (frozen_kept h (World.grownBy_alloc W o none) (fun r e => by cases e)).trans hf

/-- What a round keeps: the blocks from B1 up to B2 lie as they lay. -/
def Kept (B1 B2 : Nat) (W W' : World) : Prop := ∀ k, B1 ≤ k → k < B2 → W'.heap[k]? = W.heap[k]?
theorem Kept.refl {B1 B2 : Nat} (W : World) : Kept B1 B2 W W := fun _ _ _ => rfl
theorem Kept.trans {B1 B2 : Nat} {A B C : World} (h : Kept B1 B2 A B) (k : Kept B1 B2 B C) : Kept B1 B2 A C := fun i h1 h2 => (k i h1 h2).trans (h i h1 h2)
theorem Kept.cell {B1 B2 : Nat} {W W' : World} (h : Kept B1 B2 W W') {p : Addr} (h1 : B1 ≤ p.block) (h2 : p.block < B2) : W'.cell? p = W.cell? p := World.cell?_of_block (w := W) (h _ h1 h2)
theorem Kept.setCell {B1 B2 : Nat} {A W : World} (h : Kept B1 B2 A W) {p : Addr} (hp : p.block < B1 ∨ B2 ≤ p.block) (u : Value) : Kept B1 B2 A (W.setCell p u) :=
  h.trans fun k h1 h2 => Below.heap_setCell _ _ _ _ (by omega)
theorem Kept.alloc {B1 B2 : Nat} {A W : World} (h : Kept B1 B2 A W) (hB : B2 ≤ W.heap.size) (o : Obj) : Kept B1 B2 A (W.alloc o) := h.trans fun k h1 h2 => Below.heap_alloc _ _ _ (by omega)
theorem Kept.drew {B1 B2 : Nat} {A W : World} (h : Kept B1 B2 A W) : Kept B1 B2 A W.drew := h
theorem Kept.of_below {B1 B2 : Nat} {A W : World} (h : Below B2 A W) : Kept B1 B2 A W := fun k _ h2 => h.block k h2
theorem kept_b {B1 B2 : Nat} {w : World} (hB : B2 ≤ w.heap.size) (W : World) (l : Nat) (o o' : Obj) (hl : w.heap.size ≤ l) (_ : W.heap[l]? = some o) (_ : o.isCells = false) (_ : o.isWalk = false) : Kept B1 B2 W (W.putObj l o') :=
  fun k _ h2 => World.putObj_heap_other (by omega)

set_option maxRecDepth 100000 in
set_option maxHeartbeats 2000000 in
theorem lastFirst1 (F : Fence) (n : Nat) (h7 : F.fn 186) (hro : F.round = none) (hn : 1 ≤ n) (l B1 : Nat) (x b : Nat) (hb : 2 ≤ b) (hb' : b ≤ 16) (hx : x ≤ 1000000000) (J Jx : List Pl.Dg → World → Prop)
    (hY : ∀ pre d W, J pre W → pre.length < (Pl.digsR b x).length → YieldAt F (n - 1) Tryz.prog l #[.int .i64 (d.1 : Int)] W fun e W' =>
      (e = .returned (.bool true) ∧ J (pre ++ [d]) W' ∧ Kept B1 (B1 + 2) W W') ∨ (e = .returned (.bool false) ∧ Jx (pre ++ [d]) W'))
    (W : World) (hB0 : W.cell? ⟨B1, 0, none⟩ = some (.int .i64 x)) (hB1 : W.cell? ⟨B1 + 1, 0, none⟩ = some (.int .i64 b)) (h0 : J [] W) :
    CallsIn F n Tryz.prog 186 #[.func (.yield l) #[] #[], .pointer (some ⟨B1, 0, none⟩), .pointer (some ⟨B1 + 1, 0, none⟩)] W fun e W' => (∃ v, e = .returned v) ∧
      ((∃ ys, ys = Pl.digsF b x ∧ J ys W') ∨ (∃ pre, pre <+: Pl.digsF b x ∧ Jx pre W')) := by
  refine callsIn_of_wp Tryz.func186 rfl h7 ?_ hro
  simp only [Tryz.ntmps186, List.size_toArray, List.length_cons, List.length_nil, Nat.reduceAdd, Nat.reduceSub, Array.replicate_succ, Array.replicate_zero, List.push_toArray, List.append_toArray, List.nil_append, List.cons_append]
  gi_wp2
  gi_loopw [4] (fun i wr => ∃ (pre : List Pl.Dg) (left : Nat), left ≤ x ∧ i = .int .i64 left ∧ pre ++ Pl.digsF b left = Pl.digsF b x ∧ J pre wr ∧ wr.cell? ⟨B1 + 1, 0, none⟩ = some (.int .i64 b))
    (fun i _ => (intOf i).toNat)
  case atStart => exact ⟨[], x, Nat.le_refl _, rfl, rfl, h0, hB1⟩
  case round =>
    obtain ⟨pre, left, hle, rfl, hx', hJs, hc⟩ := hrel
    have hb0 : 0 ≤ (left : Int) := by omega
    have hb2 : 1 ≤ (b : Int) := by omega
    have hne : ((b : Int) == 0) = false := by simp; omega
    by_cases hlt : left < b
    · have hlen : pre.length < (Pl.digsR b x).length := by
        have := congrArg List.length hx'; rw [List.length_append, Pl.digsF_len, Pl.digsF_len, Pl.digsR_lt hlt] at this; simp at this; omega
      obtain ⟨fn, tmps, assign, body, hy, hR⟩ := hY pre (Pl.dg (left % b)) wr hJs hlen
      rw [Pl.dg_val (Nat.lt_of_lt_of_le (Nat.mod_lt _ (by omega)) hb')] at hy
      simp only [Int.natCast_emod] at hy
      have HX := Lib.hid hx'
      clear hx'
      gi_wp2
      refine hR.mono ?_
      rintro e W3 (⟨rfl, hJ3, hk3⟩ | ⟨rfl, hJx3⟩)
      · have hc3 : W3.cell? ⟨B1 + 1, 0, none⟩ = some (.int .i64 b) := (hk3.cell (p := ⟨B1 + 1, 0, none⟩) (by simp) (by simp)).trans hc
        gi_wp2
        refine bodyPost_ret (results_none rfl _ _ _) rfl ?_
        refine ⟨⟨_, rfl⟩, .inl ⟨_, ?_, hJ3⟩⟩
        rw [← HX.out, Pl.digsF_one hlt, Nat.mod_eq_of_lt hlt]
      · gi_wp2
        refine bodyPost_ret (results_none rfl _ _ _) rfl ?_
        refine ⟨⟨_, rfl⟩, .inr ⟨_, ?_, hJx3⟩⟩
        rw [← HX.out, Pl.digsF_one hlt, Nat.mod_eq_of_lt hlt]
        exact List.prefix_refl _
    · have hdn : left / b < left := Nat.div_lt_self (by omega) (by omega)
      have hd0 : 0 ≤ (left : Int) / (b : Int) := Int.ediv_nonneg (by omega) (by omega)
      have hd1 : (left : Int) / (b : Int) < (left : Int) := show ((left / b : Nat) : Int) < (left : Int) from Int.ofNat_lt.2 hdn
      have hmore := Pl.digsF_more hb (n := left) (by omega)
      have hlen : pre.length < (Pl.digsR b x).length := by
        have := congrArg List.length hx'; rw [List.length_append, Pl.digsF_len, Pl.digsF_len] at this; have := Pl.digsR_pos b left; omega
      obtain ⟨fn, tmps, assign, body, hy, hR⟩ := hY pre (Pl.dg (left % b)) wr hJs hlen
      rw [Pl.dg_val (Nat.lt_of_lt_of_le (Nat.mod_lt _ (by omega)) hb')] at hy
      simp only [Int.natCast_emod] at hy
      have HX := Lib.hid hx'
      have HM := Lib.hid hmore
      clear hx' hmore
      gi_wp2
      refine hR.mono ?_
      rintro e W3 (⟨rfl, hJ3, hk3⟩ | ⟨rfl, hJx3⟩)
      · have hc3 : W3.cell? ⟨B1 + 1, 0, none⟩ = some (.int .i64 b) := (hk3.cell (p := ⟨B1 + 1, 0, none⟩) (by simp) (by simp)).trans hc
        gi_wp2
        go_roundw
        case rel => exact ⟨_, left / b, Nat.le_trans (Nat.div_le_self _ _) hle, rfl, by rw [← HX.out, HM.out]; simp, hJ3, hc3⟩
        case measure =>
          simp [intOf]; omega
      · gi_wp2
        refine bodyPost_ret (results_none rfl _ _ _) rfl ?_
        refine ⟨⟨_, rfl⟩, .inr ⟨_, ?_, hJx3⟩⟩
        rw [← HX.out, HM.out]
        exact ⟨Pl.digsF b (left / b), by simp⟩

set_option maxHeartbeats 1000000 in
/-- lastFirst boxes both numbers; the function value captures the boxes. -/
theorem lastFirst (F : Fence) (n : Nat) (h5 : F.fn 158) (hro : F.round = none) (x b : Int) (w : World) :
    CallsIn F n Tryz.prog 158 #[.int .i64 x, .int .i64 b] w fun e w' => e = .returned (.func (.func 186) #[] #[.pointer (some ⟨w.heap.size, 0, none⟩), .pointer (some ⟨w.heap.size + 1, 0, none⟩)]) ∧
      w' = (w.alloc (.cells #[.int .i64 x] 3)).alloc (.cells #[.int .i64 b] 3) := by
  refine callsIn_of_wp Tryz.func158 rfl h5 ?_ hro
  simp only [Tryz.ntmps158, List.size_toArray, List.length_cons, List.length_nil, Nat.reduceAdd, Nat.reduceSub, Array.replicate_succ, Array.replicate_zero, List.push_toArray, List.append_toArray, List.nil_append, List.cons_append]
  gi_wp2
  go_ret
  exact ⟨rfl, rfl⟩

/-- What lastFirst hands back yields the digits, the last one first, to every loop that keeps its boxes. -/
theorem lastFirst_stops (F : Fence) (n : Nat) (h7 : F.fn 186) (hro : F.round = none) (hn : 1 ≤ n) (B1 : Nat) (x b : Nat) (hb : 2 ≤ b) (hb' : b ≤ 16) (hx : x ≤ 1000000000) (w : World) (hB : B1 + 1 < w.heap.size)
    (hB0 : w.cell? ⟨B1, 0, none⟩ = some (.int .i64 x)) (hB1 : w.cell? ⟨B1 + 1, 0, none⟩ = some (.int .i64 b)) :
    SeqStopsK F n Tryz.prog 186 #[.pointer (some ⟨B1, 0, none⟩), .pointer (some ⟨B1 + 1, 0, none⟩)] (fun d : Pl.Dg => #[Value.int .i64 (d.1 : Int)]) (Kept B1 (B1 + 2)) (fun ys => ys = Pl.digsF b x) (fun pre => pre <+: Pl.digsF b x) (Pl.digsR b x).length w := fun l J Jx W hW _ _ hY h0 =>
  lastFirst1 F n h7 hro hn l B1 x b hb hb' hx J Jx hY W ((hW.cell (p := ⟨B1, 0, none⟩) (by simp; omega)).trans hB0) ((hW.cell (p := ⟨B1 + 1, 0, none⟩) (by simp; omega)).trans hB1) h0

end Go.Proofs.YtgkkoegfmhgcjaaGreatDoor

namespace Go.Proofs.YtgkkoegfmhgcjaaGreatDoor
open Go.RowKit Go.Shelf

attribute [local go_sem] Oper.semAt_some

set_option maxHeartbeats 400000 in
theorem hasDigits (n b : Int) (w : World) :
    Calls Tryz.prog 79 #[.int .i64 n, .int .i64 b] w fun e w' => e = .returned (.bool (Pl.okB n b)) ∧ w = w' := by
  by_cases h0 : 0 ≤ n
  · by_cases h1 : n ≤ 1000000000
    · go_enter Tryz.func79, Tryz.ntmps79
      go_wp2_with (go_at_call 59; refine (implBaseOk _ _).mono ?_; rintro e w' ⟨rfl, rfl⟩)
      all_goals
        go_ret
        exact ⟨ret_bool (by simp_all [Pl.okB] <;> omega), rfl⟩
    · go_enter Tryz.func79, Tryz.ntmps79
      go_wp2_with (go_at_call 59; refine (implBaseOk _ _).mono ?_; rintro e w' ⟨rfl, rfl⟩)
      all_goals
        go_ret
        exact ⟨ret_bool (by simp_all [Pl.okB] <;> omega), rfl⟩
  · go_enter Tryz.func79, Tryz.ntmps79
    go_wp2_with (go_at_call 59; refine (implBaseOk _ _).mono ?_; rintro e w' ⟨rfl, rfl⟩)
    all_goals
      go_ret
      exact ⟨ret_bool (by simp_all [Pl.okB] <;> omega), rfl⟩

/-- The sum of what has come. -/
def sumDg (l : List Pl.Dg) : Nat := (l.map (·.1)).sum
theorem sumDg_snoc (l : List Pl.Dg) (d : Pl.Dg) : sumDg (l ++ [d]) = sumDg l + d.1 := by simp [sumDg]
theorem sumDg_le (l : List Pl.Dg) : sumDg l ≤ 16 * l.length := by
  induction l with
  | nil => simp [sumDg]
  | cons a l ih => simp only [sumDg, List.map_cons, List.sum_cons, List.length_cons] at *; have := a.2; omega

set_option maxRecDepth 100000 in
set_option maxHeartbeats 2000000 in
theorem sumOfYes (x b : Nat) (hb : 2 ≤ b) (hb' : b ≤ 16) (hx : x ≤ 1000000000) (w : World) :
    Calls Tryz.prog 126 #[.int .i64 x, .int .i64 b] w fun e W' => e = .returned (.int .i64 (Pl.sumD b x)) ∧ Below w.heap.size w W' := by
  refine (callsIn_wide (n := 5)).1 ?_
  have h1 : 1 ≤ 5 := by omega
  have hok : Pl.okB x b = true := by rw [Pl.okB_iff]; omega
  have hN := Pl.digsR_len30 hb hx
  refine callsIn_of_wp_marks Tryz.func126 rfl trivial ?_ rfl
  simp only [Tryz.ntmps126, List.size_toArray, List.length_cons, List.length_nil, Nat.reduceAdd, Nat.reduceSub, Array.replicate_succ, Array.replicate_zero, List.push_toArray, List.append_toArray, List.nil_append, List.cons_append]
  gi_wp2_with (first | (refine ⟨trivial, ?_⟩; gi_at_call 79; refine (callsIn_wide.2 (hasDigits _ _ _)).mono ?_; rintro e w' ⟨rfl, rfl⟩) | (refine ⟨trivial, ?_⟩; gi_at_call 158; refine (lastFirst Fence.wide (5 - 1) trivial rfl _ _ _).mono ?_; rintro e w' ⟨rfl, rfl⟩))
  have hs := cell_new_l w (.int .i64 0) 3
  have c1 := cell_new_l (w.alloc (.cells #[.int .i64 0] 3)) (.int .i64 x) 3
  have c2 := cell_new_l ((w.alloc (.cells #[.int .i64 0] 3)).alloc (.cells #[.int .i64 x] 3)) (.int .i64 b) 3
  simp only [World.size_alloc] at c1 c2
  have hB0 : Below w.heap.size w (((w.alloc (.cells #[.int .i64 0] 3)).alloc (.cells #[.int .i64 x] 3)).alloc (.cells #[.int .i64 b] 3)) := (((Below.refl _ w).alloc (Nat.le_refl _) _).alloc (by simp) _).alloc (by simp; omega) _
  refine wpIn_rangeFunc_ownF (F := Fence.wide) rfl h1 (gf := 186) (lb := #[.pointer (some ⟨w.heap.size + 1, 0, none⟩), .pointer (some ⟨w.heap.size + 1 + 1, 0, none⟩)]) rfl trivial (enters_of Tryz.func186 (by kernel_rfl) rfl)
    (lastFirst_stops Fence.wide (5 - 1) trivial rfl (by omega) (w.heap.size + 1) x b hb hb' hx _ (by simp) (cell_alloc_l _ c1.1) c2.1) Kept.trans (kept_b (by simp)) (Below.refl _ _) (fun _ => rfl)
    (fun pre W => (W.cell? ⟨w.heap.size, 0, none⟩ = some (.int .i64 (sumDg pre)) ∧ W.frozen? ⟨w.heap.size, 0, none⟩ = false) ∧ Below w.heap.size w W)
    (fun _ _ _ => False)
    (OwnFrom.and (Own.from (fun s A B row hs hg hr => ⟨cell_kept hs.1 hg hr, (frozen_kept hs.1 hg hr).trans hs.2⟩) _) (ownFrom_below (Nat.le_refl _) (by simp; omega)))
    (fun _ _ _ _ _ hs _ _ => hs)
    ⟨⟨cell_alloc_l _ (cell_alloc_l _ hs.1), frozen_alloc_l _ (cell_alloc_l _ hs.1) (frozen_alloc_l _ hs.1 hs.2)⟩, hB0⟩
    (fun d => { tmps := #[.int .i64 x, .int .i64 b, undef, undef, .int .i64 0, .pointer (some ⟨w.heap.size, 0, none⟩), .int .i64 (d.1 : Int), .int .i64 x, .int .i64 b, .bool true, .bool false, .int .i64 x, .int .i64 b,
      .func (.func 186) #[] #[.pointer (some ⟨w.heap.size + 1, 0, none⟩), .pointer (some ⟨w.heap.size + 1 + 1, 0, none⟩)], .int .i64 (d.1 : Int), undef, undef, undef, undef], defers := [] }) ?assign ?body ?done ?stop
  case assign =>
    intro l d W K hK
    gi_wp2
    exact hK
  case body =>
    rintro l pre d W ⟨⟨hc, hf⟩, hB⟩ hlen
    have hd := d.2
    have hsum := sumDg_le pre
    gi_wp2
    exact ⟨KeepsOthers.setCell _ _ _, (Kept.refl W).setCell (p := ⟨w.heap.size, 0, none⟩) (.inl (by simp)) _, ⟨by rw [sumDg_snoc]; exact World.cell?_setCell_same' _ _ _ (by rw [hc]; rfl), by rw [World.frozen?_setCell]; exact hf⟩, hB.setCell (p := ⟨w.heap.size, 0, none⟩) (Nat.le_refl _) _⟩
  case done =>
    rintro D ys W hD rfl ⟨⟨hc, _⟩, hB⟩ hK
    have hv : sumDg (Pl.digsF b x) = Pl.sumD b x := by rw [sumDg, Pl.digsF_val hb hb', Pl.sumD]
    rw [hv] at hc
    clear hv
    gi_wp2
    refine ⟨by simp, .inl ⟨_, _, rfl, run_takeDeferred hK, ?_⟩⟩
    exact ⟨_, results_tmp rfl _ _ _, rfl, hB.trans (belowK_b (w := w) (Nat.le_refl _) W D _ _ (by simp at hD; omega) hK rfl rfl)⟩
  case stop =>
    rintro D c pre W _ _ h _
    exact h.elim

set_option maxHeartbeats 400000 in
theorem implSumOf (n b : Int) (w : World) :
    Calls Tryz.prog 126 #[.int .i64 n, .int .i64 b] w fun e W' => e = .returned (.int .i64 (Pl.sumI n b)) ∧ Below w.heap.size w W' := by
  by_cases h : Pl.okB n b = true
  · obtain ⟨x, k, rfl, rfl, h1, h2, h3⟩ := Pl.okB_nat h
    rw [Pl.sumI_yes x k h]
    exact sumOfYes x k h1 h2 h3 w
  · rw [Pl.sumI_no h]
    go_enter Tryz.func126, Tryz.ntmps126
    go_wp2_with (go_at_call 79; refine (hasDigits _ _ _).mono ?_; rintro e w' ⟨rfl, rfl⟩)
    go_ret
    exact ⟨rfl, Below.refl _ _⟩

set_option maxHeartbeats 400000 in
theorem specSumYes (x b : Nat) (hb : 2 ≤ b) (hb' : b ≤ 16) (hx : x ≤ 1000000000) (w : World) :
    Calls Tryz.prog 134 #[.int .i64 x, .int .i64 b] w fun e w' => e = .returned (.int .i64 (Pl.sumD b x)) ∧ w = w' := by
  have hB : Pl.baseB b = true := by rw [Pl.baseB_iff]; omega
  have hne : ((b : Int) == 0) = false := by simp; omega
  have hle := Pl.sumD_le hb x
  go_enter Tryz.func134, Tryz.ntmps134
  go_wp2_with (first | (go_at_call 49; refine (specIn _ _ _ _).mono ?_; rintro e w' ⟨rfl, rfl⟩) | (go_at_call 50; refine (specBaseOk _ _).mono ?_; rintro e w' ⟨rfl, rfl⟩))
  go_loop [5, 6] (fun s l => ∃ (t left : Nat), t + Pl.sumD b left = Pl.sumD b x ∧ left ≤ x ∧ s = .int .i64 t ∧ l = .int .i64 left) (fun _ l => (intOf l).toNat)
  case atStart => exact ⟨0, x, by omega, by omega, rfl, rfl⟩
  case round =>
    obtain ⟨t, left, ht, hl, rfl, rfl⟩ := hrel
    have hst := Pl.sumD_step hb left
    have h0 : 0 ≤ (left : Int) / (b : Int) := Int.ediv_nonneg (by omega) (by omega)
    have h0' : 0 ≤ (left : Int) % (b : Int) := Int.emod_nonneg _ (by omega)
    have hm : left % b + Pl.sumD b (left / b) = Pl.sumD b left := hst.symm
    have hm' : (t : Int) + (left : Int) % (b : Int) ≤ 1000000000 := show (t : Int) + ((left % b : Nat) : Int) ≤ 1000000000 by omega
    by_cases hlt : 0 < left
    · have h1 : (left : Int) / (b : Int) < (left : Int) := show ((left / b : Nat) : Int) < (left : Int) from Int.ofNat_lt.2 (Nat.div_lt_self (by omega) (by omega))
      have HT := Lib.hid ht
      have HM := Lib.hid hm
      clear ht hm hst
      go_wp2
      go_round
      case rel => exact ⟨t + left % b, left / b, by rw [← HT.out, ← HM.out]; omega, Nat.le_trans (Nat.div_le_self _ _) hl, by simp, rfl⟩
      case measure =>
        have := Nat.div_lt_self (n := left) (k := b) (by omega) (by omega)
        simp [intOf]; omega
    · obtain rfl : left = 0 := by omega
      have e0 : Pl.sumD b 0 = 0 := Pl.sumD_lt (by omega)
      rw [e0] at ht
      have HT := Lib.hid ht
      clear ht hm hst e0 h0 h0' hm'
      go_wp2
      go_ret
      exact ⟨ret_int (by rw [← HT.out]; simp), rfl⟩

set_option maxHeartbeats 400000 in
theorem specSumOf (n b : Int) (w : World) :
    Calls Tryz.prog 134 #[.int .i64 n, .int .i64 b] w fun e w' => e = .returned (.int .i64 (Pl.sumI n b)) ∧ w = w' := by
  by_cases h : Pl.okB n b = true
  · obtain ⟨x, k, rfl, rfl, h1, h2, h3⟩ := Pl.okB_nat h
    rw [Pl.sumI_yes x k h]
    exact specSumYes x k h1 h2 h3 w
  · rw [Pl.sumI_no h]
    by_cases hn : (decide (0 ≤ n) && decide (n ≤ 1000000000)) = true
    · have hB : Pl.baseB b = false := by cases hb : Pl.baseB b <;> simp_all [Pl.okB]
      go_enter Tryz.func134, Tryz.ntmps134
      go_wp2_with (first | (go_at_call 49; refine (specIn _ _ _ _).mono ?_; rintro e w' ⟨rfl, rfl⟩) | (go_at_call 50; refine (specBaseOk _ _).mono ?_; rintro e w' ⟨rfl, rfl⟩))
      all_goals
        go_ret
        exact ⟨rfl, rfl⟩
    · have hn' : (decide (0 ≤ n) && decide (n ≤ 1000000000)) = false := by simpa using hn
      go_enter Tryz.func134, Tryz.ntmps134
      go_wp2_with (first | (go_at_call 49; refine (specIn _ _ _ _).mono ?_; rintro e w' ⟨rfl, rfl⟩) | (go_at_call 50; refine (specBaseOk _ _).mono ?_; rintro e w' ⟨rfl, rfl⟩))
      all_goals
        go_ret
        exact ⟨rfl, rfl⟩

end Go.Proofs.YtgkkoegfmhgcjaaGreatDoor

namespace Go.Proofs.YtgkkoegfmhgcjaaGreatDoor
open Go.RowKit Go.Shelf

namespace Pl
/-- The root as the functions answer: -1 for others. -/
def rootI (n b : Int) : Int := if okB n b = true then (rootN b.toNat n.toNat : Int) else -1
theorem rootI_yes (n b : Nat) (h : okB n b = true) : rootI n b = (rootN b n : Int) := by rw [rootI, if_pos h]; rfl
theorem rootI_no {n b : Int} (h : ¬ okB n b = true) : rootI n b = -1 := by rw [rootI, if_neg h]
/-- The steps as the functions answer: -1 for others. -/
def stepsI (n b : Int) : Int := if okB n b = true then (stepsN b.toNat n.toNat : Int) else -1
theorem stepsI_yes (n b : Nat) (h : okB n b = true) : stepsI n b = (stepsN b n : Int) := by rw [stepsI, if_pos h]; rfl
theorem stepsI_no {n b : Int} (h : ¬ okB n b = true) : stepsI n b = -1 := by rw [stepsI, if_neg h]
end Pl

set_option maxHeartbeats 400000 in
theorem rootAfter (b : Nat) (hb : 2 ≤ b) (hb' : b ≤ 16) (x : Nat) : x ≤ 1000000000 → ∀ (s : Nat) (w : World), s + Pl.stepsN b x ≤ 100 →
    Calls Tryz.prog 176 #[.int .i64 x, .int .i64 b, .int .i64 s] w fun e w' => e = .returned (.tuple #[.int .i64 (Pl.rootN b x), .int .i64 ((s : Int) + (Pl.stepsN b x : Int))]) ∧ Below w.heap.size w w' := by
  induction x using Nat.strongRecOn with
  | _ x ih =>
    intro hx s w hs
    by_cases hlt : x < b
    · have h1 := Lib.hid (Pl.rootN_lt hlt)
      have h2 := Lib.hid (Pl.stepsN_lt hlt)
      clear ih hs
      go_enter Tryz.func176, Tryz.ntmps176
      go_wp2_with fail
      go_ret2
      exact ⟨by rw [h1.out, h2.out]; simp, Below.refl _ _⟩
    · have hless := Pl.sumD_less hb (n := x) (by omega)
      have hst := Pl.stepsN_ge hb (n := x) (by omega)
      have IH : Hid (∀ (W : World), Calls Tryz.prog 176 #[.int .i64 (Pl.sumD b x), .int .i64 b, .int .i64 ((s : Int) + 1)] W fun e w' => e = .returned (.tuple #[.int .i64 (Pl.rootN b (Pl.sumD b x)), .int .i64 ((s : Int) + 1 + (Pl.stepsN b (Pl.sumD b x) : Int))]) ∧ Below W.heap.size W w') :=
        Lib.hid fun W => ih (Pl.sumD b x) hless (by omega) (s + 1) W (by omega)
      have h1 := Lib.hid (Pl.rootN_ge hb (n := x) (by omega))
      have h2 := Lib.hid hst
      have hs1 : (s : Int) + 1 ≤ 100 := by omega
      clear ih hs hst hless
      go_enter Tryz.func176, Tryz.ntmps176
      go_wp2_with fail
      refine (sumOfYes x b hb hb' hx _).mono ?_
      rintro e w1 ⟨rfl, hb1⟩
      go_wp2_with fail
      refine (IH.out _).mono ?_
      rintro e w2 ⟨rfl, hb2⟩
      go_wp2
      go_ret2
      exact ⟨by rw [h1.out, h2.out]; simp; omega, hb1.trans (hb2.mono hb1.size)⟩

set_option maxHeartbeats 400000 in
theorem implRootOf (n b : Int) (w : World) :
    Calls Tryz.prog 147 #[.int .i64 n, .int .i64 b] w fun e W' => e = .returned (.int .i64 (Pl.rootI n b)) ∧ Below w.heap.size w W' := by
  by_cases h : Pl.okB n b = true
  · obtain ⟨x, k, rfl, rfl, h1, h2, h3⟩ := Pl.okB_nat h
    have hs := Pl.steps_le h1 h2 h3
    rw [Pl.rootI_yes x k h]
    go_enter Tryz.func147, Tryz.ntmps147
    go_wp2_with (go_at_call 79; refine (hasDigits _ _ _).mono ?_; rintro e w' ⟨rfl, rfl⟩)
    refine (rootAfter k h1 h2 x h3 0 _ (by omega)).mono ?_
    rintro e w1 ⟨rfl, hb1⟩
    go_wp2
    go_ret
    exact ⟨rfl, hb1⟩
  · rw [Pl.rootI_no h]
    go_enter Tryz.func147, Tryz.ntmps147
    go_wp2_with (go_at_call 79; refine (hasDigits _ _ _).mono ?_; rintro e w' ⟨rfl, rfl⟩)
    go_ret
    exact ⟨rfl, Below.refl _ _⟩

set_option maxHeartbeats 1000000 in
theorem l2Root (b : Nat) (hb : 2 ≤ b) (hb' : b ≤ 16) (x : Nat) (hx : x ≤ 1000000000) (w : World) :
    Calls Tryz.prog 103 #[.int .i64 x, .int .i64 b] w fun e w' => e = .returned (.int .i64 (Pl.rootN b x)) ∧ w = w' := by
  have hne : ((b : Int) == 0) = false := by simp; omega
  go_enter Tryz.func103, Tryz.ntmps103
  go_wp2
  go_loop [0, 5, 6] (fun n _ _ => ∃ y : Nat, y ≤ 1000000000 ∧ Pl.rootN b y = Pl.rootN b x ∧ n = .int .i64 y) (fun n _ _ => (intOf n).toNat)
  case atStart => exact ⟨x, hx, rfl, rfl⟩
  case round =>
    obtain ⟨y, hy, hr, rfl⟩ := hrel
    by_cases hlt : y < b
    · have h1 := Lib.hid (Pl.rootN_lt hlt)
      have HR := Lib.hid hr
      clear hr
      go_wp2
      go_ret
      exact ⟨ret_int (by rw [← HR.out, h1.out]), rfl⟩
    · have hle := Pl.sumD_le hb y
      have hless := Pl.sumD_less hb (n := y) (by omega)
      have h1 := Lib.hid (Pl.rootN_ge hb (n := y) (by omega))
      have HR := Lib.hid hr
      clear hr
      go_wp2
      go_loop [5, 6] (fun s l => ∃ (t left : Nat), t + Pl.sumD b left = Pl.sumD b y ∧ left ≤ y ∧ s = .int .i64 t ∧ l = .int .i64 left) (fun _ l => (intOf l).toNat)
      case atStart => exact ⟨0, y, by omega, by omega, rfl, rfl⟩
      case round =>
        obtain ⟨t, left, ht, hl, rfl, rfl⟩ := hrel
        have hst := Pl.sumD_step hb left
        have h0 : 0 ≤ (left : Int) / (b : Int) := Int.ediv_nonneg (by omega) (by omega)
        have h0' : 0 ≤ (left : Int) % (b : Int) := Int.emod_nonneg _ (by omega)
        have hm : left % b + Pl.sumD b (left / b) = Pl.sumD b left := hst.symm
        have hm' : (t : Int) + (left : Int) % (b : Int) ≤ 1000000000 := show (t : Int) + ((left % b : Nat) : Int) ≤ 1000000000 by omega
        by_cases hlt' : 0 < left
        · have hq : (left : Int) / (b : Int) < (left : Int) := show ((left / b : Nat) : Int) < (left : Int) from Int.ofNat_lt.2 (Nat.div_lt_self (by omega) (by omega))
          have HT := Lib.hid ht
          have HM := Lib.hid hm
          clear ht hm hst
          go_wp2
          go_round
          case rel => exact ⟨t + left % b, left / b, by rw [← HT.out, ← HM.out]; omega, Nat.le_trans (Nat.div_le_self _ _) hl, by simp, rfl⟩
          case measure =>
            have := Nat.div_lt_self (n := left) (k := b) (by omega) (by omega)
            simp [intOf]; omega
        · obtain rfl : left = 0 := by omega
          have e0 : Pl.sumD b 0 = 0 := Pl.sumD_lt (by omega)
          obtain rfl : t = Pl.sumD b y := by omega
          clear ht hm hst e0 h0 h0' hm'
          go_wp2
          go_round
          case rel => exact ⟨Pl.sumD b y, by omega, by rw [← h1.out, HR.out], rfl⟩
          case measure => simp [intOf]; omega

theorem specTest (n b : Int) (h : ¬ Pl.okB n b = true) : (decide (0 ≤ n) && decide (n ≤ 1000000000)) = false ∨ ((decide (0 ≤ n) && decide (n ≤ 1000000000)) = true ∧ Pl.baseB b = false) := by
  by_cases hn : (decide (0 ≤ n) && decide (n ≤ 1000000000)) = true
  · exact .inr ⟨hn, by cases hb : Pl.baseB b <;> simp_all [Pl.okB]⟩
  · exact .inl (by simpa using hn)

set_option maxHeartbeats 400000 in
theorem specRootOf (n b : Int) (w : World) :
    Calls Tryz.prog 66 #[.int .i64 n, .int .i64 b] w fun e w' => e = .returned (.int .i64 (Pl.rootI n b)) ∧ w = w' := by
  by_cases h : Pl.okB n b = true
  · obtain ⟨x, k, rfl, rfl, h1, h2, h3⟩ := Pl.okB_nat h
    have hB : Pl.baseB k = true := by rw [Pl.baseB_iff]; omega
    rw [Pl.rootI_yes x k h]
    go_enter Tryz.func66, Tryz.ntmps66
    go_wp2_with (first | (go_at_call 49; refine (specIn _ _ _ _).mono ?_; rintro e w' ⟨rfl, rfl⟩) | (go_at_call 50; refine (specBaseOk _ _).mono ?_; rintro e w' ⟨rfl, rfl⟩) | (go_at_call 103; refine (l2Root k h1 h2 x h3 _).mono ?_; rintro e w' ⟨rfl, rfl⟩))
    go_ret
    exact ⟨rfl, rfl⟩
  · rw [Pl.rootI_no h]
    rcases specTest n b h with hn | ⟨hn, hB⟩
    all_goals
      go_enter Tryz.func66, Tryz.ntmps66
      go_wp2_with (first | (go_at_call 49; refine (specIn _ _ _ _).mono ?_; rintro e w' ⟨rfl, rfl⟩) | (go_at_call 50; refine (specBaseOk _ _).mono ?_; rintro e w' ⟨rfl, rfl⟩))
      all_goals
        go_ret
        exact ⟨rfl, rfl⟩

end Go.Proofs.YtgkkoegfmhgcjaaGreatDoor

namespace Go.Proofs.YtgkkoegfmhgcjaaGreatDoor
open Go.RowKit Go.Shelf

theorem info_int : (Tryz.prog.info? 3).map (fun i => (i.zero, i.size, i.bytes)) = some (some (.int .i64 0), 1, 8) := by kernel_rfl

/-- A call that hands back a new list of integers. -/
def ListPost (w : World) (xs : List Int) (e : Ending) (w' : World) : Prop := ∃ v, e = .returned v ∧ Row w.heap.size w' v xs ∧ Below w.heap.size w w'

theorem row_snoc {base : Nat} {w : World} {v : Value} {xs : List Int} {q : Int} (h : w.ownsRow base 3 1 v (xs.length + 1) (xs.map (Value.int .i64) ++ [.int .i64 q])) : Row base w v (xs ++ [q]) := by
  unfold Row; simpa using h

theorem below_append {B : Nat} {w w1 w2 : World} {e : TypeId} {size : Nat} {v : Value} {n : Nat} {xs : List Value} (h : Below B w w1) (hown : w1.ownsRow B e size v n xs) (hg : w1.grownBy w2 v.ownBlock) (hB : B ≤ w.heap.size := by exact Nat.le_refl _) : Below B w w2 :=
  h.grown hg (Nat.le_trans hB h.size) fun k e => (hown.lt k e).1

theorem row_one (w : World) (q : Int) : Row w.heap.size (w.alloc (.cells #[.int .i64 q] 3)) (.slice (some ⟨w.heap.size, 0, none⟩) 1 1) [q] :=
  World.ownsRow_lit w #[.int .i64 q] 1 (Nat.le_refl _) (by unfold maxLen; omega) (by simp)

set_option maxHeartbeats 1000000 in
theorem l1Digits (b : Nat) (hb : 2 ≤ b) (hb' : b ≤ 16) (k : Nat) : ∀ (x : Nat) (w : World), x < 2 ^ (k + 1) → x ≤ 1000000000 →
    Calls Tryz.prog 102 #[.int .i64 x, .int .i64 b] w (ListPost w (Pl.digI b x)) := by
  induction k with
  | zero =>
    intro x w hk hx
    have hlt : x < b := by omega
    have HD := Lib.hid (Pl.digI_lt hlt)
    go_enter Tryz.func102, Tryz.ntmps102
    go_wp2_with fail
    go_ret
    exact ⟨_, rfl, by rw [HD.out]; exact row_one w _, (Below.refl _ _).alloc (Nat.le_refl _) _⟩
  | succ k ih =>
    intro x w hk hx
    by_cases hlt : x < b
    · have HD := Lib.hid (Pl.digI_lt hlt)
      go_enter Tryz.func102, Tryz.ntmps102
      go_wp2_with fail
      go_ret
      exact ⟨_, rfl, by rw [HD.out]; exact row_one w _, (Below.refl _ _).alloc (Nat.le_refl _) _⟩
    · have HD := Lib.hid (Pl.digI_ge hb (n := x) (by omega))
      have hlen := Pl.digI_len30 hb (n := x / b) (Nat.le_trans (Nat.div_le_self _ _) hx)
      have hd : x / b < 2 ^ (k + 1) := by
        have h2 : x / b ≤ x / 2 := Nat.div_le_div_left hb (by omega)
        rw [Nat.pow_succ] at hk; omega
      have hd' : x / b ≤ 1000000000 := Nat.le_trans (Nat.div_le_self _ _) hx
      have IH : Hid (∀ (W : World), Calls Tryz.prog 102 #[.int .i64 ((x / b : Nat) : Int), .int .i64 b] W (ListPost W (Pl.digI b (x / b)))) := Lib.hid fun W => ih (x / b) W hd hd'
      clear ih hk
      generalize hL : Pl.digI b (x / b) = L at *
      obtain ⟨i0, hi0, hz0, hz1, hz2⟩ := info_parts info_int
      have hne : ((b : Int) == 0) = false := by simp; omega
      have hb0 : ¬ b = 0 := by omega
      have e1 : ((x : Int)).tdiv (b : Int) = ((x / b : Nat) : Int) := rfl
      have e2 : ((x : Int)).tmod (b : Int) = ((x % b : Nat) : Int) := rfl
      generalize hq : x / b = q at *
      generalize hr : x % b = r at *
      have e3 : IntKind.i64.wrap (q : Int) = (q : Int) := IntWalk.i64_in _ (by omega)
      clear hq hr hL hd hd'
      go_enter Tryz.func102, Tryz.ntmps102
      go_wp2_with fail
      go_region_law (first
        | (go_simp; go_at_call 102; refine (IH.out _).mono ?_; rintro e w1 ⟨v, rfl, hr, hb⟩)
        | (refine step_append_lies _ (by rfl) _ _ _ (by rfl) w.heap.size 3 i0 _ 1 8 Tryz.underlying28 hi0 hz0 hz1 hz2 rfl (by omega) v L.length (L.map (Value.int .i64)) (by rfl) (World.ownsRow.alloc hr _)
            ⟨w1.heap.size, 0, none⟩ 1 1 [.int .i64 (r : Int)] (by rfl) (by rfl) (World.news_of_block (cs := #[.int .i64 (r : Int)]) (t := 3) (fr := (0, 0)) (heap_alloc_new w1 _)) (by simp [Value.oneCell'])
            (by omega) (by unfold maxLen; omega) (by omega) (by have := hb.size; simp at this ⊢; omega) _ rfl ?_; intro gg cap w2 hown2 hgrow hat hlt2)
        | (refine step_append_lies _ (by rfl) _ _ _ (by rfl) w.heap.size 3 i0 _ 1 8 Tryz.underlying28 hi0 hz0 hz1 hz2 rfl (by omega) v L.length (L.map (Value.int .i64)) (by rfl) (Row.mono hr (by simp))
            ⟨w.heap.size, 0, none⟩ 1 1 [.int .i64 (r : Int)] (by rfl) (by rfl) (World.news_of_block (cs := #[.int .i64 (r : Int)]) (t := 3) (fr := (0, 0)) ((hb.block w.heap.size (by simp)).trans (heap_alloc_new w.drew _))) (by simp [Value.oneCell'])
            (by omega) (by unfold maxLen; omega) (by omega) (by have := hb.size; simp at this ⊢; omega) _ rfl ?_; intro gg cap w2 hown2 hgrow hat hlt2))
      · go_wp2
        go_ret
        refine ⟨_, rfl, by rw [HD.out]; exact row_snoc hown2, ?_⟩
        have hb1 : Below w.heap.size w (w1.alloc (.cells #[.int .i64 (r : Int)] 3)) := Below.alloc (((Below.refl _ w).drew).trans hb) hb.size _
        exact below_append hb1 (World.ownsRow.alloc hr _) hgrow
      · go_wp2
        go_ret
        refine ⟨_, rfl, by rw [HD.out]; exact row_snoc hown2, ?_⟩
        have hb1 : Below w.heap.size w w1 := (((Below.refl _ w).alloc (Nat.le_refl _) (.cells #[.int .i64 (r : Int)] 3)).drew).trans (Below.mono hb (by rw [World.size_drew, World.size_alloc]; omega))
        exact below_append hb1 (Row.mono hr (by simp)) hgrow

theorem rev_step (xs : List Int) (k : Nat) (h : k < xs.length) : xs.reverse.take (k + 1) = xs.reverse.take k ++ [xs[xs.length - 1 - k]?.getD 0] := by
  rw [List.take_succ_eq_append_getElem (by simpa using h)]
  simp only [List.getElem_reverse]
  rw [List.getElem?_eq_getElem (by omega)]
  rfl

set_option maxHeartbeats 1000000 in
theorem reversed (v : Value) (xs : List Int) (w : World) (hv : Ints w v xs) (hx : xs.length ≤ 1000000000) :
    Calls Tryz.prog 162 #[v] w (ListPost w xs.reverse) := by
  obtain ⟨a, cap, rfl, ha⟩ := hv
  obtain ⟨i0, hi0, hz0, hz1, hz2⟩ := info_parts info_int
  obtain ⟨n, hn⟩ : ∃ n, xs.length = n := ⟨_, rfl⟩
  have HN := Lib.hid hn
  rw [hn] at ha hx ⊢
  clear hn
  go_enter Tryz.func162, Tryz.ntmps162
  go_wp2_with (at_make; refine wpList_make_own _ rfl _ _ 28 rfl w.heap.size 3 i0 (.int .i64 0) 1 Tryz.underlying28 hi0 hz0 hz1 .i64 .i64 _ n rfl rfl rfl (by rw [hz2]; omega) (by unfold maxLen; omega) (Nat.le_refl _) ?_; intro w0 hown0 hgrow0)
  have hb0 : Below w.heap.size w w0 := (Below.refl _ w).grown hgrow0 (Nat.le_refl _) (fun k e => by cases e)
  go_loopw [3, 10] (fun v' i wr => ∃ (k : Nat) (vv : Value), vv = v' ∧ k ≤ n ∧ i = .int .i64 k ∧ Row w.heap.size wr v' (xs.reverse.take k) ∧ Below w.heap.size w wr) (fun _ i _ => n - (intOf i).toNat)
  case atStart => exact ⟨0, _, rfl, Nat.zero_le _, rfl, hown0, hb0⟩
  case round =>
    obtain ⟨k, vv, rfl, hk, rfl, hr, hbl⟩ := hrel
    by_cases hlt : k < n
    · obtain ⟨b, off, rfl, hc⟩ := ha (n - 1 - k) (by omega)
      have hc' : wr.cell? ⟨b, off + (n - 1 - k), none⟩ = some (.int .i64 (xs[n - 1 - k]?.getD 0)) := (hbl.cell (p := ⟨b, off + (n - 1 - k), none⟩) (World.block_lt_of_cell? _ _ hc)).trans hc
      have HS := Lib.hid (rev_step xs k (by have := HN.out; omega))
      rw [HN.out] at HS
      have hlen : (xs.reverse.take k).length = k := by have := HN.out; simp; omega
      generalize hL : xs.reverse.take k = L at *
      generalize xs[n - 1 - k]?.getD 0 = q at *
      have hsz := hbl.size
      have hr' : wr.ownsRow w.heap.size 3 1 vv L.length (L.map (Value.int .i64)) := hr
      clear ha hc hb0 hown0 hgrow0 hL hr
      go_wp2_with (at_builtin; refine wpList_append_own _ rfl _ _ 28 rfl w.heap.size 3 i0 (.int .i64 0) 1 8 Tryz.underlying28 hi0 hz0 hz1 hz2 rfl (by decide) _ _ _ rfl (hr'.alloc _) ⟨wr.heap.size, 0, none⟩ 1 1 [.int .i64 q] rfl rfl (cell_one_new _ _ _) (by simp [Value.oneCell']) (by unfold maxLen; omega) (by omega) (by simp; omega) ?_; intro v2 w1 hown1 hgrow1 _)
      go_roundw
      case rel => exact ⟨k + 1, _, rfl, by omega, by go_num, by rw [HS.out]; exact row_snoc hown1, below_append (hbl.alloc hbl.size _) (hr'.alloc _) hgrow1⟩
      case measure => simp [intOf]; omega
    · obtain rfl : k = n := by omega
      have HR := Lib.hid hr
      have hfull : xs.reverse.take k = xs.reverse := List.take_of_length_le (by have := HN.out; simp; omega)
      have HF := Lib.hid hfull
      obtain ⟨a', cap', hv'⟩ := hr.shape
      clear ha hb0 hown0 hgrow0 hr hfull
      go_wp2
      go_ret
      exact ⟨_, rfl, by rw [← HF.out]; exact HR.out, hbl⟩

end Go.Proofs.YtgkkoegfmhgcjaaGreatDoor

namespace Go.Proofs.YtgkkoegfmhgcjaaGreatDoor
open Go.RowKit Go.Shelf

attribute [local go_sem] Oper.semAt_some

theorem row_empty (w : World) : Row w.heap.size (w.alloc (.cells #[] 3)) (.slice (some ⟨w.heap.size, 0, none⟩) 0 0) [] :=
  World.ownsRow_lit w #[] 0 (Nat.le_refl _) (by unfold maxLen; omega) (by simp)

/-- okB by its two halves, as spec's functions ask them. -/
theorem okB_halves (n b : Int) : Pl.okB n b = ((decide (0 ≤ n) && decide (n ≤ 1000000000)) && Pl.baseB b) := by simp [Pl.okB, Bool.and_comm]

set_option maxHeartbeats 400000 in
theorem specDigitsOf (n b : Int) (w : World) : Calls Tryz.prog 65 #[.int .i64 n, .int .i64 b] w (ListPost w (Pl.digA n b)) := by
  by_cases h : Pl.okB n b = true
  · obtain ⟨x, k, rfl, rfl, h1, h2, h3⟩ := Pl.okB_nat h
    rw [Pl.digA_yes x k h]
    have hh := h
    rw [okB_halves] at hh
    simp only [Bool.and_eq_true] at hh
    have g1 : (decide (0 ≤ (x : Int)) && decide ((x : Int) ≤ 1000000000)) = true := by simp only [Bool.and_eq_true]; exact hh.1
    have g2 := hh.2
    have HL := Lib.hid (l1Digits k h1 h2 29 x · (by omega) h3)
    clear hh h
    go_enter Tryz.func65, Tryz.ntmps65
    go_wp2_with (first | (go_at_call 49; refine (specIn _ _ _ _).mono ?_; rintro e w' ⟨rfl, rfl⟩) | (go_at_call 50; refine (specBaseOk _ _).mono ?_; rintro e w' ⟨rfl, rfl⟩) | (go_at_call 102; refine (HL.out _).mono ?_; rintro e w1 ⟨v, rfl, hr, hb⟩))
    go_ret
    exact ⟨v, rfl, hr, hb⟩
  · rw [Pl.digA_no h]
    rw [okB_halves] at h
    by_cases hn : (decide (0 ≤ n) && decide (n ≤ 1000000000)) = true
    · have hB : Pl.baseB b = false := by rw [hn] at h; simpa using h
      clear h
      go_enter Tryz.func65, Tryz.ntmps65
      go_wp2_with (first | (go_at_call 49; refine (specIn _ _ _ _).mono ?_; rintro e w' ⟨rfl, rfl⟩) | (go_at_call 50; refine (specBaseOk _ _).mono ?_; rintro e w' ⟨rfl, rfl⟩))
      all_goals
        go_ret
        exact ⟨_, rfl, row_empty w, (Below.refl _ _).alloc (Nat.le_refl _) _⟩
    · have hn' : (decide (0 ≤ n) && decide (n ≤ 1000000000)) = false := by simpa using hn
      clear h hn
      go_enter Tryz.func65, Tryz.ntmps65
      go_wp2_with (first | (go_at_call 49; refine (specIn _ _ _ _).mono ?_; rintro e w' ⟨rfl, rfl⟩) | (go_at_call 50; refine (specBaseOk _ _).mono ?_; rintro e w' ⟨rfl, rfl⟩))
      all_goals
        go_ret
        exact ⟨_, rfl, row_empty w, (Below.refl _ _).alloc (Nat.le_refl _) _⟩

/-- Behind 'out = append(out, ..)' in a loop over the iterator, the rows from n₁ on, the box below. -/
theorem appended' {W w1 : World} {n₁ B : Nat} {t e : TypeId} {v v' : Value} {k m : Nat} {xs ys : List Value} {tmp : Obj}
    (hv : Boxed W B t v) (hte : t ≠ e) (hrow : W.ownsRow n₁ e 1 v k xs) (hn₁ : n₁ ≤ W.heap.size) (hB : B < n₁) (hown' : w1.ownsRow n₁ e 1 v' m ys) (hgrow : (W.alloc tmp).grownBy w1 v.ownBlock) :
    Boxed w1 B t v ∧ Boxed (w1.setCell ⟨B, 0, none⟩ v') B t v' ∧ (w1.setCell ⟨B, 0, none⟩ v').ownsRow n₁ e 1 v' m ys ∧ KeepsOthers W (w1.setCell ⟨B, 0, none⟩ v') ∧ Below B W (w1.setCell ⟨B, 0, none⟩ v') ∧ Kept (B + 1) n₁ W (w1.setCell ⟨B, 0, none⟩ v') := by
  have hv1 : Boxed w1 B t v := (hv.alloc tmp).kept hgrow (hv.not_row hte hrow)
  refine ⟨hv1, hv1.set v', hown'.kept (grownBy_setCell' w1 B v') (.inr (hv1.not_row hte hown').symm), ?_, ?_, ?_⟩
  · refine ((KeepsOthers.alloc W tmp).trans (KeepsOthers.of_grownBy hgrow fun j o ej hj => ?_)).trans (KeepsOthers.setCell _ _ _)
    rcases (hrow.alloc tmp).2 with ⟨rfl, _⟩ | ⟨g, cap, cur, rfl, _, hgb, _⟩
    · simp [Value.ownBlock] at ej
    · obtain rfl : g = j := by simpa [Value.ownBlock] using ej
      rw [hgb] at hj; cases hj; rfl
  · refine (((Below.refl B W).alloc (by omega) tmp).grown hgrow (by simp; omega) fun j ej => ?_).setCell (p := ⟨B, 0, none⟩) (Nat.le_refl _) v'
    have := (hrow.lt j ej).1; omega
  · intro k h1 h2
    rw [Below.heap_setCell _ _ _ _ (by simp; omega), hgrow.block k (by simp; omega) (fun e => by have := (hrow.lt k e.symm).1; omega)]
    exact Below.heap_alloc _ _ _ (by omega)

/-- What has come, as integers. -/
def intsDg (l : List Pl.Dg) : List Int := l.map fun d => (d.1 : Int)
theorem intsDg_len (l : List Pl.Dg) : (intsDg l).length = l.length := by simp [intsDg]

theorem rev_digs {b x : Nat} (hb : 2 ≤ b) (hb' : b ≤ 16) : (intsDg (Pl.digsF b x)).reverse = Pl.digI b x := by
  have h : intsDg (Pl.digsF b x) = (Pl.digsR b x).map fun d : Nat => (d : Int) := by
    rw [← Pl.digsF_val (n := x) hb hb']; simp [intsDg]
  rw [h, Pl.digI, Pl.digs, List.map_reverse]

theorem _root_.Go.World.ownsRow.mono' {w : World} {base base' : Nat} {e : TypeId} {size : Nat} {v : Value} {n : Nat} {xs : List Value} (h : w.ownsRow base e size v n xs) (hb : base' ≤ base) : w.ownsRow base' e size v n xs := by
  rcases h with ⟨h1, h2 | ⟨g, cap, cur, hv, hg, r⟩⟩
  · exact ⟨h1, .inl h2⟩
  · exact ⟨h1, .inr ⟨g, cap, cur, hv, Nat.le_trans hb hg, r⟩⟩

set_option maxRecDepth 100000 in
set_option maxHeartbeats 2000000 in
theorem digitsOfYes (x b : Nat) (hb : 2 ≤ b) (hb' : b ≤ 16) (hx : x ≤ 1000000000) (w : World) :
    Calls Tryz.prog 146 #[.int .i64 x, .int .i64 b] w (ListPost w (Pl.digI b x)) := by
  refine (callsIn_wide (n := 5)).1 ?_
  have h1 : 1 ≤ 5 := by omega
  have hok : Pl.okB x b = true := by rw [Pl.okB_iff]; omega
  have hN := Pl.digsR_len30 hb hx
  obtain ⟨i0, hi0, hz0, hz1, hz2⟩ := info_parts info_int
  refine callsIn_of_wp_marks Tryz.func146 rfl trivial ?_ rfl
  simp only [Tryz.ntmps146, List.size_toArray, List.length_cons, List.length_nil, Nat.reduceAdd, Nat.reduceSub, Array.replicate_succ, Array.replicate_zero, List.push_toArray, List.append_toArray, List.nil_append, List.cons_append]
  gi_wp2_with (first | (refine ⟨trivial, ?_⟩; gi_at_call 79; refine (callsIn_wide.2 (hasDigits _ _ _)).mono ?_; rintro e w' ⟨rfl, rfl⟩) | (refine ⟨trivial, ?_⟩; gi_at_call 158; refine (lastFirst Fence.wide (5 - 1) trivial rfl _ _ _).mono ?_; rintro e w' ⟨rfl, rfl⟩))
  have b0 := Boxed.new w 28 (.slice none 0 0)
  have c1 := cell_new_l (w.alloc (.cells #[.slice none 0 0] 28)) (.int .i64 x) 3
  have c2 := cell_new_l ((w.alloc (.cells #[.slice none 0 0] 28)).alloc (.cells #[.int .i64 x] 3)) (.int .i64 b) 3
  simp only [World.size_alloc] at c1 c2
  have hB0 : Below w.heap.size w (((w.alloc (.cells #[.slice none 0 0] 28)).alloc (.cells #[.int .i64 x] 3)).alloc (.cells #[.int .i64 b] 3)) := (((Below.refl _ w).alloc (Nat.le_refl _) _).alloc (by simp) _).alloc (by simp; omega) _
  obtain ⟨W0, hW0⟩ : ∃ W0, (((w.alloc (.cells #[.slice none 0 0] 28)).alloc (.cells #[.int .i64 x] 3)).alloc (.cells #[.int .i64 b] 3)) = W0 := ⟨_, rfl⟩
  have hsz : W0.heap.size = w.heap.size + 3 := by rw [← hW0]; simp
  have d1 : W0.cell? ⟨w.heap.size + 1, 0, none⟩ = some (.int .i64 x) := by rw [← hW0]; exact cell_alloc_l _ c1.1
  have d2 : W0.cell? ⟨w.heap.size + 1 + 1, 0, none⟩ = some (.int .i64 b) := by rw [← hW0]; exact c2.1
  have d0 : Boxed W0 w.heap.size 28 (.slice none 0 0) := by rw [← hW0]; exact (b0.alloc _).alloc _
  rw [hW0] at hB0 ⊢
  clear hW0 b0 c1 c2
  have HSZ := Lib.hid hsz
  have hsz' : w.heap.size + 3 ≤ W0.heap.size := by omega
  clear hsz
  refine wpIn_rangeFunc_ownF (F := Fence.wide) rfl h1 (gf := 186) (lb := #[.pointer (some ⟨w.heap.size + 1, 0, none⟩), .pointer (some ⟨w.heap.size + 1 + 1, 0, none⟩)]) rfl trivial (enters_of Tryz.func186 (by kernel_rfl) rfl)
    (lastFirst_stops Fence.wide (5 - 1) trivial rfl (by omega) (w.heap.size + 1) x b hb hb' hx W0 (by omega) d1 d2) Kept.trans (kept_b (by omega)) (Below.refl _ _) (fun _ => rfl)
    (fun pre W => (∃ v, Boxed W w.heap.size 28 v ∧ W.ownsRow (w.heap.size + 3) 3 1 v pre.length ((intsDg pre).map (Value.int .i64)) ∧ True) ∧ Below w.heap.size W0 W)
    (fun _ _ _ => False)
    (OwnFrom.and (Own.from (holdsRow_own (w.heap.size + 3) w.heap.size 28 3 1 (fun pre : List Pl.Dg => pre.length) (fun pre => (intsDg pre).map (Value.int .i64)) (fun _ _ => True)) _) (ownFrom_below hB0.size (by omega)))
    (fun _ _ _ _ _ hs _ _ => hs)
    ⟨⟨_, d0, World.ownsRow_nil _ _ _ _, trivial⟩, Below.refl _ _⟩
    (fun d => { tmps := #[.int .i64 x, .int .i64 b, undef, undef, .slice none 0 0, .pointer (some ⟨w.heap.size, 0, none⟩), .int .i64 (d.1 : Int), .int .i64 x, .int .i64 b, .bool true, .bool false, .int .i64 x, .int .i64 b,
      .func (.func 186) #[] #[.pointer (some ⟨w.heap.size + 1, 0, none⟩), .pointer (some ⟨w.heap.size + 1 + 1, 0, none⟩)], .int .i64 (d.1 : Int), undef, undef, undef, undef, undef, undef], defers := [] }) ?assign ?body ?done ?stop
  case assign =>
    intro l d W K hK
    gi_wp2
    exact hK
  case body =>
    rintro l pre d W ⟨⟨v, hv, hrow, _⟩, hB⟩ hlen
    have hd := d.2
    have hc := hv.cell
    have hBs := hB.size
    gi_wp2_with (gi_at_builtin; refine wpListIn_append_own _ rfl _ _ 28 rfl (w.heap.size + 3) 3 i0 (.int .i64 0) 1 8 Tryz.underlying28 hi0 hz0 hz1 hz2 rfl (by decide) _ _ _ rfl (hrow.alloc _) ⟨W.heap.size, 0, none⟩ 1 1 [.int .i64 (d.1 : Int)] rfl rfl (cell_one_new _ _ _) (by simp [Value.oneCell']) (by unfold maxLen; omega) (by omega) (by simp; omega) ?_; intro v' w1 hown' hgrow _; obtain ⟨g', cap', rfl⟩ := ownsRow_succ hown'; obtain ⟨hv1, hv2, hr2, hk2, hb2, hp2⟩ := appended' hv (by decide) hrow (by omega) (by omega) hown' hgrow; have hc1 := hv1.cell; have hf1 := hv1.frozen)
    exact ⟨hk2, hp2, ⟨_, hv2, by simpa [intsDg] using hr2, trivial⟩, hB.trans (hb2.mono (Nat.le_refl _))⟩
  case done =>
    rintro D ys W hD rfl ⟨⟨v, hv, hrow, _⟩, hB⟩ hK
    have hc := hv.cell
    have hrow' : Row (w.heap.size + 3) W v (intsDg (Pl.digsF b x)) := by unfold Row; rw [intsDg_len]; exact hrow
    have HR := Lib.hid (reversed v _ W hrow'.ints (by rw [intsDg_len, Pl.digsF_len]; omega))
    rw [rev_digs hb hb'] at HR
    have hBW := hB0.trans hB
    clear hrow hrow' hv
    gi_wp2_with (refine ⟨trivial, ?_⟩; gi_at_call 162; refine (callsIn_wide.2 HR.out).mono ?_; rintro e W2 ⟨v2, rfl, hr2, hb2⟩)
    have hK' : W2.heap[D]? = some (.deferred (some [])) := (hb2.block D (lt_of_heap hK)).trans hK
    refine ⟨by simp, .inl ⟨_, _, rfl, run_takeDeferred hK', ?_⟩⟩
    exact ⟨_, results_tmp rfl _ _ _, v2, rfl, (ownsRow_putObj hr2 _ hK' rfl).mono' (by have := hB.size; have := hB0.size; omega), (hBW.trans (hb2.mono hBW.size)).trans (belowK_b (w := w) (Nat.le_refl _) W2 D _ _ (by omega) hK' rfl rfl)⟩
  case stop =>
    rintro D c pre W _ _ h _
    exact h.elim

set_option maxHeartbeats 400000 in
theorem implDigitsOf (n b : Int) (w : World) : Calls Tryz.prog 146 #[.int .i64 n, .int .i64 b] w (ListPost w (Pl.digA n b)) := by
  by_cases h : Pl.okB n b = true
  · obtain ⟨x, k, rfl, rfl, h1, h2, h3⟩ := Pl.okB_nat h
    rw [Pl.digA_yes x k h]
    exact digitsOfYes x k h1 h2 h3 w
  · rw [Pl.digA_no h]
    go_enter Tryz.func146, Tryz.ntmps146
    go_wp2_with (go_at_call 79; refine (hasDigits _ _ _).mono ?_; rintro e w' ⟨rfl, rfl⟩)
    go_ret
    exact ⟨_, rfl, World.ownsRow_nil _ _ _ _, Below.refl _ _⟩

/-- How many digits, as the functions answer: -1 for others. -/
def longI (n b : Int) : Int := if Pl.okB n b = true then ((Pl.digA n b).length : Int) else -1

theorem longI_nat (x k : Nat) (h : Pl.okB x k = true) : longI x k = ((Pl.digsR k x).length : Int) := by
  rw [longI, if_pos h, Pl.digA_yes x k h, Pl.digI_len]

set_option maxHeartbeats 400000 in
theorem alive (w : World) : Calls Tryz.prog 19 #[] w fun e w' => e = .returned (.bool true) ∧ w = w' := by
  go_enter Tryz.func19, Tryz.ntmps19
  go_wp2_with (go_at_call 59; refine (implBaseOk _ _).mono ?_; rintro e w' ⟨rfl, rfl⟩)
  go_ret
  exact ⟨ret_bool (by decide), rfl⟩

theorem alive_q (w : World) : Calls Tryz.prog 19 #[] w fun e w' => e = .returned (.bool true) ∧ w' = w := (alive w).mono fun _ _ h => ⟨h.1, h.2.symm⟩

set_option maxHeartbeats 400000 in
theorem implLongOf (n b : Int) (w : World) : Calls Tryz.prog 204 #[.int .i64 n, .int .i64 b] w fun e w' => e = .returned (.int .i64 (longI n b)) ∧ Below w.heap.size w w' := by
  by_cases h : Pl.okB n b = true
  · rw [longI, if_pos h]
    have HD := Lib.hid (implDigitsOf n b)
    generalize Pl.digA n b = L at *
    go_enter Tryz.func204, Tryz.ntmps204
    go_wp2_with (first | (go_at_call 79; refine (hasDigits _ _ _).mono ?_; rintro e w' ⟨rfl, rfl⟩) | (go_at_call 146; refine (HD.out _).mono ?_; rintro e w1 ⟨v, rfl, hr, hb⟩; obtain ⟨a', cap', rfl⟩ := hr.shape))
    go_ret
    exact ⟨rfl, hb⟩
  · rw [longI, if_neg h]
    go_enter Tryz.func204, Tryz.ntmps204
    go_wp2_with (go_at_call 79; refine (hasDigits _ _ _).mono ?_; rintro e w' ⟨rfl, rfl⟩)
    go_ret
    exact ⟨rfl, Below.refl _ _⟩

end Go.Proofs.YtgkkoegfmhgcjaaGreatDoor

namespace Go.Proofs.YtgkkoegfmhgcjaaGreatDoor
open Go.RowKit

theorem eqL_self (xs : List Int) : eqL xs xs = true := by simp [eqL]

theorem Ints.kept {w w' : World} {v : Value} {xs : List Int} (h : Ints w v xs) {B : Nat} (hB : w.heap.size ≤ B) (hb : Below B w w') : Ints w' v xs := h.below (hb.mono hB)

end Go.Proofs.YtgkkoegfmhgcjaaGreatDoor

namespace Go.Proofs.YtgkkoegfmhgcjaaGreatDoor
open Go.RowKit Go.Shelf

attribute [local go_sem] Oper.semAt_some

namespace Pl
/-- A rule is told: 1..5 times, a base. -/
def ruleB (t b : Int) : Bool := baseB b && (decide (1 ≤ t) && decide (t ≤ 5))
theorem ruleB_iff (t b : Int) : ruleB t b = true ↔ (2 ≤ b ∧ b ≤ 16) ∧ 1 ≤ t ∧ t ≤ 5 := by simp [ruleB, baseB]
/-- A number, a number of times and a base that are told. -/
def okT (n t b : Int) : Bool := ruleB t b && okB n b
theorem okT_nat {n t b : Int} (h : okT n t b = true) : ∃ x s k : Nat, n = (x : Int) ∧ t = (s : Int) ∧ b = (k : Int) ∧ RuleOk s k ∧ x ≤ 1000000000 := by
  rw [okT, Bool.and_eq_true, ruleB_iff, okB_iff] at h
  exact ⟨n.toNat, t.toNat, b.toNat, by omega, by omega, by omega, ⟨by omega, by omega, by omega, by omega⟩, by omega⟩
theorem okT_of {x s k : Nat} (h : RuleOk s k) (hx : x ≤ 1000000000) : okT x s k = true := by
  have := h.t1; have := h.t2; have := h.b1; have := h.b2
  rw [okT, Bool.and_eq_true, ruleB_iff, okB_iff]; omega
/-- What comes next as the functions answer: -1 for others. -/
def nextI (n t b : Int) : Int := if okT n t b = true then (nextN t.toNat b.toNat n.toNat : Int) else -1
theorem nextI_yes (n t b : Nat) (h : okT n t b = true) : nextI n t b = (nextN t b n : Int) := by rw [nextI, if_pos h]; rfl
theorem nextI_no {n t b : Int} (h : ¬ okT n t b = true) : nextI n t b = -1 := by rw [nextI, if_neg h]

theorem nextN_sum {t b : Nat} (hb : 2 ≤ b) (n : Nat) : ((digsR b n).map (· ^ t)).sum = nextN t b n := by
  refine digInd hb (P := fun n => ((digsR b n).map (· ^ t)).sum = nextN t b n) ?_ ?_ n
  · intro n h; rw [digsR_lt h, nextN_lt h]; simp
  · intro n h ih; rw [digsR_ge hb h, nextN_ge hb h, List.map_cons, List.sum_cons, ih]

theorem pow_dg {d t : Nat} (hd : d < 16) (ht : t ≤ 5) : d ^ t ≤ 759375 := by
  have h1 : d ^ t ≤ 15 ^ t := Nat.pow_le_pow_left (by omega) t
  have h2 : (15 : Nat) ^ t ≤ 15 ^ 5 := Nat.pow_le_pow_right (by omega) ht
  omega
end Pl

/-- The sum of powers of what has come. -/
def powDg (t : Nat) (l : List Pl.Dg) : Nat := (l.map (·.1 ^ t)).sum
theorem powDg_snoc (t : Nat) (l : List Pl.Dg) (d : Pl.Dg) : powDg t (l ++ [d]) = powDg t l + d.1 ^ t := by simp [powDg]
theorem powDg_le {t : Nat} (ht : t ≤ 5) (l : List Pl.Dg) : powDg t l ≤ 759375 * l.length := by
  induction l with
  | nil => simp [powDg]
  | cons a l ih => simp only [powDg, List.map_cons, List.sum_cons, List.length_cons] at *; have := Pl.pow_dg a.2 ht; omega
theorem powDg_all {t b x : Nat} (hb : 2 ≤ b) (hb' : b ≤ 16) : powDg t (Pl.digsF b x) = Pl.nextN t b x := by
  rw [← Pl.nextN_sum hb, ← Pl.digsF_val (n := x) hb hb', List.map_map]; rfl

set_option maxHeartbeats 400000 in
theorem ruleOk (t b : Int) (w : World) :
    Calls Tryz.prog 159 #[.agg #[.int .i64 t, .int .i64 b]] w fun e w' => e = .returned (.bool (Pl.ruleB t b)) ∧ Below w.heap.size w w' := by
  have hbel : Below w.heap.size w (w.alloc (.cells #[.int .i64 t, .int .i64 b] 135)) := (Below.refl _ _).alloc (Nat.le_refl _) _
  by_cases h1 : 1 ≤ t
  · by_cases h2 : t ≤ 5
    · go_enter Tryz.func159, Tryz.ntmps159
      go_wp2_with (go_at_call 59; refine (implBaseOk _ _).mono ?_; rintro e w' ⟨rfl, rfl⟩)
      all_goals
        go_ret
        exact ⟨ret_bool (by simp_all [Pl.ruleB] <;> omega), hbel⟩
    · go_enter Tryz.func159, Tryz.ntmps159
      go_wp2_with (go_at_call 59; refine (implBaseOk _ _).mono ?_; rintro e w' ⟨rfl, rfl⟩)
      all_goals
        go_ret
        exact ⟨ret_bool (by simp_all [Pl.ruleB] <;> omega), hbel⟩
  · go_enter Tryz.func159, Tryz.ntmps159
    go_wp2_with (go_at_call 59; refine (implBaseOk _ _).mono ?_; rintro e w' ⟨rfl, rfl⟩)
    all_goals
      go_ret
      exact ⟨ret_bool (by simp_all [Pl.ruleB] <;> omega), hbel⟩

set_option maxRecDepth 100000 in
set_option maxHeartbeats 2000000 in
theorem ruleNext (t b x : Nat) (hR : Pl.RuleOk t b) (hx : x ≤ 1000000000) (w : World) :
    Calls Tryz.prog 160 #[.agg #[.int .i64 t, .int .i64 b], .int .i64 x] w fun e W' => e = .returned (.int .i64 (Pl.nextN t b x)) ∧ Below w.heap.size w W' := by
  obtain ⟨ht1, ht2, hb, hb'⟩ := hR
  refine (callsIn_wide (n := 5)).1 ?_
  have h1 : 1 ≤ 5 := by omega
  have hN := Pl.digsR_len30 hb hx
  refine callsIn_of_wp_marks Tryz.func160 rfl trivial ?_ rfl
  simp only [Tryz.ntmps160, List.size_toArray, List.length_cons, List.length_nil, Nat.reduceAdd, Nat.reduceSub, Array.replicate_succ, Array.replicate_zero, List.push_toArray, List.append_toArray, List.nil_append, List.cons_append]
  gi_wp2_with (refine ⟨trivial, ?_⟩; gi_at_call 158; refine (lastFirst Fence.wide (5 - 1) trivial rfl _ _ _).mono ?_; rintro e w' ⟨rfl, rfl⟩)
  have hr := cell_new_l
  obtain ⟨W0, hW0⟩ : ∃ W0, ((((w.alloc (.cells #[.int .i64 t, .int .i64 b] 135)).alloc (.cells #[.int .i64 0] 3)).alloc (.cells #[.int .i64 x] 3)).alloc (.cells #[.int .i64 b] 3)) = W0 := ⟨_, rfl⟩
  have hsz : W0.heap.size = w.heap.size + 4 := by rw [← hW0]; simp
  have hB0 : Below w.heap.size w W0 := by rw [← hW0]; exact ((((Below.refl _ w).alloc (Nat.le_refl _) _).alloc (by simp) _).alloc (by simp; omega) _).alloc (by simp; omega) _
  have d0 : W0.cell? ⟨w.heap.size, 0, none⟩ = some (.int .i64 t) := by
    rw [← hW0]
    exact cell_alloc_l _ (cell_alloc_l _ (cell_alloc_l _ (by rw [World.cell?_alloc_new]; rfl)))
  have d1 : W0.cell? ⟨w.heap.size + 1, 0, none⟩ = some (.int .i64 0) ∧ W0.frozen? ⟨w.heap.size + 1, 0, none⟩ = false := by
    rw [← hW0]
    have c := cell_new_l (w.alloc (.cells #[.int .i64 t, .int .i64 b] 135)) (.int .i64 0) 3
    simp only [World.size_alloc] at c
    exact ⟨cell_alloc_l _ (cell_alloc_l _ c.1), frozen_alloc_l _ (cell_alloc_l _ c.1) (frozen_alloc_l _ c.1 c.2)⟩
  have d2 : W0.cell? ⟨w.heap.size + 1 + 1, 0, none⟩ = some (.int .i64 x) := by
    rw [← hW0]
    have c := cell_new_l ((w.alloc (.cells #[.int .i64 t, .int .i64 b] 135)).alloc (.cells #[.int .i64 0] 3)) (.int .i64 x) 3
    simp only [World.size_alloc] at c
    exact cell_alloc_l _ c.1
  have d3 : W0.cell? ⟨w.heap.size + 1 + 1 + 1, 0, none⟩ = some (.int .i64 b) := by
    rw [← hW0]
    have c := cell_new_l (((w.alloc (.cells #[.int .i64 t, .int .i64 b] 135)).alloc (.cells #[.int .i64 0] 3)).alloc (.cells #[.int .i64 x] 3)) (.int .i64 b) 3
    simp only [World.size_alloc] at c
    exact c.1
  rw [hW0]
  clear hW0 hr
  have HSZ := Lib.hid hsz
  have hsz' : w.heap.size + 4 ≤ W0.heap.size := by omega
  clear hsz
  refine wpIn_rangeFunc_ownF (F := Fence.wide) rfl h1 (gf := 186) (lb := #[.pointer (some ⟨w.heap.size + 1 + 1, 0, none⟩), .pointer (some ⟨w.heap.size + 1 + 1 + 1, 0, none⟩)]) rfl trivial (enters_of Tryz.func186 (by kernel_rfl) rfl)
    (lastFirst_stops Fence.wide (5 - 1) trivial rfl (by omega) (w.heap.size + 1 + 1) x b hb hb' hx W0 (by omega) d2 d3) Kept.trans (kept_b (by omega)) (Below.refl _ _) (fun _ => rfl)
    (fun pre W => (W.cell? ⟨w.heap.size + 1, 0, none⟩ = some (.int .i64 (powDg t pre)) ∧ W.frozen? ⟨w.heap.size + 1, 0, none⟩ = false ∧ W.cell? ⟨w.heap.size, 0, none⟩ = some (.int .i64 t)) ∧ Below w.heap.size w W)
    (fun _ _ _ => False)
    (OwnFrom.and (Own.from (fun s A B row hs hg hr => ⟨cell_kept hs.1 hg hr, (frozen_kept hs.1 hg hr).trans hs.2.1, cell_kept hs.2.2 hg hr⟩) _) (ownFrom_below (Nat.le_refl _) (by omega)))
    (fun _ _ _ _ _ hs _ _ => hs)
    ⟨⟨d1.1, d1.2, d0⟩, hB0⟩
    (fun d => { tmps := #[.agg #[.int .i64 t, .int .i64 b], .int .i64 x, .pointer (some ⟨w.heap.size, 0, none⟩), undef, .int .i64 0, .pointer (some ⟨w.heap.size + 1, 0, none⟩), .int .i64 (d.1 : Int), undef, .int .i64 x, .pointer (some ⟨w.heap.size, 1, none⟩), .int .i64 b,
      .func (.func 186) #[] #[.pointer (some ⟨w.heap.size + 1 + 1, 0, none⟩), .pointer (some ⟨w.heap.size + 1 + 1 + 1, 0, none⟩)], .int .i64 (d.1 : Int), undef, undef, undef, undef, undef, undef, undef, undef, undef, undef, undef, undef], defers := [] }) ?assign ?body ?done ?stop
  case assign =>
    intro l d W K hK
    gi_wp2
    exact hK
  case body =>
    rintro l pre d W ⟨⟨hc, hf, ht⟩, hB⟩ hlen
    have hd := d.2
    have hsum := powDg_le ht2 pre
    have hpl : powDg t pre ≤ 30000000 := by omega
    clear hsum
    gi_wp2
    gi_loop [7, 15] (fun p i => ∃ P I : Nat, I ≤ t ∧ P ≤ 759375 ∧ P = d.1 ^ I ∧ p = .int .i64 P ∧ i = .int .i64 I) (fun _ i => t - (intOf i).toNat)
    case atStart => exact ⟨1, 0, by omega, by omega, by simp, rfl, rfl⟩
    case round =>
      obtain ⟨P, I, hI, hP, hPe, rfl, rfl⟩ := hrel
      by_cases hlt : I < t
      · have hq : P * d.1 = d.1 ^ (I + 1) := by rw [hPe, Nat.pow_succ]
        have hq2 : P * d.1 ≤ 759375 := by rw [hq]; exact Pl.pow_dg hd (by omega)
        have HQ := Lib.hid hq
        have e : IntKind.i64.wrap ((P : Int) * (d.1 : Int)) = ((P * d.1 : Nat) : Int) := by
          rw [← Int.natCast_mul]; exact IntWalk.i64_in _ (by omega)
        have hi : (I : Int) < (t : Int) := by omega
        clear hq hPe
        generalize P * d.1 = Q at *
        gi_wp2
        go_round
        case rel => exact ⟨Q, I + 1, by omega, hq2, HQ.out, rfl, by simp⟩
        case measure => simp [intOf]; omega
      · obtain rfl : I = t := by omega
        have HP := Lib.hid hPe
        clear hPe
        gi_wp2
        exact ⟨KeepsOthers.setCell _ _ _, (Kept.refl W).setCell (p := ⟨w.heap.size + 1, 0, none⟩) (.inl (by simp)) _, ⟨by rw [powDg_snoc, ← HP.out]; exact World.cell?_setCell_same' _ _ _ (by rw [hc]; rfl), by rw [World.frozen?_setCell]; exact hf, by rw [World.cell?_setCell_other _ _ _ _ (by simp)]; exact ht⟩, hB.setCell (p := ⟨w.heap.size + 1, 0, none⟩) (by simp) _⟩
  case done =>
    rintro D ys W hD rfl ⟨⟨hc, _⟩, hB⟩ hK
    rw [powDg_all hb hb'] at hc
    gi_wp2
    refine ⟨by simp, .inl ⟨_, _, rfl, run_takeDeferred hK, ?_⟩⟩
    exact ⟨_, results_tmp rfl _ _ _, rfl, hB.trans (belowK_b (w := w) (Nat.le_refl _) W D _ _ (by omega) hK rfl rfl)⟩
  case stop =>
    rintro D c pre W _ _ h _
    exact h.elim

end Go.Proofs.YtgkkoegfmhgcjaaGreatDoor

namespace Go.Proofs.YtgkkoegfmhgcjaaGreatDoor
open Go.RowKit Go.Shelf

/-- The box in which a rule lies, behind what writes nothing of before. -/
theorem rule_box {w w1 : World} {t b : Int} (h : Below (w.alloc (.cells #[.int .i64 t, .int .i64 b] 135)).heap.size (w.alloc (.cells #[.int .i64 t, .int .i64 b] 135)) w1) :
    w1.cell? ⟨w.heap.size, 0, none⟩ = some (.int .i64 t) ∧ w1.cell? ⟨w.heap.size, 1, none⟩ = some (.int .i64 b) ∧ Below w.heap.size w w1 ∧ w.heap.size < w1.heap.size :=
  ⟨(Below.cell h (p := ⟨w.heap.size, 0, none⟩) (v := .int .i64 t) (by simp) (by rw [World.cell?_alloc_new]; rfl)), (Below.cell h (p := ⟨w.heap.size, 1, none⟩) (v := .int .i64 b) (by simp) (by rw [World.cell?_alloc_new]; rfl)),
    ((Below.refl _ w).alloc (Nat.le_refl _) _).trans (h.mono (by simp)), by have := h.size; simp at this; omega⟩

set_option maxHeartbeats 400000 in
theorem implNextOf (n t b : Int) (w : World) :
    Calls Tryz.prog 128 #[.int .i64 n, .int .i64 t, .int .i64 b] w fun e W' => e = .returned (.int .i64 (Pl.nextI n t b)) ∧ Below w.heap.size w W' := by
  by_cases g1 : Pl.ruleB t b = true
  · by_cases g2 : Pl.okB n b = true
    · have h : Pl.okT n t b = true := by rw [Pl.okT, g1, g2]; rfl
      obtain ⟨x, s, k, rfl, rfl, rfl, hR, hx⟩ := Pl.okT_nat h
      rw [Pl.nextI_yes x s k h]
      go_enter Tryz.func128, Tryz.ntmps128
      go_wp2_with fail
      refine (ruleOk _ _ _).mono ?_
      rintro e w1 ⟨rfl, hb1⟩
      obtain ⟨c0, c1, hB, hlt⟩ := rule_box hb1
      clear hb1
      go_wp2_with (go_at_call 79; refine (hasDigits _ _ _).mono ?_; rintro e w' ⟨rfl, rfl⟩)
      refine (ruleNext s k x hR hx _).mono ?_
      rintro e w2 ⟨rfl, hb2⟩
      go_wp2
      go_ret
      exact ⟨rfl, hB.trans (hb2.mono hB.size)⟩
    · have h : ¬ Pl.okT n t b = true := by rw [Pl.okT, g1]; simpa using g2
      have g2' : Pl.okB n b = false := by simpa using g2
      rw [Pl.nextI_no h]
      clear h g2
      go_enter Tryz.func128, Tryz.ntmps128
      go_wp2_with fail
      refine (ruleOk _ _ _).mono ?_
      rintro e w1 ⟨rfl, hb1⟩
      obtain ⟨c0, c1, hB, hlt⟩ := rule_box hb1
      clear hb1
      go_wp2_with (go_at_call 79; refine (hasDigits _ _ _).mono ?_; rintro e w' ⟨rfl, rfl⟩)
      go_ret
      exact ⟨rfl, hB⟩
  · have h : ¬ Pl.okT n t b = true := by rw [Pl.okT]; simp [g1]
    have g1' : Pl.ruleB t b = false := by simpa using g1
    rw [Pl.nextI_no h]
    clear h g1
    go_enter Tryz.func128, Tryz.ntmps128
    go_wp2_with fail
    refine (ruleOk _ _ _).mono ?_
    rintro e w1 ⟨rfl, hb1⟩
    obtain ⟨c0, c1, hB, hlt⟩ := rule_box hb1
    clear hb1
    go_wp2_with fail
    go_ret
    exact ⟨rfl, hB⟩

set_option maxHeartbeats 1000000 in
theorem l3Next (t b x : Nat) (hR : Pl.RuleOk t b) (hx : x ≤ 1000000000) (w : World) :
    Calls Tryz.prog 105 #[.int .i64 x, .int .i64 t, .int .i64 b] w fun e w' => e = .returned (.int .i64 (Pl.nextN t b x)) ∧ w = w' := by
  have htop := Pl.next_le hR hx
  obtain ⟨ht1, ht2, hb, hb'⟩ := hR
  have hne : ((b : Int) == 0) = false := by simp; omega
  go_enter Tryz.func105, Tryz.ntmps105
  go_wp2
  go_loop [7, 8, 9, 10] (fun s l _ _ => ∃ (T left : Nat), T + Pl.nextN t b left = Pl.nextN t b x ∧ left ≤ x ∧ s = .int .i64 T ∧ l = .int .i64 left) (fun _ l _ _ => (intOf l).toNat)
  case atStart => exact ⟨0, x, by omega, by omega, rfl, rfl⟩
  case round =>
    obtain ⟨T, left, hT, hl, rfl, rfl⟩ := hrel
    have h0 : 0 ≤ (left : Int) / (b : Int) := Int.ediv_nonneg (by omega) (by omega)
    have h0' : 0 ≤ (left : Int) % (b : Int) := Int.emod_nonneg _ (by omega)
    by_cases hlt : 0 < left
    · have hst := Pl.nextN_step ht1 hb left
      have h1 : (left : Int) / (b : Int) < (left : Int) := show ((left / b : Nat) : Int) < (left : Int) from Int.ofNat_lt.2 (Nat.div_lt_self (by omega) (by omega))
      have hd : left % b < 16 := Nat.lt_of_lt_of_le (Nat.mod_lt _ (by omega)) hb'
      have hTt : T + (left % b) ^ t ≤ 22781250 := by omega
      have HT := Lib.hid hT
      have HM := Lib.hid hst
      clear hT hst
      go_wp2
      go_loop [9, 10] (fun p i => ∃ P I : Nat, I ≤ t ∧ P ≤ 759375 ∧ P = (left % b) ^ I ∧ p = .int .i64 P ∧ i = .int .i64 I) (fun _ i => t - (intOf i).toNat)
      case atStart => exact ⟨1, 0, by omega, by omega, by simp, rfl, rfl⟩
      case round =>
        obtain ⟨P, I, hI, hP, hPe, rfl, rfl⟩ := hrel
        by_cases hlt' : I < t
        · have hq : P * (left % b) = (left % b) ^ (I + 1) := by rw [hPe, Nat.pow_succ]
          have hq2 : P * (left % b) ≤ 759375 := by rw [hq]; exact Pl.pow_dg hd (by omega)
          have HQ := Lib.hid hq
          have HP := Lib.hid hPe
          have e : (P : Int) * ((left : Int) % (b : Int)) = ((P * (left % b) : Nat) : Int) := by rw [Int.natCast_mul]; rfl
          have e' : IntKind.i64.wrap ((P : Int) * ((left : Int) % (b : Int))) = ((P * (left % b) : Nat) : Int) := by
            rw [e]; exact IntWalk.i64_in _ (by omega)
          have hi : (I : Int) < (t : Int) := by omega
          clear hq hPe e hTt hd
          generalize P * (left % b) = Q at *
          go_wp2
          go_round
          case rel => exact ⟨Q, I + 1, by omega, hq2, HQ.out, rfl, by simp⟩
          case measure => simp [intOf]; omega
        · obtain rfl : I = t := by omega
          have HP := Lib.hid hPe
          rw [← hPe] at hTt
          clear hPe
          go_wp2
          go_round
          case rel => exact ⟨T + P, left / b, by rw [← HT.out, HM.out, HP.out]; omega, Nat.le_trans (Nat.div_le_self _ _) hl, by simp, rfl⟩
          case measure =>
            have := Nat.div_lt_self (n := left) (k := b) (by omega) (by omega)
            simp [intOf]; omega
    · obtain rfl : left = 0 := by omega
      have e0 : Pl.nextN t b 0 = 0 := Pl.nextN_zero ht1 hb
      rw [e0] at hT
      have HT := Lib.hid hT
      clear hT e0 h0 h0'
      go_wp2
      go_ret
      exact ⟨ret_int (by rw [← HT.out]; simp), rfl⟩

/-- What spec asks of a number, a number of times and a base. -/
theorem okT_halves (n t b : Int) : Pl.okT n t b = ((decide (0 ≤ n) && decide (n ≤ 1000000000)) && ((decide (1 ≤ t) && decide (t ≤ 5)) && Pl.baseB b)) := by
  rw [Bool.eq_iff_iff, Pl.okT, Bool.and_eq_true, Pl.ruleB_iff, Pl.okB_iff]
  simp [Pl.baseB_iff]; omega

theorem specTest3 (n t b : Int) (h : ¬ Pl.okT n t b = true) : (decide (0 ≤ n) && decide (n ≤ 1000000000)) = false ∨ ((decide (0 ≤ n) && decide (n ≤ 1000000000)) = true ∧ (decide (1 ≤ t) && decide (t ≤ 5)) = false) ∨
    ((decide (0 ≤ n) && decide (n ≤ 1000000000)) = true ∧ (decide (1 ≤ t) && decide (t ≤ 5)) = true ∧ Pl.baseB b = false) := by
  rw [okT_halves] at h
  generalize (decide (0 ≤ n) && decide (n ≤ 1000000000)) = A at *
  generalize (decide (1 ≤ t) && decide (t ≤ 5)) = B at *
  generalize Pl.baseB b = C at *
  cases A <;> cases B <;> cases C <;> simp_all

set_option maxHeartbeats 400000 in
theorem specNextOf (n t b : Int) (w : World) :
    Calls Tryz.prog 104 #[.int .i64 n, .int .i64 t, .int .i64 b] w fun e w' => e = .returned (.int .i64 (Pl.nextI n t b)) ∧ w = w' := by
  by_cases h : Pl.okT n t b = true
  · have hh := h
    rw [okT_halves] at hh
    obtain ⟨g1, g23⟩ := Bool.and_eq_true_iff.1 hh
    obtain ⟨g2, g3⟩ := Bool.and_eq_true_iff.1 g23
    clear hh g23
    obtain ⟨x, s, k, rfl, rfl, rfl, hR, hx⟩ := Pl.okT_nat h
    rw [Pl.nextI_yes x s k h]
    clear h
    go_enter Tryz.func104, Tryz.ntmps104
    go_wp2_with (first | (go_at_call 49; refine (specIn _ _ _ _).mono ?_; rintro e w' ⟨rfl, rfl⟩) | (go_at_call 50; refine (specBaseOk _ _).mono ?_; rintro e w' ⟨rfl, rfl⟩) | (go_at_call 105; refine (l3Next s k x hR hx _).mono ?_; rintro e w' ⟨rfl, rfl⟩))
    go_ret
    exact ⟨rfl, rfl⟩
  · rw [Pl.nextI_no h]
    rcases specTest3 n t b h with g1 | ⟨g1, g2⟩ | ⟨g1, g2, g3⟩
    all_goals
      clear h
      go_enter Tryz.func104, Tryz.ntmps104
      go_wp2_with (first | (go_at_call 49; refine (specIn _ _ _ _).mono ?_; rintro e w' ⟨rfl, rfl⟩) | (go_at_call 50; refine (specBaseOk _ _).mono ?_; rintro e w' ⟨rfl, rfl⟩))
      all_goals
        go_ret
        exact ⟨rfl, rfl⟩

end Go.Proofs.YtgkkoegfmhgcjaaGreatDoor

namespace Go.Proofs.YtgkkoegfmhgcjaaGreatDoor
open Go.RowKit

theorem ret_whole {a b : Int} {c d : Bool} (h1 : a = b) (h2 : c = d) : Ending.returned (.tuple #[.int .i64 a, .bool c]) = .returned (.tuple #[.int .i64 b, .bool d]) := by rw [h1, h2]

set_option maxHeartbeats 1000000 in
theorem implWholeYes (v : Value) (xs : List Int) (b : Nat) (w : World) (hv : Ints w v xs) (hx : xs.length ≤ 1000000000) (h0 : xs ≠ []) (hb : 2 ≤ b) (hb' : b ≤ 16) :
    Calls Tryz.prog 161 #[v, .int .i64 b] w fun e w' => e = .returned (.tuple #[.int .i64 (Pl.wV (Pl.wholeO b xs 0)), .bool (Pl.wB (Pl.wholeO b xs 0))]) ∧ w = w' := by
  obtain ⟨a, cap, rfl, ha⟩ := hv
  have hB : Pl.baseB b = true := by rw [Pl.baseB_iff]; omega
  have hpos : 0 < xs.length := by rw [List.length_pos_iff]; exact h0
  obtain ⟨n, hn⟩ : ∃ n, xs.length = n := ⟨_, rfl⟩
  have HN := Lib.hid hn
  rw [hn] at ha hx hpos ⊢
  clear hn h0
  have hne : ((n : Int) == 0) = false := by simp; omega
  have hb0 : ((b : Int) == 0) = false := by simp; omega
  generalize hR : Pl.wholeO b xs 0 = R
  have HR := Lib.hid hR
  clear hR
  go_enter Tryz.func161, Tryz.ntmps161
  go_wp2_with (go_at_call 59; refine (implBaseOk _ _).mono ?_; rintro e w' ⟨rfl, rfl⟩)
  go_loop [6, 8, 19] (fun acc _ i => ∃ (k t : Nat), k ≤ n ∧ i = .int .i64 k ∧ acc = .int .i64 t ∧ t ≤ 1000000000 ∧ Pl.wholeO b (xs.drop k) t = R) (fun _ _ i => n - (intOf i).toNat)
  case atStart => exact ⟨0, 0, Nat.zero_le _, rfl, rfl, by omega, HR.out⟩
  case round =>
    obtain ⟨k, t, hk, rfl, rfl, ht, hr⟩ := hrel
    by_cases hlt : k < n
    · obtain ⟨bb, off, rfl, hc⟩ := ha k hlt
      rw [Pl.drop_cons (by have := HN.out; omega)] at hr
      clear ha
      generalize xs[k]?.getD 0 = d at *
      have hi : (k : Int) < (n : Int) := by omega
      by_cases g0 : d < 0
      · rw [Pl.wholeO_bad _ _ _ _ (by omega)] at hr
        have HX := Lib.hid hr
        clear hr
        go_wp2
        go_ret2
        exact ⟨ret_whole (by rw [← HX.out]; rfl) (by rw [← HX.out]; rfl), rfl⟩
      · by_cases g1 : (b : Int) ≤ d
        · rw [Pl.wholeO_bad _ _ _ _ (by omega)] at hr
          have HX := Lib.hid hr
          clear hr
          go_wp2
          go_ret2
          exact ⟨ret_whole (by rw [← HX.out]; rfl) (by rw [← HX.out]; rfl), rfl⟩
        · have hmul0 : 0 ≤ (t : Int) * (b : Int) := Int.mul_nonneg (by omega) (by omega)
          have hmul1 : (t : Int) * (b : Int) ≤ 16000000000 := by
            have : (t : Int) * (b : Int) ≤ 1000000000 * 16 := Int.mul_le_mul (by omega) (by omega) (by omega) (by omega)
            omega
          by_cases g2 : (t : Int) * b + d ≤ 1000000000
          · rw [Pl.wholeO_good _ _ _ _ ⟨⟨by omega, by omega⟩, g2⟩] at hr
            have g3 : ¬ (1000000000 - d) / (b : Int) < (t : Int) := by rw [Int.ediv_lt_iff_lt_mul (by omega)]; omega
            have HX := Lib.hid hr
            clear hr
            go_wp2
            go_round
            case rel => exact ⟨k + 1, t * b + d.toNat, by omega, by go_num, by rw [show ((t * b + d.toNat : Nat) : Int) = (t : Int) * b + d from by rw [Int.natCast_add, Int.natCast_mul, Int.toNat_of_nonneg (by omega)]], by omega, HX.out⟩
            case measure => simp [intOf]; omega
          · rw [Pl.wholeO_bad _ _ _ _ (by omega)] at hr
            have g3 : (1000000000 - d) / (b : Int) < (t : Int) := by rw [Int.ediv_lt_iff_lt_mul (by omega)]; omega
            have HX := Lib.hid hr
            clear hr
            go_wp2
            go_ret2
            exact ⟨ret_whole (by rw [← HX.out]; rfl) (by rw [← HX.out]; rfl), rfl⟩
    · obtain rfl : k = n := by omega
      rw [List.drop_of_length_le (by have := HN.out; omega), Pl.wholeO] at hr
      have HX := Lib.hid hr
      clear ha hr
      go_wp2
      go_ret2
      exact ⟨ret_whole (by rw [← HX.out]; rfl) (by rw [← HX.out]; rfl), rfl⟩

theorem whole_yes {xs : List Int} {b : Nat} (h0 : xs ≠ []) (hb : 2 ≤ b) (hb' : b ≤ 16) : Pl.whole xs b = Pl.wholeO b xs 0 := by
  rw [Pl.whole, if_pos ⟨by rw [Pl.baseB_iff]; omega, h0⟩]; rfl

theorem baseB_nat {b : Int} (h : Pl.baseB b = true) : ∃ k : Nat, b = (k : Int) ∧ 2 ≤ k ∧ k ≤ 16 := by
  rw [Pl.baseB_iff] at h; exact ⟨b.toNat, by omega, by omega, by omega⟩

set_option maxHeartbeats 1000000 in
theorem implWholeOf (v : Value) (xs : List Int) (b : Int) (w : World) (hv : Ints w v xs) (hx : xs.length ≤ 1000000000) :
    Calls Tryz.prog 161 #[v, .int .i64 b] w fun e w' => e = .returned (.tuple #[.int .i64 (Pl.wV (Pl.whole xs b)), .bool (Pl.wB (Pl.whole xs b))]) ∧ w = w' := by
  by_cases hB : Pl.baseB b = true
  · by_cases h0 : xs = []
    · subst h0
      obtain ⟨a, cap, rfl, ha⟩ := hv
      go_enter Tryz.func161, Tryz.ntmps161
      go_wp2_with (go_at_call 59; refine (implBaseOk _ _).mono ?_; rintro e w' ⟨rfl, rfl⟩)
      go_ret2
      exact ⟨ret_whole (by simp [Pl.whole, Pl.wV]) (by simp [Pl.whole, Pl.wB]), rfl⟩
    · obtain ⟨k, rfl, h1, h2⟩ := baseB_nat hB
      rw [whole_yes h0 h1 h2]
      exact implWholeYes v xs k w hv hx h0 h1 h2
  · obtain ⟨a, cap, rfl, ha⟩ := hv
    have hB' : Pl.baseB b = false := by simpa using hB
    have e1 : Pl.whole xs b = none := by rw [Pl.whole, if_neg (by simp [hB'])]
    rw [e1]
    clear hB e1 ha
    go_enter Tryz.func161, Tryz.ntmps161
    go_wp2_with (go_at_call 59; refine (implBaseOk _ _).mono ?_; rintro e w' ⟨rfl, rfl⟩)
    go_ret2
    exact ⟨rfl, rfl⟩

end Go.Proofs.YtgkkoegfmhgcjaaGreatDoor

namespace Go.Proofs.YtgkkoegfmhgcjaaGreatDoor
open Go.RowKit Go.Shelf

namespace Pl
/-- Natural numbers as integers. -/
def ints (l : List Nat) : List Int := l.map fun d : Nat => (d : Int)
theorem ints_len (l : List Nat) : (ints l).length = l.length := by simp [ints]
theorem ints_snoc (l : List Nat) (d : Nat) : ints (l ++ [d]) = ints l ++ [(d : Int)] := by simp [ints]
theorem ints_get (l : List Nat) (i : Nat) : (ints l)[i]?.getD 0 = ((l[i]?.getD 0 : Nat) : Int) := by
  rw [ints, List.getElem?_map]; cases l[i]? <;> rfl
end Pl

theorem row_one' (base : Nat) (w : World) (q : Int) (h : base ≤ w.heap.size) : Row base (w.alloc (.cells #[.int .i64 q] 3)) (.slice (some ⟨w.heap.size, 0, none⟩) 1 1) [q] := (row_one w q).mono h

/-- Where a row that is not empty lies. -/
theorem Row.lies {base : Nat} {w : World} {v : Value} {xs : List Int} (h : Row base w v xs) (h0 : 1 ≤ xs.length) :
    ∃ g cap, v = .slice (some ⟨g, 0, none⟩) xs.length cap ∧ base ≤ g ∧ g < w.heap.size ∧ xs.length ≤ cap ∧ cap ≤ maxLen ∧ ∀ j, j < xs.length → w.cell? ⟨g, j, none⟩ = some (.int .i64 (xs[j]?.getD 0)) := by
  have h' := h
  rcases h.2 with ⟨rfl, h1⟩ | ⟨g, cap, cur, rfl, hg, hh, hn, hm, _⟩
  · omega
  · refine ⟨g, cap, rfl, hg, lt_of_heap hh, hn, hm, fun j hj => ?_⟩
    have := World.ownsRow.cellAt h' j (by omega)
    rw [this]
    simp [hj]

theorem Row.nil_no {base : Nat} {w : World} {v : Value} {xs : List Int} (h : Row base w v xs) (hv : v ≠ .slice none 0 0) :
    ∃ g cap, v = .slice (some ⟨g, 0, none⟩) xs.length cap ∧ base ≤ g ∧ g < w.heap.size ∧ xs.length ≤ cap ∧ cap ≤ maxLen ∧ ∀ j, j < xs.length → w.cell? ⟨g, j, none⟩ = some (.int .i64 (xs[j]?.getD 0)) := by
  have h' := h
  rcases h.2 with ⟨rfl, h1⟩ | ⟨g, cap, cur, rfl, hg, hh, hn, hm, _⟩
  · exact absurd rfl hv
  · refine ⟨g, cap, rfl, hg, lt_of_heap hh, hn, hm, fun j hj => ?_⟩
    rw [World.ownsRow.cellAt h' j (by omega)]
    simp [hj]

theorem pre_cell {f : Nat → Nat} {n m j : Nat} (h : j < m) : (Pl.ints (Pl.pre f n m))[j]?.getD 0 = ((Pl.iter f j n : Nat) : Int) := by
  rw [Pl.ints_get, Pl.pre_get h]; rfl

theorem ints_drop (l : List Nat) (k : Nat) : Pl.ints (l.drop k) = (Pl.ints l).drop k := by simp [Pl.ints]

/-- Cells in a row from an address on, as an append asks for them. -/
theorem news_at {w : World} {g K : Nat} {ys : List Int} (h : ∀ j, j < ys.length → w.cell? ⟨g, K + j, none⟩ = some (.int .i64 (ys[j]?.getD 0))) : ∀ j u, (ys.map (Value.int .i64))[j]? = some u → w.cell? ((⟨g, K, none⟩ : Addr).add j) = some u := by
  intro j u hu
  have hj : j < ys.length := by have := (List.getElem?_eq_some_iff.1 hu).1; simpa using this
  have e : (⟨g, K, none⟩ : Addr).add j = ⟨g, K + j, none⟩ := by
    unfold Addr.add; split <;> simp_all
  rw [e, h j hj, ← hu, List.getElem?_map, List.getElem?_eq_getElem hj]; rfl

theorem row_of_app {base : Nat} {w : World} {v : Value} {n : Nat} {ys : List Int} (hn : n = ys.length) (h : w.ownsRow base 3 1 v (0 + n) ([] ++ ys.map (Value.int .i64))) : Row base w v ys := by
  subst hn; unfold Row; simpa using h

theorem Pl.mem_ints {l : List Nat} {x : Nat} : (x : Int) ∈ Pl.ints l ↔ x ∈ l := by
  unfold Pl.ints
  rw [List.mem_map]
  constructor
  · rintro ⟨y, hy, he⟩; rwa [show x = y by omega]
  · exact fun h => ⟨x, h, rfl⟩

theorem row_first (w : World) (q : Int) : Row w.heap.size (w.alloc (.cells #[.int .i64 q] 3)) (.slice (some ⟨w.heap.size, 0, none⟩) 1 1) [q] := row_one w q

/-- The end of a row of a call's own. -/
def RowTail (base : Nat) (W : World) (v : Value) (xs : List Int) : Prop :=
  ∃ g off cap capY ys, v = .slice (some ⟨g, off, none⟩) xs.length cap ∧ ys.drop off = xs ∧ off + xs.length = ys.length ∧ Row base W (.slice (some ⟨g, 0, none⟩) ys.length capY) ys

theorem tail_get {ys xs : List Int} {off : Nat} (h : ys.drop off = xs) (j : Nat) : ys[off + j]?.getD 0 = xs[j]?.getD 0 := by
  rw [← h, List.getElem?_drop]

theorem RowTail.ints {base : Nat} {W : World} {v : Value} {xs : List Int} (h : RowTail base W v xs) : Ints W v xs := by
  obtain ⟨g, off, cap, capY, ys, rfl, hd, hl, hr⟩ := h
  refine ⟨_, cap, rfl, fun j hj => ⟨g, off, rfl, ?_⟩⟩
  rw [(hr.cellAt rfl (off + j) (by omega)).1, tail_get hd]

theorem RowTail.below {base : Nat} {W W' : World} {v : Value} {xs : List Int} (h : RowTail base W v xs) (hb : Below W.heap.size W W') : RowTail base W' v xs := by
  obtain ⟨g, off, cap, capY, ys, rfl, hd, hl, hr⟩ := h
  exact ⟨g, off, cap, capY, ys, rfl, hd, hl, hr.below hb⟩

theorem set_behind (A B : List Int) (j : Nat) (q : Int) {off : Nat} (h : A.length = off) : (A ++ B).set (off + j) q = A ++ B.set j q := by
  subst h
  rw [List.set_append_right _ _ (by omega), Nat.add_sub_cancel_left]

set_option maxHeartbeats 800000 in
theorem markTail (base : Nat) (v : Value) (xs : List Int) (k : Int) (w : World) (hv : RowTail base w v xs) (h00 : 1 ≤ xs.length) (hx : xs.length ≤ 1000000000) (h0 : 0 ≤ k) (h1 : k ≤ 1000000000) :
    Calls Tryz.prog 83 #[v, .int .i64 k] w fun e w' => e = .returned (.int .i64 (k + xs.length)) ∧ RowTail base w' v (marks k xs.length) ∧ Below base w w' := by
  obtain ⟨g, off, cap, capY, ys, rfl, hd, hl, hr⟩ := hv
  obtain ⟨n, hn⟩ : ∃ n, xs.length = n := ⟨_, rfl⟩
  obtain ⟨N, hN⟩ : ∃ N, ys.length = N := ⟨_, rfl⟩
  have hA : (ys.take off).length = off := by rw [List.length_take]; omega
  have hg : base ≤ g := by
    obtain ⟨g', cap', hh, hb, _⟩ := hr.lt (by omega)
    have : g = g' := by injection hh with e1; simpa using e1
    omega
  have hys : ys = ys.take off ++ (marks k 0 ++ xs.drop 0) := by
    rw [List.drop_zero, ← hd]
    simp [marks]
  have hr0 := hr
  rw [hN] at hr0
  rw [hys] at hr0
  have HR0 := Lib.hid hr0
  rw [hn] at hx ⊢
  have HN := Lib.hid hn
  have HL := Lib.hid hl
  have HA := Lib.hid hA
  have HNN := Lib.hid hN
  have hoN : off + n = N := by omega
  have hn1 : n ≠ 0 := by omega
  clear hr hr0 hys hd hl hn hA hN h00
  generalize ys.take off = A at *
  go_enter Tryz.func83, Tryz.ntmps83
  go_wp2
  go_loopw [1, 5] (fun q i wr => ∃ j : Nat, j ≤ n ∧ q = .int .i64 (k + j) ∧ i = .int .i64 j ∧ Row base wr (.slice (some ⟨g, 0, none⟩) N capY) (A ++ (marks k j ++ xs.drop j)) ∧ Below base w wr) (fun _ i _ => n - (intOf i).toNat)
  case atStart => exact ⟨0, Nat.zero_le _, by simp, rfl, HR0.out, Below.refl _ _⟩
  case round =>
    obtain ⟨j, hj, rfl, rfl, hr, hbl⟩ := hrel
    by_cases hlt : j < n
    · have hlen : (A ++ (marks k j ++ xs.drop j)).length = N := by have := HN.out; have := HA.out; simp [marks_length]; omega
      obtain ⟨c1, c2⟩ := hr.cellAt hlen (off + j) (by omega)
      have hs := hr.set hlen (off + j) (k + (j : Int))
      rw [set_behind A _ j _ HA.out, marks_step k xs j (by have := HN.out; omega)] at hs
      have HS := Lib.hid hs
      clear hr hlen hs
      have hi : (j : Int) < (n : Int) := by omega
      go_wp2
      go_roundw
      case rel => exact ⟨j + 1, by omega, by go_num, by go_num, HS.out, hbl.setCell (p := ⟨g, off + j, none⟩) hg _⟩
      case measure => simp [intOf]; omega
    · obtain rfl : j = n := by omega
      have HR := Lib.hid hr
      clear hr
      go_wp2
      go_ret
      refine ⟨rfl, ⟨g, off, cap, capY, A ++ marks k j, by rw [marks_length], ?_, by rw [List.length_append, marks_length, HA.out], ?_⟩, hbl⟩
      · rw [List.drop_append_of_le_length (by rw [HA.out]; omega), List.drop_of_length_le (by rw [HA.out]; omega), List.nil_append]
      · have := HR.out
        rw [List.drop_of_length_le (by have := HN.out; omega), List.append_nil] at this
        rw [List.length_append, marks_length, HA.out, hoN]
        exact this

theorem Ints.nil (w : World) : Ints w (.slice none 0 0) [] := ⟨none, 0, rfl, fun j hj => by simp at hj⟩

end Go.Proofs.YtgkkoegfmhgcjaaGreatDoor

namespace Go.Proofs.YtgkkoegfmhgcjaaGreatDoor
open Go.RowKit Go.Shelf

theorem append_row {ops : Array Oper} {rest : List Oper} {o : Oper} {a : Act} {Q : Exit → Act → World → Prop} {w : World} (hgd : o.guard = none) (s x : Operand)
    (ho : o.op = .call { callee := .builtin .append, args := #[s, x], argTypes := #[28, 28] }) (base base2 : Nat) (v u : Value) (xs ys : List Int) (hs : a.eval s = v) (hx : a.eval x = u)
    (hv : Row base w v xs) (hu : Row base2 w u ys) (hl : xs.length + ys.length ≤ 1000000000) (hbase : base ≤ w.heap.size)
    (h : ∀ v' w', Row base w' v' (xs ++ ys) → Below base w w' → wpList Tryz.prog ops Q rest (a.put o.dst v') w') : wpList Tryz.prog ops Q (o :: rest) a w := by
  obtain ⟨i0, hi0, hz0, hz1, hz2⟩ := info_parts info_int
  by_cases hy : 1 ≤ ys.length
  · obtain ⟨g, cap, rfl, _, hg, hcap, hcm, hc⟩ := hu.lies hy
    refine wpList_append_own w hgd s x 28 ho base 3 i0 (.int .i64 0) 1 8 Tryz.underlying28 hi0 hz0 hz1 hz2 rfl (by decide) v xs.length (xs.map (Value.int .i64)) hs hv ⟨g, 0, none⟩ ys.length cap (ys.map (Value.int .i64)) hx (by simp)
      (news_at fun j hj => by rw [Nat.zero_add]; exact hc j hj) (by simp [Value.oneCell']) (by unfold maxLen; omega) (by omega) hbase ?_
    intro v' w' hown hgrow _
    refine h v' w' ?_ (below_append (Below.refl _ _) hv hgrow hbase)
    unfold Row
    rw [List.length_append, List.map_append]
    exact hown
  · obtain rfl : ys = [] := List.eq_nil_of_length_eq_zero (by omega)
    rw [List.append_nil] at h
    rcases hu.2 with ⟨rfl, _⟩ | ⟨g, cap, cur, rfl, hg, hh, _⟩
    · exact wpList_append_own_none hgd s x 28 ho base 3 i0 1 Tryz.underlying28 hi0 v xs.length (xs.map (Value.int .i64)) hs hv hx (h v w hv (Below.refl _ _))
    · refine wpList_append_own w hgd s x 28 ho base 3 i0 (.int .i64 0) 1 8 Tryz.underlying28 hi0 hz0 hz1 hz2 rfl (by decide) v xs.length (xs.map (Value.int .i64)) hs hv ⟨g, 0, none⟩ 0 cap [] hx (by simp)
        (by simp) (by simp) (by unfold maxLen; omega) (by omega) hbase ?_
      intro v' w' hown hgrow _
      refine h v' w' ?_ (below_append (Below.refl _ _) hv hgrow hbase)
      unfold Row
      simpa using hown

end Go.Proofs.YtgkkoegfmhgcjaaGreatDoor

namespace Go.Proofs.YtgkkoegfmhgcjaaGreatDoor
open Go.RowKit

theorem copy_step (xs : List Int) (j : Nat) (hj : j < xs.length) : (xs.take j ++ List.replicate (xs.length - j) 0).set j (xs[j]?.getD 0) = xs.take (j + 1) ++ List.replicate (xs.length - (j + 1)) 0 := by
  apply List.ext_getElem
  · simp; omega
  · intro i h1 h2
    simp only [List.getElem_set, List.getElem_append, List.length_take, List.getElem_take, List.getElem_replicate]
    split
    · subst i; rw [dif_pos (by omega), List.getElem?_eq_getElem hj]; rfl
    · split
      · rw [dif_pos (by omega)]
      · rw [dif_neg (by omega)]

set_option maxHeartbeats 1000000 in
theorem toIntS (v : Value) (xs : List Int) (w : World) (hv : Ints w v xs) (hx : xs.length ≤ 1000000000) :
    Calls Tryz.prog 81 #[v] w (ListPost w xs) := by
  obtain ⟨a, cap, rfl, ha⟩ := hv
  obtain ⟨i0, hi0, hz0, hz1, hz2⟩ := info_parts info_int
  obtain ⟨n, hn⟩ : ∃ n, xs.length = n := ⟨_, rfl⟩
  have HN := Lib.hid hn
  rw [hn] at ha hx ⊢
  clear hn
  go_enter Tryz.func81, Tryz.ntmps81
  go_wp2_with (at_make; refine wpList_make_full _ rfl _ _ 28 rfl w.heap.size 3 i0 (.int .i64 0) 1 Tryz.underlying28 hi0 hz0 hz1 .i64 .i64 _ _ n rfl rfl rfl rfl (by rw [hz2]; omega) (by unfold maxLen; omega) (Nat.le_refl _) ?_; intro w0 hown0 hgrow0)
  have hb0 : Below w.heap.size w w0 := (Below.refl _ w).grown hgrow0 (Nat.le_refl _) (fun k e => by cases e)
  have hr0 : Row w.heap.size w0 (.slice (some ⟨w.heap.size, 0, none⟩) n n) (xs.take 0 ++ List.replicate (n - 0) 0) := by
    unfold Row
    rw [Nat.mul_one] at hown0
    have e : (madeCells (Value.int .i64 0).cells n).toList = (List.replicate n (0 : Int)).map (Value.int .i64) := by
      rw [show (Value.int .i64 0).cells = #[.int .i64 0] from rfl, toList_madeCells_one]; simp
    rw [e] at hown0
    simpa using hown0
  go_loopw [4] (fun i wr => ∃ k : Nat, k ≤ n ∧ i = .int .i64 k ∧ Row w.heap.size wr (.slice (some ⟨w.heap.size, 0, none⟩) n n) (xs.take k ++ List.replicate (n - k) 0) ∧ Below w.heap.size w wr) (fun i _ => n - (intOf i).toNat)
  case atStart => exact ⟨0, Nat.zero_le _, rfl, hr0, hb0⟩
  case round =>
    obtain ⟨k, hk, rfl, hr, hbl⟩ := hrel
    by_cases hlt : k < n
    · obtain ⟨b, off, rfl, hc⟩ := ha k hlt
      have hc' : wr.cell? ⟨b, off + k, none⟩ = some (.int .i64 (xs[k]?.getD 0)) := (hbl.cell (p := ⟨b, off + k, none⟩) (World.block_lt_of_cell? _ _ hc)).trans hc
      have hlen : (xs.take k ++ List.replicate (n - k) 0).length = n := by have := HN.out; simp; omega
      obtain ⟨c1, c2⟩ := hr.cellAt hlen k hlt
      have hs := hr.set hlen k (xs[k]?.getD 0)
      have hst := copy_step xs k (by have := HN.out; omega)
      rw [HN.out] at hst
      rw [hst] at hs
      have HS := Lib.hid hs
      have hi : (k : Int) < (n : Int) := by omega
      generalize xs[k]?.getD 0 = q at *
      clear ha hc hr hb0 hown0 hgrow0 hr0 hs hst hlen
      go_wp2
      go_roundw
      case rel => exact ⟨k + 1, by omega, by go_num, HS.out, hbl.setCell (p := ⟨w.heap.size, k, none⟩) (Nat.le_refl _) _⟩
      case measure => simp [intOf]; omega
    · obtain rfl : k = n := by omega
      have HR := Lib.hid hr
      have hfull : xs.take k ++ List.replicate (k - k) 0 = xs := by rw [Nat.sub_self, List.take_of_length_le (by have := HN.out; omega)]; simp
      have HF := Lib.hid hfull
      clear ha hb0 hown0 hgrow0 hr hfull hr0
      go_wp2
      go_ret
      exact ⟨_, rfl, by have := HR.out; rw [HF.out] at this; exact this, hbl⟩

end Go.Proofs.YtgkkoegfmhgcjaaGreatDoor

namespace Go.Proofs.YtgkkoegfmhgcjaaGreatDoor
namespace Pl

/-- What MadeBy answers. -/
def madeI (n b : Int) : Int := if okB n b = true then (madeN b.toNat n.toNat : Int) else -1
theorem madeI_yes (n b : Nat) (h : okB n b = true) : madeI n b = (madeN b n : Int) := by rw [madeI, if_pos h]; rfl
theorem madeI_no {n b : Int} (h : ¬ okB n b = true) : madeI n b = -1 := by rw [madeI, if_neg h]
theorem madeN_le {b n : Nat} (hb : 2 ≤ b) : madeN b n ≤ 2 * n := by have := sumD_le hb n; unfold madeN; omega
theorem madeI_bound (n b : Int) : -1 ≤ madeI n b ∧ madeI n b ≤ 2000000000 := by
  by_cases h : okB n b = true
  · obtain ⟨x, k, rfl, rfl, h1, h2, h3⟩ := okB_nat h
    rw [madeI_yes x k h]
    have := madeN_le (b := k) (n := x) h1
    omega
  · rw [madeI_no h]; omega
theorem okB_of {x k : Nat} (h1 : 2 ≤ k) (h2 : k ≤ 16) (h3 : x ≤ 1000000000) : okB x k = true := by rw [okB_iff]; omega

/-! ### Makers -/

/-- The makers below k. -/
def mkPart (b n k : Nat) : List Int := ints ((List.range k).filter fun m => madeN b m == n)
theorem mkPart_yes {b n k : Nat} (h : madeN b k = n) : mkPart b n (k + 1) = mkPart b n k ++ [(k : Int)] := by
  unfold mkPart
  rw [List.range_succ, List.filter_append]
  simp [ints, h]
theorem mkPart_not {b n k : Nat} (h : madeN b k ≠ n) : mkPart b n (k + 1) = mkPart b n k := by
  unfold mkPart
  rw [List.range_succ, List.filter_append]
  simp [ints, h]
theorem mkPart_mem {b n k : Nat} {x : Int} : x ∈ mkPart b n k ↔ ∃ m : Nat, x = (m : Int) ∧ m < k ∧ madeN b m = n := by
  unfold mkPart ints
  rw [List.mem_map]
  constructor
  · rintro ⟨m, hm, rfl⟩
    rw [List.mem_filter, List.mem_range, beq_iff_eq] at hm
    exact ⟨m, rfl, hm.1, hm.2⟩
  · rintro ⟨m, rfl, h1, h2⟩
    exact ⟨m, by rw [List.mem_filter, List.mem_range, beq_iff_eq]; exact ⟨h1, h2⟩, rfl⟩
theorem mkPart_asc (b n k : Nat) : (mkPart b n k).Pairwise (· < ·) := by
  unfold mkPart ints
  rw [List.pairwise_map]
  refine List.Pairwise.imp (fun {a b} h => by omega) (List.Pairwise.filter _ List.pairwise_lt_range)
/-- From where there are no makers below. -/
theorem mkPart_lo {b n lo : Nat} (hb : 2 ≤ b) (h : lo + (b - 1) * (digsR b n).length ≤ n) : ∀ m, m < lo → madeN b m ≠ n := by
  intro m hm he
  have := maker_near hb he
  omega
theorem mkPart_none {b n lo : Nat} (h : ∀ m, m < lo → madeN b m ≠ n) : mkPart b n lo = [] := by
  rw [List.eq_nil_iff_forall_not_mem]
  intro x hx
  obtain ⟨m, _, h1, h2⟩ := mkPart_mem.1 hx
  exact h m h1 h2
theorem mkPart_len {b n lo : Nat} (h : ∀ m, m < lo → madeN b m ≠ n) (j : Nat) : (mkPart b n (lo + j)).length ≤ j := by
  induction j with
  | zero => rw [Nat.add_zero, mkPart_none h]; simp
  | succ j ih =>
    by_cases he : madeN b (lo + j) = n
    · rw [← Nat.add_assoc, mkPart_yes he, List.length_append, List.length_singleton]; omega
    · rw [← Nat.add_assoc, mkPart_not he]; omega
theorem mkPart_le {b n : Nat} (hb : 2 ≤ b) (hb' : b ≤ 16) (hn : n ≤ 1000000000) {k : Nat} (hk : k ≤ n + 1) : (mkPart b n k).length ≤ 451 := by
  have hl := digsR_len30 hb hn
  have hm : (b - 1) * (digsR b n).length ≤ 15 * 30 := Nat.mul_le_mul (by omega) hl
  have hlo : ∀ m, m < n - 450 → madeN b m ≠ n := by
    intro m hm' he
    have := maker_near hb he
    omega
  by_cases h : n - 450 ≤ k
  · obtain ⟨j, rfl⟩ : ∃ j, k = n - 450 + j := ⟨k - (n - 450), by omega⟩
    have := mkPart_len hlo j
    omega
  · rw [mkPart_none (fun m hm' => hlo m (by omega))]; simp

/-- What MakersOf answers. -/
def makersA (n b : Int) : List Int := if okB n b = true then mkPart b.toNat n.toNat (n.toNat + 1) else []
theorem makersA_yes (n b : Nat) (h : okB n b = true) : makersA n b = mkPart b n (n + 1) := by rw [makersA, if_pos h]; rfl
theorem makersA_no {n b : Int} (h : ¬ okB n b = true) : makersA n b = [] := by rw [makersA, if_neg h]
theorem makersA_len (n b : Int) : (makersA n b).length ≤ 451 := by
  by_cases h : okB n b = true
  · obtain ⟨x, k, rfl, rfl, h1, h2, h3⟩ := okB_nat h
    rw [makersA_yes x k h]
    exact mkPart_le h1 h2 h3 (Nat.le_refl _)
  · rw [makersA_no h]; simp
theorem makersA_asc (n b : Int) : (makersA n b).Pairwise (· < ·) := by
  by_cases h : okB n b = true
  · obtain ⟨x, k, rfl, rfl, _⟩ := okB_nat h
    rw [makersA_yes x k h]
    exact mkPart_asc _ _ _
  · rw [makersA_no h]; exact List.Pairwise.nil
theorem makersA_mem {n b : Nat} (h : okB n b = true) (m : Nat) : (m : Int) ∈ makersA n b ↔ madeN b m = n := by
  rw [makersA_yes n b h, mkPart_mem]
  constructor
  · rintro ⟨x, hx, _, h2⟩
    obtain rfl : m = x := by omega
    exact h2
  · intro he
    have := made_ge b m
    exact ⟨m, rfl, by omega, he⟩
theorem makersA_nat {n b : Nat} (h : okB n b = true) {x : Int} (hx : x ∈ makersA n b) : ∃ m : Nat, x = (m : Int) ∧ m ≤ n ∧ madeN b m = n := by
  rw [makersA_yes n b h, mkPart_mem] at hx
  obtain ⟨m, rfl, h1, h2⟩ := hx
  exact ⟨m, rfl, by omega, h2⟩

/-! ### Selves -/

/-- Whether a number is a self. -/
def selfB (n b : Int) : Bool := okB n b && decide (makersA n b = [])
theorem selfB_no {n b : Int} (h : ¬ okB n b = true) : selfB n b = false := by simp [selfB, h]
theorem selfB_yes {n b : Int} (h : okB n b = true) : selfB n b = decide (makersA n b = []) := by simp [selfB, h]
theorem selfB_len {n b : Int} (h : okB n b = true) : selfB n b = (((makersA n b).length : Int) == 0) := by
  rw [selfB_yes h, Bool.eq_iff_iff, decide_eq_true_eq, beq_iff_eq, ← List.length_eq_zero_iff]; omega
theorem selfB_odd {n b : Nat} (h : okB n b = true) (hb : b % 2 = 1) (hn : n % 2 = 1) : selfB n b = true := by
  have hk := (okB_iff _ _).1 h
  rw [selfB_yes h, decide_eq_true_eq, List.eq_nil_iff_forall_not_mem]
  intro x hx
  obtain ⟨m, _, _, he⟩ := makersA_nat h hx
  have := made_even (b := b) (by omega) hb m
  omega
theorem selfB_made (n b : Nat) : selfB (madeN b n : Nat) b = false := by
  by_cases hk : okB (madeN b n : Nat) b = true
  · rw [selfB_yes hk, decide_eq_false_iff_not]
    intro he
    have := (makersA_mem hk n).2 rfl
    rw [he] at this; simp at this
  · exact selfB_no hk

/-- The selves below k. -/
def selPart (b : Int) (k : Nat) : List Int := ints ((List.range k).filter fun n : Nat => selfB (n : Int) b)
theorem selPart_yes {b : Int} {k : Nat} (h : selfB (k : Int) b = true) : selPart b (k + 1) = selPart b k ++ [(k : Int)] := by
  unfold selPart
  rw [List.range_succ, List.filter_append]
  simp [ints, h]
theorem selPart_not {b : Int} {k : Nat} (h : selfB (k : Int) b = false) : selPart b (k + 1) = selPart b k := by
  unfold selPart
  rw [List.range_succ, List.filter_append]
  simp [ints, h]
theorem selPart_len (b : Int) (k : Nat) : (selPart b k).length ≤ k := by
  unfold selPart
  rw [ints_len]
  have := List.length_filter_le (fun n : Nat => selfB (n : Int) b) (List.range k)
  rwa [List.length_range] at this
theorem selPart_mem {b x : Int} {k : Nat} (h : x ∈ selPart b k) : selfB x b = true ∧ x < (k : Int) ∧ 0 ≤ x := by
  obtain ⟨n, hn, rfl⟩ := List.mem_map.1 h
  rw [List.mem_filter, List.mem_range] at hn
  exact ⟨hn.2, by omega, by omega⟩
theorem selPart_asc (b : Int) (k : Nat) : (selPart b k).Pairwise (· < ·) := by
  unfold selPart ints
  rw [List.pairwise_map]
  refine List.Pairwise.imp (fun {a b} h => by omega) (List.Pairwise.filter _ List.pairwise_lt_range)
theorem selPart_base {b : Int} (h : ¬ baseB b = true) (k : Nat) : selPart b k = [] := by
  rw [List.eq_nil_iff_forall_not_mem]
  intro x hx
  have := (selPart_mem hx).1
  rw [selfB_no (by rw [okB]; simp [h])] at this
  simp at this

/-- What SelvesUpTo answers. -/
def selvesA (most b : Int) : List Int := if most ≤ 3000 then selPart b (most + 1).toNat else []
theorem selvesA_yes {m : Nat} (b : Int) (h : m ≤ 3000) : selvesA m b = selPart b (m + 1) := by rw [selvesA, if_pos (by omega)]; rfl
theorem selvesA_neg {most b : Int} (h : most < 0) : selvesA most b = [] := by
  unfold selvesA
  rw [if_pos (by omega), show (most + 1).toNat = 0 by omega]; rfl
theorem selvesA_big {most b : Int} (h : 3000 < most) : selvesA most b = [] := by rw [selvesA, if_neg (by omega)]
theorem selvesA_base {most b : Int} (h : ¬ baseB b = true) : selvesA most b = [] := by
  unfold selvesA
  split
  · exact selPart_base h _
  · rfl
theorem selvesA_len (most b : Int) : (selvesA most b).length ≤ 3001 := by
  unfold selvesA
  split
  · have := selPart_len b (most + 1).toNat; omega
  · simp
theorem selvesA_mem {most b x : Int} (h : x ∈ selvesA most b) : selfB x b = true ∧ x ≤ most := by
  unfold selvesA at h
  split at h
  · have := selPart_mem h
    exact ⟨this.1, by omega⟩
  · simp at h
theorem selvesA_asc (most b : Int) : (selvesA most b).Pairwise (· < ·) := by
  unfold selvesA
  split
  · exact selPart_asc _ _
  · exact List.Pairwise.nil
theorem selvesA_next_yes {m : Nat} {b : Int} (hm : m < 3000) (h : selfB ((m : Int) + 1) b = true) : selvesA ((m : Int) + 1) b = selvesA m b ++ [(m : Int) + 1] := by
  have e : ((m : Int) + 1) = ((m + 1 : Nat) : Int) := by omega
  rw [e] at h ⊢
  rw [selvesA_yes b (by omega), selvesA_yes b (by omega), selPart_yes h]
theorem selvesA_next_not {m : Nat} {b : Int} (hm : m < 3000) (h : selfB ((m : Int) + 1) b = false) : selvesA ((m : Int) + 1) b = selvesA m b := by
  have e : ((m : Int) + 1) = ((m + 1 : Nat) : Int) := by omega
  rw [e] at h ⊢
  rw [selvesA_yes b (by omega), selvesA_yes b (by omega), selPart_not h]

/-! ### Rows -/

/-- Whether a row is told. -/
def rowB (n b : Int) : Bool := decide (1 ≤ n) && decide (n ≤ 3000) && baseB b
theorem rowB_iff (n b : Int) : rowB n b = true ↔ 1 ≤ n ∧ n ≤ 3000 ∧ 2 ≤ b ∧ b ≤ 16 := by simp [rowB, baseB]; omega
theorem rowB_nat {n b : Int} (h : rowB n b = true) : ∃ x k : Nat, n = (x : Int) ∧ b = (k : Int) ∧ 1 ≤ x ∧ x ≤ 3000 ∧ 2 ≤ k ∧ k ≤ 16 := by
  rw [rowB_iff] at h
  exact ⟨n.toNat, b.toNat, by omega, by omega, by omega, by omega, by omega, by omega⟩
/-- What RowFrom answers. -/
def rowA (n b : Int) : List Int := if rowB n b = true then ints (rowL b.toNat n.toNat) else []
theorem rowA_yes (n b : Nat) (h : rowB n b = true) : rowA n b = ints (rowL b n) := by rw [rowA, if_pos h]; rfl
theorem rowA_no {n b : Int} (h : ¬ rowB n b = true) : rowA n b = [] := by rw [rowA, if_neg h]
theorem rowL_len3 {b n : Nat} (hb : 2 ≤ b) (h1 : 1 ≤ n) : (rowL b n).length ≤ 3000 := by have := rowL_len hb n h1; omega
theorem rowA_len (n b : Int) : (rowA n b).length ≤ 3000 := by
  by_cases h : rowB n b = true
  · obtain ⟨x, k, rfl, rfl, h1, h2, h3, h4⟩ := rowB_nat h
    rw [rowA_yes x k h, ints_len]
    exact rowL_len3 h3 h1
  · rw [rowA_no h]; simp
theorem rowA_pos {n b : Int} (h : rowB n b = true) : 1 ≤ (rowA n b).length := by
  obtain ⟨x, k, rfl, rfl, h1, h2, h3, h4⟩ := rowB_nat h
  rw [rowA_yes x k h, ints_len, rowL_cons h3 h1 h2]
  simp
theorem rowA_asc (n b : Int) : (rowA n b).Pairwise (· < ·) := by
  by_cases h : rowB n b = true
  · obtain ⟨x, k, rfl, rfl, h1, h2, h3, h4⟩ := rowB_nat h
    rw [rowA_yes x k h, ints, List.pairwise_map]
    exact (rowL_asc h3 x h1).imp fun {a b} h => by omega
  · rw [rowA_no h]; exact List.Pairwise.nil

/-- Where two rows come together. -/
def joinO (b n m : Nat) : Option Nat := (rowL b n).find? fun x => decide (x ∈ rowL b m)
theorem find_asc {l : List Nat} {p : Nat → Bool} (h : l.Pairwise (· < ·)) {a : Nat} (hf : l.find? p = some a) : ∀ x, x ∈ l → p x = true → a ≤ x := by
  induction l with
  | nil => simp at hf
  | cons y l ih =>
    rw [List.pairwise_cons] at h
    intro x hx hp
    rw [List.find?_cons] at hf
    cases hy : p y with
    | true =>
      rw [hy] at hf
      simp at hf
      subst hf
      rcases List.mem_cons.1 hx with rfl | hx
      · exact Nat.le_refl _
      · exact Nat.le_of_lt (h.1 x hx)
    | false =>
      rw [hy] at hf
      rcases List.mem_cons.1 hx with rfl | hx
      · rw [hy] at hp; cases hp
      · exact ih h.2 hf x hx hp
theorem joinO_joins {b : Nat} (hb : 2 ≤ b) {n : Nat} (h1 : 1 ≤ n) (m : Nat) : Joins b n m (joinO b n m) := by
  unfold joinO
  cases hf : (rowL b n).find? fun x => decide (x ∈ rowL b m) with
  | none =>
    intro x hx
    have := List.find?_eq_none.1 hf x hx
    simpa using this
  | some a =>
    refine ⟨List.mem_of_find?_eq_some hf, ?_, fun x hx hxm => find_asc (rowL_asc hb n h1) hf x hx (by simpa using hxm)⟩
    have := List.find?_some hf
    simpa using this
theorem joinO_eq {b n m : Nat} (hb : 2 ≤ b) (h1 : 1 ≤ n) {r : Option Nat} (h : Joins b n m r) : joinO b n m = r := (joinO_joins hb h1 m).unique h
theorem joinO_sym {b n m : Nat} (hb : 2 ≤ b) (h1 : 1 ≤ n) (h2 : 1 ≤ m) : joinO b n m = joinO b m n := joinO_eq hb h1 (joinO_joins hb h2 n).sym
theorem joinO_same {b n : Nat} (hb : 2 ≤ b) (h1 : 1 ≤ n) (h2 : n ≤ 3000) : joinO b n n = some n := joinO_eq hb h1 (joins_same hb h1 h2)
theorem joinO_left {b n m : Nat} (hb : 2 ≤ b) (h1 : 1 ≤ n) (h2 : n ≤ 3000) (hm : n < m) : joinO b n m = joinO b (madeN b n) m :=
  joinO_eq hb h1 (joins_step hb h1 h2 hm (joinO_joins hb (by have := made_more hb h1; omega) m))
theorem joinO_right {b n m : Nat} (hb : 2 ≤ b) (h1 : 1 ≤ m) (h2 : m ≤ 3000) (hm : m < n) : joinO b n m = joinO b n (madeN b m) := by
  have h3 := made_more hb h1
  rw [joinO_sym hb (by omega) h1, joinO_left hb h1 h2 hm, joinO_sym hb (by omega) (by omega)]
theorem joinO_big {b n m : Nat} (h : 3000 < n) : joinO b n m = none := by unfold joinO; rw [rowL_big h]; rfl
theorem joinO_big' {b n m : Nat} (h : 3000 < m) : joinO b n m = none := by
  unfold joinO
  rw [rowL_big h, List.find?_eq_none]
  simp
theorem joinO_le {b n m a : Nat} (hb : 2 ≤ b) (h1 : 1 ≤ n) (h : joinO b n m = some a) : a ≤ 3000 := by
  have := joinO_joins hb h1 m
  rw [h] at this
  exact (rowL_ge hb n h1 a this.1).2

/-- What JoinAt answers. -/
def joinA (n m b : Int) : Option Nat := if rowB n b = true ∧ rowB m b = true then joinO b.toNat n.toNat m.toNat else none
theorem joinA_yes (n m b : Nat) (h : rowB n b = true) (h' : rowB m b = true) : joinA n m b = joinO b n m := by rw [joinA, if_pos ⟨h, h'⟩]; rfl
theorem joinA_no {n m b : Int} (h : ¬ (rowB n b = true ∧ rowB m b = true)) : joinA n m b = none := by rw [joinA, if_neg h]
theorem joinA_sym (n m b : Int) : joinA n m b = joinA m n b := by
  by_cases h : rowB n b = true ∧ rowB m b = true
  · obtain ⟨x, k, rfl, rfl, h1, h2, h3, h4⟩ := rowB_nat h.1
    obtain ⟨y, k', rfl, hk, h5, h6, _, _⟩ := rowB_nat h.2
    obtain rfl : k = k' := by omega
    rw [joinA_yes x y k h.1 h.2, joinA_yes y x k h.2 h.1]
    exact joinO_sym h3 h1 h5
  · rw [joinA_no h, joinA_no (fun h' => h ⟨h'.2, h'.1⟩)]

end Pl
end Go.Proofs.YtgkkoegfmhgcjaaGreatDoor
