/-
  The reader of the drawing functions: Rd, Only, l20Open, pick.
-/
import Derived.Test.YtgkkoegfmhgcjaaGreatDoorGNum
import Derived.Test.YtgkkoegfmhgcjaaGreatDoorGPlain
import Derived.WalkKit
import Derived.Lib.Hide
import Derived.Deep.QuietTactic
import Derived.BigQuiet
import Derived.RangeFuncBox
import Derived.OpenShut
import Derived.Laws.BitsAllLaws
import Derived.Orders
import Derived.RegionTactic
import Derived.Shelf.Abstract
import Derived.Deep.RegionWith
import Derived.Deep.DeepCutAuto
import Derived.Test.YtgkkoegfmhgcjaaGreatDoorGText
import Derived.Maps.AppendAt
namespace Go.Proofs.YtgkkoegfmhgcjaaGreatDoor
open Go.RowKit

/-- A reader of a code that lay in w0, in block r, at most q numbers drawn. -/
def Rd (w0 : World) (r q : Nat) (w : World) : Prop :=
  ∃ (a : Option Addr) (len cap : Nat) (zs : List Int) (p : Nat), p ≤ q ∧ w0.heap.size ≤ r ∧ r < w.heap.size ∧
    w.cell? ⟨r, 0, none⟩ = some (.slice a len cap) ∧ w.cell? ⟨r, 1, none⟩ = some (.int .i64 p) ∧ w.frozen? ⟨r, 1, none⟩ = false ∧
    len ≤ 2000 ∧ IsRow .u8 w0 a len cap zs ∧ Below w0.heap.size w0 w

theorem Rd.below {w0 : World} {r q : Nat} {w : World} (h : Rd w0 r q w) : Below w0.heap.size w0 w := by
  obtain ⟨_, _, _, _, _, _, _, _, _, _, _, _, _, h⟩ := h; exact h

theorem Rd.le {w0 : World} {r q q' : Nat} {w : World} (h : Rd w0 r q w) (hq : q ≤ q') : Rd w0 r q' w := by
  obtain ⟨a, len, cap, zs, p, hp, h⟩ := h; exact ⟨a, len, cap, zs, p, Nat.le_trans hp hq, h⟩

theorem Rd.kept {w0 : World} {r q : Nat} {w w' : World} (h : Rd w0 r q w) (hb : Below w.heap.size w w') : Rd w0 r q w' := by
  obtain ⟨a, len, cap, zs, p, hp, h1, h2, h3, h4, h5, h6, h7, h8⟩ := h
  exact ⟨a, len, cap, zs, p, hp, h1, Nat.lt_of_lt_of_le h2 hb.size, (hb.cell (p := ⟨r, 0, none⟩) h2).trans h3, (hb.cell (p := ⟨r, 1, none⟩) h2).trans h4, (hb.frozen (p := ⟨r, 1, none⟩) h2).trans h5, h6, h7,
    h8.trans (hb.mono h8.size)⟩

theorem Rd.drew {w0 : World} {r q : Nat} {w : World} (h : Rd w0 r q w) : Rd w0 r q w.drew := h.kept ((Below.refl _ _).drew)

/-- Of what lay, only block r may have changed. -/
structure Only (r : Nat) (w w' : World) : Prop where
  size : w.heap.size ≤ w'.heap.size
  block : ∀ k, k < w.heap.size → k ≠ r → w'.heap[k]? = w.heap[k]?

theorem Only.refl (r : Nat) (w : World) : Only r w w := ⟨Nat.le_refl _, fun _ _ _ => rfl⟩
theorem Only.trans {r : Nat} {a b c : World} (h : Only r a b) (k : Only r b c) : Only r a c :=
  ⟨Nat.le_trans h.size k.size, fun i h1 h2 => (k.block i (Nat.lt_of_lt_of_le h1 h.size) h2).trans (h.block i h1 h2)⟩
theorem Only.of_below {r : Nat} {a b : World} (h : Below a.heap.size a b) : Only r a b := ⟨h.size, fun k hk _ => h.block k hk⟩
theorem Only.cell {r : Nat} {w w' : World} (h : Only r w w') {p : Addr} {v : Value} (hc : w.cell? p = some v) (hp : p.block ≠ r) : w'.cell? p = some v :=
  (World.cell?_of_block (w := w) (h.block _ (World.block_lt_of_cell? _ _ hc) hp)).trans hc
theorem Only.set (r : Nat) (w : World) (o : Nat) (v : Value) : Only r w (w.setCell ⟨r, o, none⟩ v) := ⟨by simp, fun k _ h => Below.heap_setCell _ _ _ _ (by simpa using h)⟩
theorem Only.drewN {r : Nat} {w w' : World} (h : Only r w w') (n : Nat) : Only r w (w'.drewN n) := h.trans ⟨Nat.le_refl _, fun _ _ _ => rfl⟩

def OpenPost (w0 : World) (e : Ending) (w' : World) : Prop := ∃ r, e = .returned (.pointer (some ⟨r, 0, none⟩)) ∧ Rd w0 r 0 w'

theorem rd_new {a : Option Addr} {len cap : Nat} {z : List Int} {w : World} (h : IsRow .u8 w a len cap z) (hl : len ≤ 2000) (t : TypeId) :
    Rd w w.heap.size 0 (w.alloc (.cells #[.slice a len cap, .int .i64 0] t)) :=
  ⟨a, len, cap, z, 0, Nat.le_refl _, Nat.le_refl _, by simp, by rw [World.cell?_alloc_new]; rfl, by rw [World.cell?_alloc_new]; rfl, by rw [World.frozen?_alloc_new],
    hl, h, (Below.refl _ _).alloc (Nat.le_refl _) _⟩

theorem IsRow.cut {k : IntKind} {w : World} {x : Addr} {len cap : Nat} {z : List Int} (h : IsRow k w (some x) len cap z) (n : Nat) (hn : n ≤ len) : IsRow k w (some x) n cap z := by
  rcases h with ⟨h, _⟩ | ⟨y, h0, hl, h⟩
  · cases h
  · exact .inr ⟨y, h0, Nat.le_trans hn hl, h⟩

set_option maxHeartbeats 400000 in
theorem l20Open (a : Option Addr) (len cap : Nat) (z : List Int) (w : World) (h : IsRow .u8 w a len cap z) :
    Calls Tryz.prog 38 #[.slice a len cap] w (OpenPost w) := by
  by_cases h2 : 2000 < len
  · have h' := h
    rcases h' with ⟨rfl, rfl, rfl, rfl⟩ | ⟨x, rfl, hl, hm, hz, hc⟩
    · omega
    go_enter Tryz.func38, Tryz.ntmps38
    go_wp2
    go_ret
    exact ⟨_, rfl, rd_new (h.cut 2000 (by omega)) (Nat.le_refl _) _⟩
  · go_enter Tryz.func38, Tryz.ntmps38
    go_wp2
    go_ret
    exact ⟨_, rfl, rd_new h (by omega) _⟩

def PickPost (w0 : World) (r q : Nat) (n : Int) (w : World) (e : Ending) (w' : World) : Prop :=
  ∃ x : Int, e = .returned (.int .i64 x) ∧ 0 ≤ x ∧ (1 ≤ n → x < n) ∧ Rd w0 r (q + 1) w' ∧ Only r w w'

theorem rd_step {w0 : World} {r q : Nat} {w : World} {a : Option Addr} {len cap : Nat} {zs : List Int} {p : Nat} (hp : p ≤ q) (h1 : w0.heap.size ≤ r) (h2 : r < w.heap.size)
    (h3 : w.cell? ⟨r, 0, none⟩ = some (.slice a len cap)) (h4 : w.cell? ⟨r, 1, none⟩ = some (.int .i64 p)) (h5 : w.frozen? ⟨r, 1, none⟩ = false)
    (h6 : len ≤ 2000) (h7 : IsRow .u8 w0 a len cap zs) (h8 : Below w0.heap.size w0 w) : Rd w0 r (q + 1) (w.setCell ⟨r, 1, none⟩ (.int .i64 (p + 1))) :=
  ⟨a, len, cap, zs, p + 1, by omega, h1, by simpa using h2, by rw [World.cell?_setCell_other _ _ _ _ (by simp)]; exact h3,
    by rw [World.cell?_setCell_same _ _ _ h4]; rfl, by rw [World.frozen?_setCell]; exact h5, h6, h7, h8.setCell (p := ⟨r, 1, none⟩) h1 _⟩

theorem row_at {w0 w : World} {a : Option Addr} {len cap : Nat} {zs : List Int} {r : Nat} {v : Value} (h : IsRow .u8 w0 a len cap zs) (hl : ¬ len = 0) (h1 : w0.heap.size ≤ r) (h8 : Below w0.heap.size w0 w) :
    ∃ b off, a = some ⟨b, off, none⟩ ∧ ∀ i, i < len → (w.setCell ⟨r, 1, none⟩ v).cell? ⟨b, off + i, none⟩ = some (.int .u8 (zs.getD i 0)) ∧ 0 ≤ zs.getD i 0 ∧ zs.getD i 0 ≤ 255 := by
  rcases h with ⟨_, h, _⟩ | ⟨x, rfl, hl, hm, hz, hc, hw⟩
  · exact absurd h hl
  have hc0 := hc 0 (by omega)
  obtain ⟨b, off, spot⟩ := x
  have hs : spot = none := by simpa [Addr.add] using World.cell?_spot hc0
  subst hs
  refine ⟨b, off, rfl, fun i hi => ?_⟩
  have hci := hc i (by omega)
  have hlt := World.block_lt_of_cell? _ _ hci
  have e : (⟨b, off, none⟩ : Addr).add i = ⟨b, off + i, none⟩ := by
    simp only [Addr.add]; split
    · subst i; rfl
    · rfl
  rw [e] at hci hlt
  replace hlt : b < w0.heap.size := hlt
  refine ⟨?_, ?_⟩
  · rw [World.cell?_setCell_other _ _ _ _ (by intro e; injection e; omega), h8.cell (p := ⟨b, off + i, none⟩) hlt]
    exact hci
  · have hmem : zs.getD i 0 ∈ zs := by
      rw [List.getD_eq_getElem?_getD, List.getElem?_eq_getElem (by omega)]
      exact List.getElem_mem _
    exact bounds_u8 (hw _ hmem)

theorem Rd.drewN {w0 : World} {r q : Nat} {w : World} (h : Rd w0 r q w) (k : Nat) : Rd w0 r q (w.drewN k) := h.kept ⟨rfl, rfl, rfl, Nat.le_refl _, fun _ _ => rfl⟩

theorem i64_xor_small (a b : Nat) (ha : a < 1073741824) (hb : b < 1073741824) : bits .xor .i64 (a : Int) (b : Int) = ((a ^^^ b : Nat) : Int) := by
  have hx : a ^^^ b < 2 ^ 30 := Nat.xor_lt_two_pow (by omega) (by omega)
  have h1 : (BitVec.ofInt 64 (a : Int)).toNat = a := by
    rw [BitVec.ofInt_natCast, BitVec.toNat_ofNat]; exact Nat.mod_eq_of_lt (by omega)
  have h2 : (BitVec.ofInt 64 (b : Int)).toNat = b := by
    rw [BitVec.ofInt_natCast, BitVec.toNat_ofNat]; exact Nat.mod_eq_of_lt (by omega)
  show IntKind.i64.wrap ((BitVec.ofInt 64 (a : Int) ^^^ BitVec.ofInt 64 (b : Int)).toNat : Int) = _
  rw [BitVec.toNat_xor, h1, h2]
  exact IntWalk.i64_in _ (by omega)

theorem xor_nonneg (x : Int) (h0 : 0 ≤ x) (h1 : x ≤ 100000000) : 0 ≤ bits .xor .i64 x (x / 64) := by
  obtain ⟨k, rfl⟩ := Int.eq_ofNat_of_zero_le h0
  rw [show ((k : Int) / 64) = ((k / 64 : Nat) : Int) from rfl, i64_xor_small k (k / 64) (by omega) (by omega)]
  exact Int.natCast_nonneg _

theorem fin {w0 : World} {r q : Nat} (x : Int) (w : World) (n : Int) (nq : Nat) (h0 : 0 ≤ x) (h1 : x ≤ 100000000) (hn : 1 ≤ n) (W : World) (hO : Only r W w) (hR : Rd w0 r (q + 1) w) :
    PickPost w0 r q n W (.returned (.int .i64 ((bits .xor .i64 x (x / 64)).tmod n))) (w.drewN nq) := by
  have hx := xor_nonneg x h0 h1
  refine ⟨_, rfl, ?_, fun _ => ?_, hR.drewN nq, hO.drewN nq⟩
  · rw [Int.tmod_eq_emod_of_nonneg hx]; exact Int.emod_nonneg _ (by omega)
  · rw [Int.tmod_eq_emod_of_nonneg hx]; exact Int.emod_lt_of_pos _ (by omega)

set_option maxHeartbeats 800000 in
theorem pick (w0 : World) (r q : Nat) (n : Int) (w : World) (hq : q ≤ 100000) (h : Rd w0 r q w) :
    Calls Tryz.prog 41 #[.pointer (some ⟨r, 0, none⟩), .int .i64 n] w (PickPost w0 r q n w) := by
  obtain ⟨a, len, cap, zs, p, hp, h1, h2, h3, h4, h5, h6, h7, h8⟩ := h
  have HS := Lib.hid (rd_step hp h1 h2 h3 h4 h5 h6 h7 h8)
  by_cases hn : n < 1
  · go_enter Tryz.func41, Tryz.ntmps41
    go_wp2
    go_ret
    exact ⟨0, rfl, Int.le_refl _, fun h => by omega, HS.out, Only.set _ _ _ _⟩
  · by_cases hl : len = 0
    · subst hl
      go_enter Tryz.func41, Tryz.ntmps41
      go_wp2
      go_ret
      exact ⟨0, rfl, Int.le_refl _, fun h => by omega, HS.out, Only.set _ _ _ _⟩
    · obtain ⟨b, off, rfl, hc⟩ := row_at (v := .int .i64 (p + 1)) h7 hl h1 h8
      have hne : ((len : Int) == 0) = false := by simp; omega
      by_cases hk : p < len
      · obtain ⟨c0, c1, c2⟩ := hc p hk
        clear hc h7 h8
        generalize zs.getD p 0 = x0 at *
        go_enter Tryz.func41, Tryz.ntmps41
        go_wp2
        go_ret
        exact ⟨_, rfl, Int.emod_nonneg _ (by omega), fun _ => Int.emod_lt_of_pos _ (by omega), HS.out, Only.set _ _ _ _⟩
      · obtain ⟨i0, hi0⟩ : ∃ i0, p % len = i0 := ⟨_, rfl⟩
        obtain ⟨i1, hi1⟩ : ∃ i1, (p * 7 + 3) % len = i1 := ⟨_, rfl⟩
        obtain ⟨j, hj⟩ : ∃ j, p / len = j := ⟨_, rfl⟩
        have l0 : i0 < len := hi0 ▸ Nat.mod_lt _ (by omega)
        have l1 : i1 < len := hi1 ▸ Nat.mod_lt _ (by omega)
        have lj : j ≤ p := hj ▸ Nat.div_le_self _ _
        obtain ⟨c0, c1, c2⟩ := hc i0 l0
        obtain ⟨d0, d1, d2⟩ := hc i1 l1
        clear hc h7 h8
        generalize zs.getD i0 0 = x0 at *
        generalize zs.getD i1 0 = x1 at *
        have m0 : (0 : Int) ≤ (i0 : Int) := by omega
        have m1 : (i0 : Int) < (len : Int) := by omega
        have n0 : (0 : Int) ≤ (i1 : Int) := by omega
        have n1 : (i1 : Int) < (len : Int) := by omega
        have e0 : ((p : Int)).tmod (len : Int) = (i0 : Int) := by rw [← hi0]; rfl
        have e1 : IntKind.i64.wrap ((p : Int) * 7) = (p : Int) * 7 := IntWalk.i64_in _ (by omega)
        have e2 : IntKind.i64.wrap ((p : Int) * 7 + 3) = (p : Int) * 7 + 3 := IntWalk.i64_in _ (by omega)
        have e3 : ((p : Int) * 7 + 3).tmod (len : Int) = (i1 : Int) := by rw [← hi1, show (p : Int) * 7 + 3 = ((p * 7 + 3 : Nat) : Int) from by omega]; rfl
        have e4 : IntKind.i64.wrap (x0 * 131) = x0 * 131 := IntWalk.i64_in _ (by omega)
        have e5 : IntKind.i64.wrap (x1 * 1117) = x1 * 1117 := IntWalk.i64_in _ (by omega)
        have e6 : IntKind.i64.wrap (x0 * 131 + x1 * 1117) = x0 * 131 + x1 * 1117 := IntWalk.i64_in _ (by omega)
        have e7 : IntKind.i64.wrap ((p : Int) * 29) = (p : Int) * 29 := IntWalk.i64_in _ (by omega)
        have e8 : IntKind.i64.wrap (x0 * 131 + x1 * 1117 + (p : Int) * 29) = x0 * 131 + x1 * 1117 + (p : Int) * 29 := IntWalk.i64_in _ (by omega)
        have e9 : ((p : Int)).tdiv (len : Int) = (j : Int) := by rw [← hj]; rfl
        have e10 : IntKind.i64.wrap ((j : Int) * 53) = (j : Int) * 53 := IntWalk.i64_in _ (by omega)
        have e11 : IntKind.i64.wrap (x0 * 131 + x1 * 1117 + (p : Int) * 29 + (j : Int) * 53) = x0 * 131 + x1 * 1117 + (p : Int) * 29 + (j : Int) * 53 := IntWalk.i64_in _ (by omega)
        have f0 : 0 ≤ x0 * 131 + x1 * 1117 + (p : Int) * 29 + (j : Int) * 53 := by omega
        have f1 : x0 * 131 + x1 * 1117 + (p : Int) * 29 + (j : Int) * 53 ≤ 100000000 := by omega
        clear hi0 hi1 hj
        go_enter Tryz.func41, Tryz.ntmps41
        go_wp2
        go_quiet (fail)
        go_wp2
        go_ret
        exact fin _ _ n nq f0 f1 (by omega) w (Only.set _ _ _ _) HS.out

end Go.Proofs.YtgkkoegfmhgcjaaGreatDoor

namespace Go.Proofs.YtgkkoegfmhgcjaaGreatDoor
open Go.RowKit

theorem Row.only {r : Nat} {w w' : World} {v : Value} {xs : List Int} (h : Row (r + 1) w v xs) (ho : Only r w w') : Row (r + 1) w' v xs := by
  rcases h with ⟨h1, h2 | ⟨g, cap, cur, hv, hg, hh, rest⟩⟩
  · exact ⟨h1, .inl h2⟩
  · exact ⟨h1, .inr ⟨g, cap, cur, hv, hg, by rw [ho.block g (lt_of_heap hh) (by omega)]; exact hh, rest⟩⟩

theorem Rd.over {w0 : World} {r q : Nat} {w w' : World} (h : Rd w0 r q w) (hb : Below (r + 1) w w') : Rd w0 r q w' := by
  obtain ⟨a, len, cap, zs, p, hp, h1, h2, h3, h4, h5, h6, h7, h8⟩ := h
  exact ⟨a, len, cap, zs, p, hp, h1, Nat.lt_of_lt_of_le h2 hb.size, (hb.cell (p := ⟨r, 0, none⟩) (by simp)).trans h3, (hb.cell (p := ⟨r, 1, none⟩) (by simp)).trans h4, (hb.frozen (p := ⟨r, 1, none⟩) (by simp)).trans h5, h6, h7,
    h8.trans (hb.mono (by omega))⟩

theorem Rd.lt {w0 : World} {r q : Nat} {w : World} (h : Rd w0 r q w) : w0.heap.size ≤ r ∧ r < w.heap.size := by
  obtain ⟨_, _, _, _, _, _, h1, h2, _⟩ := h; exact ⟨h1, h2⟩

end Go.Proofs.YtgkkoegfmhgcjaaGreatDoor

namespace Go.Proofs.YtgkkoegfmhgcjaaGreatDoor
open Go.RowKit

/-! ### Orders -/

/-- How many of the operations are still to come. -/
def toCome (n : Nat) (L : Array Bool) : Nat := ((List.range n).filter fun i => !L.getD i true).length

theorem filter_less {l : List Nat} {p p' : Nat → Bool} (h : ∀ x, p' x = true → p x = true) {i : Nat} (hi : i ∈ l) (h1 : p i = true) (h2 : p' i = false) : (l.filter p').length < (l.filter p).length := by
  induction l with
  | nil => cases hi
  | cons a l ih =>
    have hle : ∀ l : List Nat, (l.filter p').length ≤ (l.filter p).length := by
      intro l
      induction l with
      | nil => simp
      | cons b l ih2 =>
        by_cases hb : p' b = true
        · rw [List.filter_cons_of_pos hb, List.filter_cons_of_pos (h b hb)]; simp only [List.length_cons]; omega
        · rw [List.filter_cons_of_neg (by simpa using hb)]
          by_cases hb2 : p b = true
          · rw [List.filter_cons_of_pos hb2]; simp only [List.length_cons]; omega
          · rw [List.filter_cons_of_neg (by simpa using hb2)]; exact ih2
    by_cases hb : p' a = true
    · have hai : i ≠ a := fun e => by rw [e, hb] at h2; cases h2
      have := ih ((List.mem_cons.1 hi).resolve_left hai)
      rw [List.filter_cons_of_pos hb, List.filter_cons_of_pos (h a hb)]; simp only [List.length_cons]; omega
    · rw [List.filter_cons_of_neg (by simpa using hb)]
      by_cases hb2 : p a = true
      · rw [List.filter_cons_of_pos hb2]; have := hle l; simp only [List.length_cons]; omega
      · have hai : i ≠ a := fun e => by rw [e] at h1; exact hb2 h1
        rw [List.filter_cons_of_neg (by simpa using hb2)]
        exact ih ((List.mem_cons.1 hi).resolve_left hai)

theorem toCome_set {n : Nat} {L : Array Bool} {i : Nat} (hi : i < n) (hL : L.size = n) (h : L.getD i true = false) : toCome n (L.setIfInBounds i true) < toCome n L := by
  refine filter_less (i := i) ?_ (List.mem_range.2 hi) (by simp [h]) ?_
  · intro x hx
    by_cases e : x = i
    · subst e; simp [h]
    · simp only [Array.getD_eq_getD_getElem?, Array.getElem?_setIfInBounds_ne (Ne.symm e)] at hx; simpa [Array.getD_eq_getD_getElem?] using hx
  · simp [Array.getD_eq_getD_getElem?, hL, hi]

theorem ready_spec {md : Region.Mode} {ops : Array Oper} {L : Array Bool} {i : Nat} (h : i ∈ Region.ready md ops L) :
    i < ops.size ∧ L.getD i true = false ∧ ∃ o, ops[i]? = some o ∧ ∀ e ∈ o.after, Region.binds md e = true → L.getD e.on false = true := by
  unfold Region.ready at h
  rw [List.mem_filter] at h
  obtain ⟨h1, h2⟩ := h
  have hi := List.mem_range.1 h1
  simp only [Bool.and_eq_true, Bool.not_eq_true'] at h2
  refine ⟨hi, h2.1, ops[i], Array.getElem?_eq_getElem hi, ?_⟩
  have h3 := h2.2
  rw [Array.getElem?_eq_getElem hi] at h3
  simp only [Option.map_some, Option.getD_some, Array.all_eq_true_iff_forall_mem] at h3
  intro e he hb
  have := h3 e he
  simpa [hb] using this

/-- An invariant over every order. -/
theorem wpAny_of_inv {P : Program} {ops : Array Oper} {Q : Exit → Act → World → Prop} {md : Region.Mode} (I : Array Bool → Act → World → Prop)
    (hsize : ∀ L a w, I L a w → L.size = ops.size)
    (hstep : ∀ L a w i, I L a w → i ∈ Region.ready md ops L → wpOp P ops Q i (I (L.setIfInBounds i true)) a w)
    (hend : ∀ L a w, I L a w → Region.ready md ops L = [] → Q .normal a w) :
    ∀ (fuel : Nat) (L : Array Bool) (a : Act) (w : World), I L a w → toCome ops.size L ≤ fuel → wpAny P md ops Q fuel L a w := by
  intro fuel
  induction fuel with
  | zero =>
    intro L a w hI hf
    have hr : Region.ready md ops L = [] := by
      cases hr : Region.ready md ops L with
      | nil => rfl
      | cons i t =>
        obtain ⟨h1, h2, _⟩ := ready_spec (i := i) (by rw [hr]; simp)
        have := toCome_set h1 (hsize _ _ _ hI) h2
        omega
    exact ⟨hr, hend L a w hI hr⟩
  | succ fuel ih =>
    intro L a w hI hf
    refine ⟨hend L a w hI, fun i hi => ?_⟩
    obtain ⟨h1, h2, _⟩ := ready_spec hi
    have hlt := toCome_set h1 (hsize _ _ _ hI) h2
    exact wpOp_mono (fun a w h => ih _ a w h (by omega)) (hstep L a w i hI hi)

/-! ### What a slot holds -/

/-- What a slot is known to hold: a bounded integer; the reader; a new row of bounded integers; a place in one. -/
inductive Sp
  | int (lo hi : Int)
  | ptr
  | slice (n : Nat) (lo hi : Int)
  | addr (lo hi : Int)
  deriving DecidableEq

def Sp.ok (r : Nat) : Sp → Value → World → Prop
  | .int lo hi, v, _ => ∃ x : Int, v = .int .i64 x ∧ lo ≤ x ∧ x ≤ hi
  | .ptr, v, _ => v = .pointer (some ⟨r, 0, none⟩)
  | .slice n lo hi, v, w => ∃ b, v = .slice (some ⟨b, 0, none⟩) n n ∧ b ≠ r ∧ ∀ j, j < n → ∃ x : Int, w.cell? ⟨b, j, none⟩ = some (.int .i64 x) ∧ lo ≤ x ∧ x ≤ hi
  | .addr lo hi, v, w => ∃ b j, v = .pointer (some ⟨b, j, none⟩) ∧ b ≠ r ∧ ∃ x : Int, w.cell? ⟨b, j, none⟩ = some (.int .i64 x) ∧ lo ≤ x ∧ x ≤ hi

theorem Sp.ok_only {r : Nat} {s : Sp} {v : Value} {w w' : World} (h : s.ok r v w) (ho : Only r w w') : s.ok r v w' := by
  cases s with
  | int lo hi => exact h
  | ptr => exact h
  | slice n lo hi =>
    obtain ⟨b, hv, hb, hc⟩ := h
    exact ⟨b, hv, hb, fun j hj => let ⟨x, h1, h2⟩ := hc j hj; ⟨x, ho.cell h1 hb, h2⟩⟩
  | addr lo hi =>
    obtain ⟨b, j, hv, hb, x, h1, h2⟩ := h
    exact ⟨b, j, hv, hb, x, ho.cell h1 hb, h2⟩

abbrev Env := List (Nat × Sp)

def absO (env : Env) : Operand → Option Sp
  | .tmp t => env.lookup t
  | .const (.int .i64 x) => some (.int x x)
  | _ => none

def fit (lo hi : Int) : Option Sp := if -9000000000000000000 ≤ lo ∧ hi ≤ 9000000000000000000 then some (.int lo hi) else none

def absBin : BinOp → Sp → Sp → Option Sp
  | .add, .int a b, .int c d => fit (a + c) (b + d)
  | .sub, .int a b, .int c d => fit (a - d) (b - c)
  | .mul, .int a b, .int c d => if 0 ≤ a ∧ 0 ≤ c then fit (a * c) (b * d) else none
  | .quo, .int a b, .int c d => if 0 ≤ a ∧ 1 ≤ c ∧ c = d then fit (a / c) (b / c) else none
  | .rem, .int a _, .int c d => if 0 ≤ a ∧ 1 ≤ c ∧ c = d then fit 0 (c - 1) else none
  | _, _, _ => none

/-- The bounds of a new row's parts, 0 among them. -/
def absParts (env : Env) (n : Nat) : List (Nat × Operand) → Option (Int × Int)
  | [] => some (0, 0)
  | (i, x) :: rest => match absO env x, absParts env n rest with
    | some (.int a b), some (lo, hi) => if i < n then some (min a lo, max b hi) else none
    | _, _ => none

def absOp (tab : Nat → List Sp → Option Sp) (env : Env) (o : Oper) : Option Sp :=
  match o.op with
  | .move x => absO env x
  | .assign x => absO env x
  | .binOp op t x y _ => if t = 3 then match absO env x, absO env y with
    | some s, some s' => absBin op s s'
    | _, _ => none else none
  | .buildSlice t n parts => if t = 28 ∧ 1 ≤ n ∧ n ≤ 1000 then (absParts env n parts.toList).map fun p => .slice n p.1 p.2 else none
  | .indexAddr t x ix => if t = 28 then match absO env x, absO env ix with
    | some (.slice n lo hi), some (.int a b) => if 0 ≤ a ∧ b < (n : Int) then some (.addr lo hi) else none
    | _, _ => none else none
  | .load t x => if t = 3 then match absO env x with
    | some (.addr lo hi) => some (.int lo hi)
    | _ => none else none
  | .call c => match c.callee with
    | .value (.func f) => (c.args.toList.mapM (absO env)).bind (tab f)
    | _ => none
  | _ => none

/-- Each value holds what is said of it. -/
def Oks (r : Nat) (w : World) : List Sp → List Value → Prop
  | [], [] => True
  | s :: ss, v :: vs => s.ok r v w ∧ Oks r w ss vs
  | _, _ => False

theorem oks_of {r : Nat} {w : World} {env : Env} {ρ : Operand → Value} : ∀ (xs : List Operand) (ss : List Sp), (∀ x s, x ∈ xs → absO env x = some s → s.ok r (ρ x) w) → xs.mapM (absO env) = some ss → Oks r w ss (xs.map ρ) := by
  intro xs
  induction xs with
  | nil => intro ss _ h; simp at h; subst h; exact trivial
  | cons x xs ih =>
    intro ss hin h
    rw [List.mapM_cons] at h
    cases h1 : absO env x with
    | none => rw [h1] at h; cases h
    | some s =>
      cases h2 : xs.mapM (absO env) with
      | none => rw [h1, h2] at h; cases h
      | some ss' =>
        rw [h1, h2] at h
        cases h
        exact ⟨hin x s (by simp) h1, ih ss' (fun x s hx => hin x s (by simp [hx])) h2⟩

/-- What a callee promises. -/
def Table (w0 : World) (r Co M : Nat) (tab : Nat → List Sp → Option Sp) : Prop :=
  ∀ f ss s, tab f ss = some s → (∀ args w, (callFunc f args).run Tryz.prog w = .ok (.enter f args) w) ∧ ∀ (vs : List Value) (W : World) (q : Nat), Oks r W ss vs → Rd w0 r q W → q ≤ M →
    Calls Tryz.prog f vs.toArray W fun e W' => ∃ v, e = .returned v ∧ s.ok r v W' ∧ Rd w0 r (q + Co) W' ∧ Only r W W'

theorem fit_some {lo hi : Int} {s : Sp} (h : fit lo hi = some s) : s = .int lo hi ∧ -9000000000000000000 ≤ lo ∧ hi ≤ 9000000000000000000 := by
  unfold fit at h; split at h
  · rename_i h'; cases h; exact ⟨rfl, h'⟩
  · cases h

/-- Behind an operation. -/
def Post (w0 : World) (r q : Nat) (s : Sp) (o : Oper) (a : Act) (W : World) (a' : Act) (W' : World) : Prop :=
  ∃ v, a' = a.put o.dst v ∧ s.ok r v W' ∧ Rd w0 r q W' ∧ Only r W W'

theorem Rd.more {w0 : World} {r q q' : Nat} {w : World} (h : Rd w0 r q w) (hq : q ≤ q') : Rd w0 r q' w := h.le hq

theorem post_int {w0 : World} {r Co q : Nat} {o : Oper} {a : Act} {W : World} {lo hi : Int} (hR : Rd w0 r q W) (x z : Int) (hx : IntKind.i64.wrap x = z) (h1 : lo ≤ z) (h2 : z ≤ hi) :
    Post w0 r (q + Co) (.int lo hi) o a W (a.put o.dst (.int .i64 (IntKind.i64.wrap x))) W := by
  rw [hx]; exact ⟨_, rfl, ⟨z, rfl, h1, h2⟩, hR.more (by omega), Only.refl _ _⟩

theorem post_int' {w0 : World} {r Co q : Nat} {o : Oper} {a : Act} {W : World} {lo hi : Int} (hR : Rd w0 r q W) (z : Int) (h1 : lo ≤ z) (h2 : z ≤ hi) :
    Post w0 r (q + Co) (.int lo hi) o a W (a.put o.dst (.int .i64 z)) W :=
  ⟨_, rfl, ⟨z, rfl, h1, h2⟩, hR.more (by omega), Only.refl _ _⟩

theorem bin_wp {w0 : World} {r Co q : Nat} {o : Oper} {a : Act} {W : World} {Q : Exit → Act → World → Prop} {op : BinOp} {x y : Operand} {t3 : TypeId} {s s1 s2 : Sp}
    (ho : o.op = .binOp op 3 x y t3) (h : absBin op s1 s2 = some s) (h1 : s1.ok r (a.eval x) W) (h2 : s2.ok r (a.eval y) W) (hR : Rd w0 r q W) : o.wp Tryz.prog a W (Post w0 r (q + Co) s o a W) Q := by
  unfold absBin at h
  split at h
  · obtain ⟨rfl, g1, g2⟩ := fit_some h
    obtain ⟨u, hu, u1, u2⟩ := h1
    obtain ⟨v, hv, v1, v2⟩ := h2
    unfold Oper.wp
    simp only [execOp, ho]
    rw [hu, hv]
    simp [go_sem]
    exact post_int hR (u + v) (u + v) (IntWalk.i64_in _ (by omega)) (by omega) (by omega)
  · obtain ⟨rfl, g1, g2⟩ := fit_some h
    obtain ⟨u, hu, u1, u2⟩ := h1
    obtain ⟨v, hv, v1, v2⟩ := h2
    unfold Oper.wp
    simp only [execOp, ho]
    rw [hu, hv]
    simp [go_sem]
    exact post_int hR (u - v) (u - v) (IntWalk.i64_in _ (by omega)) (by omega) (by omega)
  · split at h
    · rename_i hpos
      obtain ⟨rfl, g1, g2⟩ := fit_some h
      obtain ⟨u, hu, u1, u2⟩ := h1
      obtain ⟨v, hv, v1, v2⟩ := h2
      obtain ⟨p1, p2⟩ := hpos
      have l1 := Int.mul_le_mul u1 v1 p2 (Int.le_trans p1 u1)
      have l2 := Int.mul_le_mul u2 v2 (Int.le_trans p2 v1) (Int.le_trans (Int.le_trans p1 u1) u2)
      unfold Oper.wp
      simp only [execOp, ho]
      rw [hu, hv]
      simp [go_sem]
      exact post_int hR (u * v) (u * v) (IntWalk.i64_in _ ⟨by omega, by omega⟩) l1 l2
    · cases h
  · rename_i A B C D
    split at h
    · rename_i hpos
      obtain ⟨rfl, g1, g2⟩ := fit_some h
      obtain ⟨u, hu, u1, u2⟩ := h1
      obtain ⟨v, hv, v1, v2⟩ := h2
      obtain ⟨p1, p2, p3⟩ := hpos
      have hvC : v = C := by omega
      rw [hvC] at hv
      have hv0 : ¬ C = 0 := by omega
      have l1 := Int.ediv_le_ediv (show 0 < C by omega) u1
      have l2 := Int.ediv_le_ediv (show 0 < C by omega) u2
      have l4 : 0 ≤ u / C := Int.ediv_nonneg (by omega) (by omega)
      unfold Oper.wp
      simp only [execOp, ho]
      rw [hu, hv]
      simp only [go_sem]
      simp [hv0]
      exact post_int hR (u.tdiv C) (u / C) (by rw [Int.tdiv_eq_ediv_of_nonneg (by omega)]; exact IntWalk.i64_in _ ⟨by omega, by omega⟩) l1 l2
    · cases h
  · rename_i A _ C D
    split at h
    · rename_i hpos
      obtain ⟨rfl, g1, g2⟩ := fit_some h
      obtain ⟨u, hu, u1, u2⟩ := h1
      obtain ⟨v, hv, v1, v2⟩ := h2
      obtain ⟨p1, p2, p3⟩ := hpos
      have hvC : v = C := by omega
      rw [hvC] at hv
      have hv0 : ¬ C = 0 := by omega
      have l4 : 0 ≤ u % C := Int.emod_nonneg _ (by omega)
      have l5 : u % C < C := Int.emod_lt_of_pos _ (by omega)
      unfold Oper.wp
      simp only [execOp, ho]
      rw [hu, hv]
      simp only [go_sem]
      simp [hv0]
      have := post_int' (Co := Co) (o := o) (a := a) (lo := 0) (hi := C - 1) hR (u.tmod C) (by rw [Int.tmod_eq_emod_of_nonneg (by omega)]; exact l4) (by rw [Int.tmod_eq_emod_of_nonneg (by omega)]; omega)
      exact this
    · cases h
  · cases h

/-- Every cell an integer within the bounds. -/
def Good (lo hi : Int) (c : Array Value) : Prop := ∀ j, j < c.size → ∃ x : Int, c[j]? = some (.int .i64 x) ∧ lo ≤ x ∧ x ≤ hi

theorem Good.set {lo hi : Int} {c : Array Value} (h : Good lo hi c) (i : Nat) (x : Int) (h1 : lo ≤ x) (h2 : x ≤ hi) : Good lo hi (c.setIfInBounds i (.int .i64 x)) := by
  intro j hj
  rw [Array.size_setIfInBounds] at hj
  by_cases e : i = j
  · subst e; exact ⟨x, by rw [Array.getElem?_setIfInBounds_self_of_lt hj], h1, h2⟩
  · rw [Array.getElem?_setIfInBounds_ne e]; exact h j hj

theorem Good.mono {lo hi lo' hi' : Int} {c : Array Value} (h : Good lo hi c) (h1 : lo' ≤ lo) (h2 : hi ≤ hi') : Good lo' hi' c := fun j hj => let ⟨x, a, b, d⟩ := h j hj; ⟨x, a, by omega, by omega⟩

theorem fill_good {r : Nat} {W : World} {env : Env} {ρ : Operand → Value} {n : Nat} : ∀ (ps : List (Nat × Operand)) (lo hi LO HI : Int) (c : Array Value),
    (∀ x s, x ∈ ps.map (·.2) → absO env x = some s → s.ok r (ρ x) W) → absParts env n ps = some (lo, hi) → LO ≤ lo → hi ≤ HI → c.size = n → Good LO HI c →
    ∃ c', Instr.fill (fun i => some (i * 1, 1)) c (ps.map fun p => (p.1, ρ p.2)) = some c' ∧ c'.size = n ∧ Good LO HI c' := by
  intro ps
  induction ps with
  | nil => intro lo hi LO HI c _ _ _ _ hn hg; exact ⟨c, rfl, hn, hg⟩
  | cons p ps ih =>
    intro lo hi LO HI c hin h h1 h2 hn hg
    obtain ⟨i, x⟩ := p
    simp only [absParts] at h
    split at h
    · rename_i A B lo' hi' ea ep
      split at h
      · rename_i hi_lt
        have hp : min A lo' = lo ∧ max B hi' = hi := by simpa using h
        obtain ⟨v, hv, v1, v2⟩ := hin x _ (by simp) ea
        have hc : c.size = n := hn
        obtain ⟨c', g1, g2, g3⟩ := ih lo' hi' LO HI (c.setIfInBounds i (.int .i64 v)) (fun x s hx => hin x s (by simp [hx])) ep (by omega) (by omega) (by simpa using hn) (hg.set i v (by omega) (by omega))
        refine ⟨c', ?_, g2, g3⟩
        rw [List.map_cons, Instr.fill]
        have e1 : (Value.int IntKind.i64 v).cells = #[.int .i64 v] := rfl
        simp only [hv, e1, Nat.mul_one]
        rw [if_neg (by simp; omega)]
        simpa using g1
      · cases h
    · cases h

theorem buildSlice_run {n : Nat} {parts : Array (Nat × Value)} {c' : Array Value} (W : World) (hn0 : 1 ≤ n) (hn : n ≤ 1000) (g1 : Instr.fill (fun i => some (i * 1, 1)) ((Array.range (n * 1)).map fun _ => Value.int .i64 0) parts.toList = some c') :
    (Instr.buildSlice 28 n parts).run Tryz.prog W = .ok (.slice (some ⟨W.heap.size, 0, none⟩) n n) (W.alloc (.cells c' 3)) := by
  have h1 : ¬ 16777216 < n := by omega
  have h2 : ¬ n = 0 := by omega
  simp only [Nat.mul_one] at g1
  unfold Instr.buildSlice
  simp [go_sem, h1, h2, Nat.mod_one, g1]

theorem slice_wp {w0 : World} {r Co q : Nat} {o : Oper} {a : Act} {W : World} {Q : Exit → Act → World → Prop} {n : Nat} {parts : Array (Nat × Operand)} {env : Env} {lo hi : Int}
    (ho : o.op = .buildSlice 28 n parts) (hn0 : 1 ≤ n) (hn : n ≤ 1000) (h : absParts env n parts.toList = some (lo, hi)) (hin : ∀ x s, x ∈ parts.toList.map (·.2) → absO env x = some s → s.ok r (a.eval x) W) (hR : Rd w0 r q W) :
    o.wp Tryz.prog a W (Post w0 r (q + Co) (.slice n lo hi) o a W) Q := by
  have hb : lo ≤ 0 ∧ 0 ≤ hi := by
    have : ∀ (ps : List (Nat × Operand)) lo hi, absParts env n ps = some (lo, hi) → lo ≤ 0 ∧ 0 ≤ hi := by
      intro ps
      induction ps with
      | nil => intro lo hi h; simp [absParts] at h; omega
      | cons p ps ih =>
        intro lo hi h
        obtain ⟨i, x⟩ := p
        simp only [absParts] at h
        split at h
        · rename_i A B lo' hi' ea ep
          split at h
          · have hp : min A lo' = lo ∧ max B hi' = hi := by simpa using h
            have := ih _ _ ep
            omega
          · cases h
        · cases h
    exact this _ _ _ h
  have hrlt : r < W.heap.size := by obtain ⟨_, _, _, _, _, _, _, h2, _⟩ := hR; exact h2
  obtain ⟨c', g1, g2, g3⟩ := fill_good (ρ := a.eval) parts.toList lo hi lo hi ((Array.range (n * 1)).map fun _ => Value.int .i64 0) hin h (Int.le_refl _) (Int.le_refl _) (by simp) (by
    intro j hj
    simp at hj
    exact ⟨0, by simp [hj], hb.1, hb.2⟩)
  have hrun := buildSlice_run (parts := parts.map fun (i, x) => (i, a.eval x)) W hn0 hn (c' := c') (by rw [Array.toList_map]; exact g1)
  unfold Oper.wp
  simp only [execOp, ho]
  simp only [Sem.run_bind, hrun, Result.andThen_ok, Sem.run_pure, Oper.upon]
  have hO : Only r W (W.alloc (.cells c' 3)) := Only.of_below ((Below.refl _ _).alloc (Nat.le_refl _) _)
  refine ⟨_, rfl, ⟨W.heap.size, rfl, by omega, fun j hj => ?_⟩, (hR.kept ((Below.refl _ _).alloc (Nat.le_refl _) _)).more (by omega), hO⟩
  rw [World.cell?_alloc_new]
  exact g3 j (by omega)

theorem index_wp {w0 : World} {r Co q : Nat} {o : Oper} {a : Act} {W : World} {Q : Exit → Act → World → Prop} {x ix : Operand} {n : Nat} {lo hi A B : Int}
    (ho : o.op = .indexAddr 28 x ix) (h1 : (Sp.slice n lo hi).ok r (a.eval x) W) (h2 : (Sp.int A B).ok r (a.eval ix) W) (hA : 0 ≤ A) (hB : B < (n : Int)) (hR : Rd w0 r q W) :
    o.wp Tryz.prog a W (Post w0 r (q + Co) (.addr lo hi) o a W) Q := by
  obtain ⟨b, hb, hbr, hc⟩ := h1
  obtain ⟨i, hi', i1, i2⟩ := h2
  have e1 : 0 ≤ i := by omega
  have e2 : i < (n : Int) := by omega
  unfold Oper.wp
  simp only [execOp, ho]
  rw [hb, hi']
  simp [go_sem, e1, e2]
  refine ⟨.pointer (some ⟨b, i.toNat, none⟩), by rfl, ⟨b, i.toNat, rfl, hbr, hc i.toNat (by omega)⟩, hR.more (by omega), Only.refl _ _⟩

theorem load_wp {w0 : World} {r Co q : Nat} {o : Oper} {a : Act} {W : World} {Q : Exit → Act → World → Prop} {x : Operand} {lo hi : Int}
    (ho : o.op = .load 3 x) (h1 : (Sp.addr lo hi).ok r (a.eval x) W) (hR : Rd w0 r q W) :
    o.wp Tryz.prog a W (Post w0 r (q + Co) (.int lo hi) o a W) Q := by
  obtain ⟨b, j, hb, hbr, y, hc, y1, y2⟩ := h1
  unfold Oper.wp
  simp only [execOp, ho]
  rw [hb]
  simp [go_sem, hc]
  exact post_int' hR y y1 y2

theorem copy_wp {w0 : World} {r Co q : Nat} {o : Oper} {a : Act} {W : World} {Q : Exit → Act → World → Prop} {x : Operand} {s : Sp}
    (ho : o.op = .move x ∨ o.op = .assign x) (h1 : s.ok r (a.eval x) W) (hR : Rd w0 r q W) : o.wp Tryz.prog a W (Post w0 r (q + Co) s o a W) Q := by
  unfold Oper.wp
  rcases ho with ho | ho
  all_goals
    simp only [execOp, ho, Sem.run_pure, Oper.upon]
    exact ⟨_, rfl, h1, hR.more (by omega), Only.refl _ _⟩

theorem call_wp {w0 : World} {r Co M q : Nat} {tab : Nat → List Sp → Option Sp} (ht : Table w0 r Co M tab) {o : Oper} {a : Act} {W : World} {Q : Exit → Act → World → Prop} {c : Call} {f : Nat} {s : Sp} {env : Env}
    (ho : o.op = .call c) (hf : c.callee = .value (.func f)) (h : (c.args.toList.mapM (absO env)).bind (tab f) = some s) (hin : ∀ x s, x ∈ c.args.toList → absO env x = some s → s.ok r (a.eval x) W) (hR : Rd w0 r q W) (hq : q ≤ M) :
    o.wp Tryz.prog a W (Post w0 r (q + Co) s o a W) Q := by
  cases hm : c.args.toList.mapM (absO env) with
  | none => rw [hm] at h; cases h
  | some ss =>
    rw [hm] at h
    have hk := oks_of (ρ := a.eval) c.args.toList ss hin hm
    obtain ⟨he, ht'⟩ := ht f ss s h
    have hc := ht' _ W q hk hR hq
    unfold Oper.wp
    have hrun : (execOp a.eval o).run Tryz.prog W = .ok (.enter f (c.args.toList.map a.eval).toArray) W := by
      simp only [execOp, ho, resolve, hf]
      simp [go_sem, Act.eval]
      rw [he]
      congr 2
      apply Array.ext'
      simp
    rw [hrun]
    refine hc.mono ?_
    rintro e W' ⟨v, rfl, h1, h2, h3⟩
    exact ⟨v, rfl, h1, h2, h3⟩

/-! ### The region -/

def dsts (ops : Array Oper) : List Nat := ops.toList.filterMap (·.dst)

/-- An operation is as reckoned, and what it looks at is there by then. -/
def operOk (tab : Nat → List Sp → Option Sp) (env : Env) (ops : Array Oper) (N : Nat) (o : Oper) : Bool :=
  o.guard.isNone &&
  (match o.dst with
   | some d => decide (d < N) && (match env.lookup d, absOp tab env o with
      | some s, some s' => decide (s = s')
      | _, _ => false)
   | none => false) &&
  o.op.operands.all fun x => match x with
   | .tmp t => !(dsts ops).contains t || o.after.any fun e => Region.binds .any e && decide ((ops[e.on]?).bind (·.dst) = some t)
   | _ => true

/-- What must have come after so many rounds. -/
def come (ops : Array Oper) : Nat → List Nat
  | 0 => []
  | k + 1 => (List.range ops.size).filter fun i => match ops[i]? with
    | some o => o.after.all fun e => !Region.binds .any e || (come ops k).contains e.on
    | none => true

def backB (ops : Array Oper) : Bool := (List.range ops.size).all fun i => (come ops ops.size).contains i

theorem come_listed {ops : Array Oper} {L : Array Bool} (hL : L.size = ops.size) (hnil : Region.ready .any ops L = []) : ∀ k i, i ∈ come ops k → L.getD i false = true := by
  intro k
  induction k with
  | zero => intro i hi; cases hi
  | succ k ih =>
    intro i hi
    unfold come at hi
    rw [List.mem_filter] at hi
    obtain ⟨h1, h2⟩ := hi
    have hlt := List.mem_range.1 h1
    refine Classical.byContradiction fun hun => ?_
    have hmem : i ∈ Region.ready .any ops L := by
      unfold Region.ready
      rw [List.mem_filter]
      refine ⟨h1, ?_⟩
      have hun' : L.getD i true = false := by
        simp only [Array.getD_eq_getD_getElem?, Array.getElem?_eq_getElem (show i < L.size by omega), Option.getD_some] at hun ⊢
        simpa using hun
      have hoi : ops[i]? = some ops[i] := Array.getElem?_eq_getElem hlt
      rw [hoi] at h2
      dsimp only at h2
      rw [hun', hoi]
      simp only [Bool.not_false, Bool.true_and, Option.map_some, Option.getD_some, Array.all_eq_true_iff_forall_mem] at h2 ⊢
      intro e he
      have := h2 e he
      simp only [Bool.or_eq_true, List.contains_eq_mem, decide_eq_true_eq] at this ⊢
      rcases this with h | h
      · exact .inl h
      · exact .inr (ih _ h)
    rw [hnil] at hmem
    cases hmem

def regionOk (tab : Nat → List Sp → Option Sp) (env : Env) (ops : Array Oper) (N : Nat) : Bool :=
  ops.all (operOk tab env ops N) && (decide (dsts ops).Nodup && backB ops)

theorem absOp_wp {w0 : World} {r Co M q : Nat} {tab : Nat → List Sp → Option Sp} (ht : Table w0 r Co M tab) {o : Oper} {a : Act} {W : World} {Q : Exit → Act → World → Prop} {s : Sp} {env : Env}
    (h : absOp tab env o = some s) (hin : ∀ x s, x ∈ o.op.operands → absO env x = some s → s.ok r (a.eval x) W) (hR : Rd w0 r q W) (hq : q ≤ M) :
    o.wp Tryz.prog a W (Post w0 r (q + Co) s o a W) Q := by
  unfold absOp at h
  split at h
  · rename_i x ho
    exact copy_wp (.inl ho) (hin x s (by rw [ho]; simp [Op.operands]) h) hR
  · rename_i x ho
    exact copy_wp (.inr ho) (hin x s (by rw [ho]; simp [Op.operands]) h) hR
  · rename_i op t x y t3 ho
    split at h
    · rename_i ht3
      subst ht3
      split at h
      · rename_i s1 s2 e1 e2
        exact bin_wp ho h (hin x _ (by rw [ho]; simp [Op.operands]) e1) (hin y _ (by rw [ho]; simp [Op.operands]) e2) hR
      · cases h
    · cases h
  · rename_i t n parts ho
    split at h
    · rename_i hc
      obtain ⟨rfl, h1, h2⟩ := hc
      cases hp : absParts env n parts.toList with
      | none => rw [hp] at h; cases h
      | some p =>
        obtain ⟨lo, hi⟩ := p
        rw [hp] at h
        cases h
        refine slice_wp ho h1 h2 hp (fun x s hx => hin x s ?_) hR
        rw [ho]
        simp only [Op.operands]
        exact List.mem_toArray.2 hx
    · cases h
  · rename_i t x ix ho
    split at h
    · rename_i ht3
      subst ht3
      split at h
      · rename_i n lo hi A B e1 e2
        split at h
        · rename_i hc
          cases h
          exact index_wp ho (hin x _ (by rw [ho]; simp [Op.operands]) e1) (hin ix _ (by rw [ho]; simp [Op.operands]) e2) hc.1 hc.2 hR
        · cases h
      · cases h
    · cases h
  · rename_i t x ho
    split at h
    · rename_i ht3
      subst ht3
      split at h
      · rename_i lo hi e1
        cases h
        exact load_wp ho (hin x _ (by rw [ho]; simp [Op.operands]) e1) hR
      · cases h
    · cases h
  · rename_i c ho
    split at h
    · rename_i f hf
      refine call_wp ht ho hf h (fun x s hx => hin x s ?_) hR hq
      rw [ho]
      simp only [Op.operands, Call.operands, hf]
      simp at hx ⊢
      exact .inr hx
    · cases h
  · cases h

theorem size_put (a : Act) (d : Option Tmp) (v : Value) : (a.put d v).tmps.size = a.tmps.size := by cases d <;> simp [Act.put]
theorem defers_put (a : Act) (d : Option Tmp) (v : Value) : (a.put d v).defers = a.defers := by cases d <;> simp [Act.put]
theorem eval_put_same (a : Act) (d : Tmp) (v : Value) (h : d < a.tmps.size) : (a.put (some d) v).eval (.tmp d) = v := by
  simp [Act.put, Act.eval, h]
theorem eval_put_other (a : Act) (d t : Tmp) (v : Value) (h : d ≠ t) : (a.put (some d) v).eval (.tmp t) = a.eval (.tmp t) := by
  simp [Act.put, Act.eval, Array.getElem?_setIfInBounds_ne h]

theorem nodup_inj {ops : Array Oper} (h : (dsts ops).Nodup) {i j : Nat} {oi oj : Oper} {d : Tmp} (hi : ops[i]? = some oi) (hj : ops[j]? = some oj) (di : oi.dst = some d) (dj : oj.dst = some d) : i = j := by
  have key : ∀ (l : List Oper), (l.filterMap (·.dst)).Nodup → ∀ i j : Nat, l[i]? = some oi → l[j]? = some oj → i = j := by
    intro l
    induction l with
    | nil => intro _ i j h; simp at h
    | cons x l ih =>
      intro hn i j h1 h2
      cases hx : x.dst with
      | none =>
        rw [List.filterMap_cons_none hx] at hn
        cases i with
        | zero => simp at h1; subst h1; rw [hx] at di; cases di
        | succ i =>
          cases j with
          | zero => simp at h2; subst h2; rw [hx] at dj; cases dj
          | succ j => rw [ih hn i j (by simpa using h1) (by simpa using h2)]
      | some e =>
        rw [List.filterMap_cons_some hx, List.nodup_cons] at hn
        have mem : ∀ {k : Nat} {o : Oper}, l[k]? = some o → o.dst = some d → d ∈ l.filterMap (·.dst) := fun hk hd => List.mem_filterMap.2 ⟨_, List.mem_of_getElem? hk, hd⟩
        cases i with
        | zero =>
          simp at h1; subst h1
          rw [hx] at di; cases di
          cases j with
          | zero => rfl
          | succ j => exact absurd (mem (by simpa using h2) dj) hn.1
        | succ i =>
          cases j with
          | zero =>
            simp at h2; subst h2
            rw [hx] at dj; cases dj
            exact absurd (mem (by simpa using h1) di) hn.1
          | succ j => rw [ih hn.2 i j (by simpa using h1) (by simpa using h2)]
  exact key ops.toList h i j (by simpa using hi) (by simpa using hj)

theorem mem_dsts {ops : Array Oper} {i : Nat} {o : Oper} {d : Tmp} (hi : ops[i]? = some o) (h : o.dst = some d) : d ∈ dsts ops :=
  List.mem_filterMap.2 ⟨o, List.mem_of_getElem? (l := ops.toList) (i := i) (by simpa using hi), h⟩

/-- WHATEVER THE ORDER: behind the region each slot holds what is reckoned of it. -/
theorem wp_region_abs {w0 : World} {r Co M q0 : Nat} {tab : Nat → List Sp → Option Sp} (ht : Table w0 r Co M tab) (env : Env) {id : Nat} {ops : Array Oper} {a0 : Act} {w : World} {Q : Exit → Act → World → Prop}
    (hm : Tryz.prog.follows .mixedOrders = true) (hck : regionOk tab env ops a0.tmps.size = true)
    (h0 : ∀ t s, env.lookup t = some s → t ∉ dsts ops → s.ok r (a0.eval (.tmp t)) w) (hR : Rd w0 r q0 w) (hq : q0 + Co * ops.size ≤ M)
    (hQ : ∀ (a : Act) (W : World), a.defers = a0.defers → a.tmps.size = a0.tmps.size → (∀ t s, env.lookup t = some s → s.ok r (a.eval (.tmp t)) W) →
      (∀ t, t ∉ dsts ops → a.eval (.tmp t) = a0.eval (.tmp t)) → Rd w0 r (q0 + Co * ops.size) W → Only r w W → Q .normal a W) :
    (Code.region id ops true).wp Tryz.prog Q a0 w := by
  simp only [regionOk, Bool.and_eq_true, decide_eq_true_eq] at hck
  obtain ⟨hall, hnd, hback⟩ := hck
  have hop : ∀ {i : Nat} {o : Oper}, ops[i]? = some o → operOk tab env ops a0.tmps.size o = true := fun hi => by
    rw [Array.all_eq_true_iff_forall_mem] at hall
    exact hall _ (Array.mem_of_getElem? hi)
  refine wp_region_any hm ?_
  refine wpAny_of_inv (fun L a W => L.size = ops.size ∧ a.defers = a0.defers ∧ a.tmps.size = a0.tmps.size ∧
      (∀ t s, env.lookup t = some s → (∀ i o, ops[i]? = some o → o.dst = some t → L.getD i false = true) → s.ok r (a.eval (.tmp t)) W) ∧
      (∀ t, t ∉ dsts ops → a.eval (.tmp t) = a0.eval (.tmp t)) ∧ Rd w0 r (q0 + Co * (ops.size - toCome ops.size L)) W ∧ Only r w W)
    (fun L a W h => h.1) ?_ ?_ ops.size _ a0 _ ?_ ?_
  · rintro L a W i ⟨hL, hd, hs, hin, hold, hr, ho⟩ hi
    obtain ⟨hlt, hun, o, hoi, hdep⟩ := ready_spec hi
    have hk := hop hoi
    simp only [operOk, Bool.and_eq_true] at hk
    obtain ⟨⟨hg, hdst⟩, hops⟩ := hk
    have hg' : o.guard = none := by simpa using hg
    cases hdd : o.dst with
    | none => rw [hdd] at hdst; cases hdst
    | some d =>
      rw [hdd] at hdst
      simp only [Bool.and_eq_true, decide_eq_true_eq] at hdst
      obtain ⟨hdN, hdst⟩ := hdst
      split at hdst
      · rename_i s s' he ha
        have hss : s = s' := by simpa using hdst
        subst hss
        have hcnt := toCome_set hlt hL hun
        have hle : toCome ops.size L ≤ ops.size := by
          unfold toCome; exact Nat.le_trans (List.length_filter_le _ _) (by simp)
        have hc1 : Co * (ops.size - toCome ops.size L) + Co ≤ Co * (ops.size - toCome ops.size (L.setIfInBounds i true)) := by
          have := Nat.mul_le_mul_left Co (show ops.size - toCome ops.size L + 1 ≤ ops.size - toCome ops.size (L.setIfInBounds i true) by omega)
          rwa [Nat.mul_add, Nat.mul_one] at this
        have hc2 : Co * (ops.size - toCome ops.size L) ≤ Co * ops.size := Nat.mul_le_mul_left Co (Nat.sub_le _ _)
        have hw := absOp_wp (Q := Q) ht ha (a := a) (W := W) (fun x s hx hxs => by
          cases x with
          | tmp t =>
            refine hin t s hxs fun j oj hj dj => ?_
            rw [Array.all_eq_true_iff_forall_mem] at hops
            have := hops _ hx
            dsimp only at this
            rw [← Array.any_toList] at this
            simp only [Bool.or_eq_true, Bool.not_eq_true', List.any_eq_true] at this
            rcases this with h | ⟨e, he1, he2⟩
            · rw [List.contains_eq_mem, decide_eq_false_iff_not] at h; exact absurd (mem_dsts hj dj) h
            · simp only [Bool.and_eq_true, decide_eq_true_eq] at he2
              cases hon : ops[e.on]? with
              | none => rw [hon] at he2; cases he2.2
              | some oe =>
                rw [hon] at he2
                have := nodup_inj hnd hj hon dj he2.2
                subst this
                exact hdep e (Array.mem_toList_iff.1 he1) he2.1
          | const v =>
            unfold absO at hxs
            split at hxs
            · rename_i h; cases h
            · rename_i h; cases h; cases hxs; exact ⟨_, rfl, Int.le_refl _, Int.le_refl _⟩
            · cases hxs
          | global g => cases hxs
          | func f => cases hxs) hr (by omega)
        unfold wpOp
        rw [hoi]
        have hwt : Region.wanted o (yielded ops a.tmps) = true := by simp [Region.wanted, hg']
        simp only [hwt, if_true]
        refine .inl (Oper.wp_mono ?_ hw)
        rintro a' W' ⟨v, rfl, hv, hR', hO'⟩
        rw [hdd]
        refine ⟨by simpa using hL, by rw [defers_put]; exact hd, by rw [size_put]; exact hs, ?_, ?_, hR'.more (by omega), ho.trans hO'⟩
        · intro t s' hts hlis
          by_cases e : d = t
          · subst e
            rw [he] at hts; cases hts
            rw [eval_put_same _ _ _ (by rw [hs]; exact hdN)]; exact hv
          · rw [eval_put_other _ _ _ _ e]
            refine Sp.ok_only (hin t s' hts fun j oj hj dj => ?_) hO'
            have := hlis j oj hj dj
            by_cases hji : i = j
            · subst hji; rw [hoi] at hj; cases hj; rw [hdd] at dj; cases dj; exact absurd rfl e
            · simpa [Array.getD_eq_getD_getElem?, Array.getElem?_setIfInBounds_ne hji] using this
        · intro t ht'
          rw [eval_put_other _ _ _ _ (fun e => ht' (by rw [← e]; exact mem_dsts hoi hdd))]
          exact hold t ht'
      · cases hdst
  · rintro L a W ⟨hL, hd, hs, hin, hold, hr, ho⟩ hnil
    have hcomplete : ∀ i o, ops[i]? = some o → L.getD i false = true := by
      intro i o hi
      have hlt : i < ops.size := (Array.getElem?_eq_some_iff.1 hi).1
      unfold backB at hback
      rw [List.all_eq_true] at hback
      have := hback i (List.mem_range.2 hlt)
      rw [List.contains_eq_mem, decide_eq_true_eq] at this
      exact come_listed hL hnil _ i this
    exact hQ a W hd hs (fun t s h => hin t s h fun i o hi _ => hcomplete i o hi) hold (hr.more (Nat.add_le_add_left (Nat.mul_le_mul_left Co (Nat.sub_le _ _)) _)) ho
  · refine ⟨by simp, rfl, rfl, ?_, fun _ _ => rfl, ?_, ⟨Nat.le_refl _, fun _ _ _ => rfl⟩⟩
    · intro t s hts hl
      refine Sp.ok_only (h0 t s hts fun hmem => ?_) ⟨Nat.le_refl _, fun _ _ _ => rfl⟩
      obtain ⟨o, ho, hd⟩ := List.mem_filterMap.1 hmem
      obtain ⟨i, hi⟩ := List.mem_iff_getElem?.1 ho
      have := hl i o (by simpa using hi) hd
      have hlt : i < ops.size := by have := (List.getElem?_eq_some_iff.1 hi).1; simpa using this
      simp [Array.getD_eq_getD_getElem?, hlt] at this
    · exact (hR.drew).more (by omega)
  · unfold toCome; exact Nat.le_trans (List.length_filter_le _ _) (by simp)

/-- The reckoning itself, operation by operation. -/
def inferEnv (tab : Nat → List Sp → Option Sp) (ops : Array Oper) (env0 : Env) : Env :=
  ops.toList.foldl (fun env o => match o.dst, absOp tab env o with
    | some d, some s => env ++ [(d, s)]
    | _, _ => env) env0

theorem lookup_append (env : Env) (d t : Nat) (s : Sp) (h : d ≠ t) : (env ++ [(d, s)]).lookup t = env.lookup t := by
  induction env with
  | nil => simp [List.lookup, beq_eq_false_iff_ne.2 (Ne.symm h)]
  | cons p env ih =>
    obtain ⟨d', s'⟩ := p
    simp only [List.cons_append, List.lookup]
    split
    · rfl
    · exact ih

theorem inferEnv_old (tab : Nat → List Sp → Option Sp) (ops : Array Oper) (env0 : Env) (t : Nat) (h : t ∉ dsts ops) : (inferEnv tab ops env0).lookup t = env0.lookup t := by
  have key : ∀ (l : List Oper) (env : Env), t ∉ l.filterMap (·.dst) → (l.foldl (fun env o => match o.dst, absOp tab env o with
      | some d, some s => env ++ [(d, s)]
      | _, _ => env) env).lookup t = env.lookup t := by
    intro l
    induction l with
    | nil => intro env _; rfl
    | cons o l ih =>
      intro env hn
      rw [List.foldl_cons]
      cases hd : o.dst with
      | none =>
        rw [List.filterMap_cons_none hd] at hn
        exact ih _ hn
      | some d =>
        rw [List.filterMap_cons_some hd, List.mem_cons, not_or] at hn
        rw [ih _ hn.2]
        cases ha : absOp tab env o with
        | none => rfl
        | some s => exact lookup_append env d t s (Ne.symm hn.1)
  exact key ops.toList env0 h

theorem act_eq (a : Act) {n : Nat} (h : a.tmps.size = n) : a = { tmps := ((List.range n).map fun t => a.eval (.tmp t)).toArray, defers := a.defers } := by
  obtain ⟨tmps, defers⟩ := a
  simp only [Act.mk.injEq, and_true]
  apply Array.ext
  · simpa using h
  · intro i h1 h2
    simp [Act.eval, h1]

/-- The same, the frame behind the region written out slot by slot. -/
theorem wp_region_reckon {w0 : World} {r Co M q0 : Nat} {tab : Nat → List Sp → Option Sp} (ht : Table w0 r Co M tab) (env0 : Env) {id : Nat} {ops : Array Oper} {a0 : Act} {w : World} {Q : Exit → Act → World → Prop}
    (hm : Tryz.prog.follows .mixedOrders = true) (hck : regionOk tab (inferEnv tab ops env0) ops a0.tmps.size = true)
    (h0 : ∀ t s, env0.lookup t = some s → s.ok r (a0.eval (.tmp t)) w) (hR : Rd w0 r q0 w) (hq : q0 + Co * ops.size ≤ M)
    (hQ : ∀ (f : Nat → Value) (W : World), (∀ t s, (inferEnv tab ops env0).lookup t = some s → s.ok r (f t) W) → (∀ t, t ∉ dsts ops → f t = a0.eval (.tmp t)) →
      Rd w0 r (q0 + Co * ops.size) W → Only r w W → Q .normal { tmps := ((List.range a0.tmps.size).map f).toArray, defers := a0.defers } W) :
    (Code.region id ops true).wp Tryz.prog Q a0 w :=
  wp_region_abs ht (inferEnv tab ops env0) hm hck (fun t s hts hn => h0 t s (by rwa [inferEnv_old tab ops env0 t hn] at hts)) hR hq
    fun a W hd hs hin hold hR' hO => by
      rw [act_eq a hs, hd]
      exact hQ (fun t => a.eval (.tmp t)) W hin hold hR' hO

end Go.Proofs.YtgkkoegfmhgcjaaGreatDoor

namespace Go.Proofs.YtgkkoegfmhgcjaaGreatDoor
open Go.RowKit Go.Shelf

/-- What pick gives. -/
def tab1 (f : Nat) : List Sp → Option Sp
  | [.ptr, .int n m] => if f = 41 ∧ 1 ≤ n then some (.int 0 (m - 1)) else none
  | _ => none

theorem oks_two {r : Nat} {W : World} {s1 s2 : Sp} {vs : List Value} (h : Oks r W [s1, s2] vs) : ∃ v1 v2, vs = [v1, v2] ∧ s1.ok r v1 W ∧ s2.ok r v2 W := by
  match vs, h with
  | [v1, v2], h => exact ⟨v1, v2, rfl, h.1, h.2.1⟩
theorem oks_one {r : Nat} {W : World} {s1 : Sp} {vs : List Value} (h : Oks r W [s1] vs) : ∃ v1, vs = [v1] ∧ s1.ok r v1 W := by
  match vs, h with
  | [v1], h => exact ⟨v1, rfl, h.1⟩

theorem table1 (w0 : World) (r : Nat) : Table w0 r 1 90000 tab1 := by
  intro f ss s h
  unfold tab1 at h
  split at h
  · rename_i n m
    split at h
    · rename_i hc
      obtain ⟨rfl, hn⟩ := hc
      cases h
      refine ⟨enters_of Tryz.func41 (by kernel_rfl) rfl, fun vs W q hk hR hq => ?_⟩
      obtain ⟨v1, v2, rfl, rfl, x, rfl, x1, x2⟩ := oks_two hk
      refine (pick w0 r q x W (by omega) hR).mono ?_
      rintro e W' ⟨y, rfl, y1, y2, hR', hO⟩
      have := y2 (by omega)
      exact ⟨_, rfl, ⟨y, rfl, y1, by omega⟩, hR', hO⟩
    · cases h
  · cases h

theorem look_one {d t : Nat} {s s' : Sp} : List.lookup t [(d, s)] = some s' ↔ t = d ∧ s' = s := by
  simp only [List.lookup]
  by_cases h : t = d
  · subst h; simp [eq_comm]
  · simp [beq_eq_false_iff_ne.2 h, h]

/-- A drawing function of the reader alone. -/
def DrawPost (w0 : World) (r q : Nat) (lo hi : Int) (w : World) (e : Ending) (w' : World) : Prop :=
  ∃ x : Int, e = .returned (.int .i64 x) ∧ lo ≤ x ∧ x ≤ hi ∧ Rd w0 r q w' ∧ Only r w w'

theorem mixed : Tryz.prog.follows .mixedOrders = true := by kernel_rfl

set_option maxRecDepth 100000 in
set_option maxHeartbeats 1000000 in
theorem l20Base (w0 : World) (r q : Nat) (w : World) (hR : Rd w0 r q w) (hq : q ≤ 50000) :
    Calls Tryz.prog 92 #[.pointer (some ⟨r, 0, none⟩)] w (DrawPost w0 r (q + 50) (-20) 40 w) := by
  go_enter Tryz.func92, Tryz.ntmps92
  go_wp2_with fail
  refine wp_region_reckon (q0 := q) (table1 w0 r) [(0, .ptr)] mixed (by kernel_rfl) ?_ hR (by simp; omega) ?_
  · intro t s h
    rw [look_one] at h
    obtain ⟨rfl, rfl⟩ := h
    rfl
  · intro f W hin hold hR' hO
    obtain ⟨x, hx, x1, x2⟩ := hin 2 (.int (-10) 26) (by kernel_rfl)
    simp only [List.size_toArray, List.length_cons, List.length_nil, Nat.reduceAdd, List.range, List.range.loop, List.map_cons, List.map_nil]
    go_wp2
    go_ret
    exact ⟨x, congrArg Ending.returned hx, by omega, by omega, hR'.le (by simp), hO⟩

set_option maxRecDepth 100000 in
set_option maxHeartbeats 1000000 in
theorem l20Whole (w0 : World) (r q : Nat) (w : World) (hR : Rd w0 r q w) (hq : q ≤ 50000) :
    Calls Tryz.prog 91 #[.pointer (some ⟨r, 0, none⟩)] w (DrawPost w0 r (q + 50) (-2000000000) 2000000000 w) := by
  go_enter Tryz.func91, Tryz.ntmps91
  go_wp2_with fail
  refine wp_region_reckon (q0 := q) (table1 w0 r) [(0, .ptr)] mixed (by kernel_rfl) ?_ hR (by simp; omega) ?_
  · intro t s h
    rw [look_one] at h
    obtain ⟨rfl, rfl⟩ := h
    rfl
  · intro f W hin hold hR' hO
    obtain ⟨x, hx, x1, x2⟩ := hin 2 (.int (-2000000000) 1996024900) (by kernel_rfl)
    simp only [List.size_toArray, List.length_cons, List.length_nil, Nat.reduceAdd, List.range, List.range.loop, List.map_cons, List.map_nil]
    go_wp2
    go_ret
    exact ⟨x, congrArg Ending.returned hx, by omega, by omega, hR'.le (by simp), hO⟩

/-- Two bounded integers. -/
def TwoPost (w0 : World) (r q : Nat) (w : World) (e : Ending) (w' : World) : Prop :=
  ∃ x y : Int, e = .returned (.tuple #[.int .i64 x, .int .i64 y]) ∧ (-2000000000 ≤ x ∧ x ≤ 2000000000) ∧ (-20 ≤ y ∧ y ≤ 40) ∧ Rd w0 r q w' ∧ Only r w w'

/-- What a drawing of a number and a base gives. -/
def BothPost (w : World) (e : Ending) (w' : World) : Prop :=
  ∃ x y : Int, e = .returned (.tuple #[.int .i64 x, .int .i64 y]) ∧ (-2000000000 ≤ x ∧ x ≤ 2000000000) ∧ (-20 ≤ y ∧ y ≤ 40) ∧ Below w.heap.size w w'

end Go.Proofs.YtgkkoegfmhgcjaaGreatDoor

namespace Go.Proofs.YtgkkoegfmhgcjaaGreatDoor
open Go.RowKit Go.Shelf

/-- What the drawing functions of the reader alone give. -/
def tab2 (f : Nat) (ss : List Sp) : Option Sp :=
  match tab1 f ss with
  | some s => some s
  | none => match ss with
    | [.ptr] => if f = 91 then some (.int (-2000000000) 2000000000) else if f = 92 then some (.int (-20) 40) else none
    | _ => none

theorem table2 (w0 : World) (r : Nat) : Table w0 r 50 50000 tab2 := by
  intro f ss s h
  unfold tab2 at h
  split at h
  · rename_i s' h1
    cases h
    obtain ⟨e1, e2⟩ := table1 w0 r f ss s h1
    refine ⟨e1, fun vs W q hk hR hq => (e2 vs W q hk hR (by omega)).mono ?_⟩
    rintro e W' ⟨v, rfl, hv, hR', hO⟩
    exact ⟨v, rfl, hv, hR'.le (by omega), hO⟩
  · split at h
    · split at h
      · rename_i hf
        subst hf
        cases h
        refine ⟨enters_of Tryz.func91 (by kernel_rfl) rfl, fun vs W q hk hR hq => ?_⟩
        obtain ⟨v1, rfl, rfl⟩ := oks_one hk
        refine (l20Whole w0 r q W hR hq).mono ?_
        rintro e W' ⟨x, rfl, x1, x2, hR', hO⟩
        exact ⟨_, rfl, ⟨x, rfl, x1, x2⟩, hR', hO⟩
      · split at h
        · rename_i hf
          subst hf
          cases h
          refine ⟨enters_of Tryz.func92 (by kernel_rfl) rfl, fun vs W q hk hR hq => ?_⟩
          obtain ⟨v1, rfl, rfl⟩ := oks_one hk
          refine (l20Base w0 r q W hR hq).mono ?_
          rintro e W' ⟨x, rfl, x1, x2, hR', hO⟩
          exact ⟨_, rfl, ⟨x, rfl, x1, x2⟩, hR', hO⟩
        · cases h
    · cases h

/-- Two numbers and a base. -/
def ThreePost (w : World) (e : Ending) (w' : World) : Prop :=
  ∃ x y z : Int, e = .returned (.tuple #[.int .i64 x, .int .i64 y, .int .i64 z]) ∧ (-2000000000 ≤ x ∧ x ≤ 2000000000) ∧ (-2000000000 ≤ y ∧ y ≤ 2000000000) ∧ (-20 ≤ z ∧ z ≤ 40) ∧ Below w.heap.size w w'

end Go.Proofs.YtgkkoegfmhgcjaaGreatDoor

namespace Go.Proofs.YtgkkoegfmhgcjaaGreatDoor
open Go.RowKit Go.Shelf

set_option maxHeartbeats 400000 in
theorem odd (w0 : World) (r q : Nat) (n : Int) (w : World) (hR : Rd w0 r q w) (hq : q ≤ 50000) (hn : 1 ≤ n) (hn' : n ≤ 1000000) :
    Calls Tryz.prog 47 #[.pointer (some ⟨r, 0, none⟩), .int .i64 n] w fun e w' => ∃ b : Bool, e = .returned (.bool b) ∧ Rd w0 r (q + 1) w' ∧ Only r w w' := by
  go_enter Tryz.func47, Tryz.ntmps47
  go_wp2_with (go_at_call 41; refine (pick w0 r q n w (by omega) hR).mono ?_; rintro e w1 ⟨x, rfl, x0, x1, hR1, hO⟩)
  go_ret
  exact ⟨_, rfl, hR1, hO⟩

/-- A row and a base. -/
def RowPost (w : World) (e : Ending) (w' : World) : Prop :=
  ∃ (v : Value) (xs : List Int) (y : Int), e = .returned (.tuple #[v, .int .i64 y]) ∧ Row w.heap.size w' v xs ∧ xs.length ≤ 20 ∧ (-20 ≤ y ∧ y ≤ 40) ∧ Below w.heap.size w w'

end Go.Proofs.YtgkkoegfmhgcjaaGreatDoor

namespace Go.Proofs.YtgkkoegfmhgcjaaGreatDoor
open Go.RowKit

def depsOf (ops : Array Oper) (i : Nat) : List Nat := match ops[i]? with
  | some o => (o.after.toList.filter (Region.binds .any ·)).map (·.on)
  | none => []
/-- What must have come before operation i. -/
def ancOf (ops : Array Oper) (i : Nat) : Nat → List Nat
  | 0 => depsOf ops i
  | k + 1 => (List.range ops.size).filter fun j => (ancOf ops i k).contains j || (ancOf ops i k).any fun x => (depsOf ops x).contains j
def Closed (ops : Array Oper) (L : Array Bool) : Prop := ∀ i, L.getD i false = true → ∀ j, j ∈ depsOf ops i → L.getD j false = true
theorem anc_done {ops : Array Oper} {L : Array Bool} {i : Nat} (hc : Closed ops L) (h : ∀ j, j ∈ depsOf ops i → L.getD j false = true) : ∀ k j, j ∈ ancOf ops i k → L.getD j false = true := by
  intro k
  induction k with
  | zero => exact h
  | succ k ih =>
    intro j hj
    unfold ancOf at hj
    rw [List.mem_filter] at hj
    have h2 := hj.2
    simp only [Bool.or_eq_true, List.contains_eq_mem, decide_eq_true_eq, List.any_eq_true] at h2
    rcases h2 with h2 | ⟨x, h2, h3⟩
    · exact ih j h2
    · exact hc x (ih x h2) j h3
theorem getD_set_mono {L : Array Bool} {i x : Nat} (h : L.getD x false = true) : (L.setIfInBounds i true).getD x false = true := by
  by_cases e : i = x
  · subst e
    have : i < L.size := by
      refine Classical.byContradiction fun hn => ?_
      simp [Array.getD_eq_getD_getElem?, hn] at h
    simp [Array.getD_eq_getD_getElem?, this]
  · simpa [Array.getD_eq_getD_getElem?, Array.getElem?_setIfInBounds_ne e] using h
theorem deps_mem {ops : Array Oper} {i : Nat} {o : Oper} (hoi : ops[i]? = some o) {j : Nat} (h : j ∈ depsOf ops i) : ∃ e ∈ o.after, Region.binds .any e = true ∧ e.on = j := by
  unfold depsOf at h
  rw [hoi] at h
  simp only [List.mem_map, List.mem_filter] at h
  obtain ⟨e, ⟨h1, h2⟩, h3⟩ := h
  exact ⟨e, Array.mem_toList_iff.1 h1, h2, h3⟩
theorem Closed.set {ops : Array Oper} {L : Array Bool} {i : Nat} {o : Oper} (h : Closed ops L) (hoi : ops[i]? = some o) (hd : ∀ e ∈ o.after, Region.binds .any e = true → L.getD e.on false = true) : Closed ops (L.setIfInBounds i true) := by
  intro x hx j hj
  by_cases e : i = x
  · subst e
    obtain ⟨e, h1, h2, rfl⟩ := deps_mem hoi hj
    exact getD_set_mono (hd e h1 h2)
  · refine getD_set_mono (h x ?_ j hj)
    simpa [Array.getD_eq_getD_getElem?, Array.getElem?_setIfInBounds_ne e] using hx

/-- What an operation looks at is there by then. -/
def comesB (ops : Array Oper) (o : Oper) : Bool := o.op.operands.all fun x => match x with
   | .tmp t => !(dsts ops).contains t || o.after.any fun e => Region.binds .any e && decide ((ops[e.on]?).bind (·.dst) = some t)
   | _ => true
def storeOk (tab : Nat → List Sp → Option Sp) (env : Env) (sp : List Nat) (ops : Array Oper) (N : Nat) : Bool :=
  ((List.range ops.size).all fun i => match ops[i]? with
    | none => false
    | some o => if i + 1 = ops.size then o.guard.isNone && o.dst.isNone else match o.dst with
      | none => false
      | some d => if sp.contains d then o.guard.isNone && decide (d < N) && (env.lookup d).isNone && comesB ops o else operOk tab env ops N o) &&
  (decide (dsts ops).Nodup && backB ops && ((List.range ops.size).all fun j => j + 1 == ops.size || (ancOf ops (ops.size - 1) ops.size).contains j))

theorem comes_listed {ops : Array Oper} {L : Array Bool} {o : Oper} (hnd : (dsts ops).Nodup) (hops : comesB ops o = true) (hdep : ∀ e ∈ o.after, Region.binds .any e = true → L.getD e.on false = true) {t : Nat} (hx : Operand.tmp t ∈ o.op.operands)
    {j : Nat} {oj : Oper} (hj : ops[j]? = some oj) (dj : oj.dst = some t) : L.getD j false = true := by
  unfold comesB at hops
  rw [Array.all_eq_true_iff_forall_mem] at hops
  have := hops _ hx
  dsimp only at this
  rw [← Array.any_toList] at this
  simp only [Bool.or_eq_true, Bool.not_eq_true', List.any_eq_true] at this
  rcases this with h | ⟨e, he1, he2⟩
  · rw [List.contains_eq_mem, decide_eq_false_iff_not] at h; exact absurd (mem_dsts hj dj) h
  · simp only [Bool.and_eq_true, decide_eq_true_eq] at he2
    cases hon : ops[e.on]? with
    | none => rw [hon] at he2; cases he2.2
    | some oe =>
      rw [hon] at he2
      have := nodup_inj hnd hj hon dj he2.2
      subst this
      exact hdep e (Array.mem_toList_iff.1 he1) he2.1

set_option maxHeartbeats 1000000 in
theorem wp_region_store {w0 : World} {r Co M q0 : Nat} {tab : Nat → List Sp → Option Sp} (ht : Table w0 r Co M tab) (env : Env) (sp : List Nat) (ψ : Nat → Option (Value → World → Prop))
    (hstab : ∀ t p, ψ t = some p → ∀ v W W', p v W → Only r W W' → p v W') (hsub : ∀ t p, ψ t = some p → t ∈ sp)
    {id : Nat} {ops : Array Oper} {a0 : Act} {w : World} {Q : Exit → Act → World → Prop}
    (hm : Tryz.prog.follows .mixedOrders = true) (hpos : 0 < ops.size) (hspd : ∀ t, t ∈ sp → t ∈ dsts ops) (hck : storeOk tab env sp ops a0.tmps.size = true)
    (h0 : ∀ t s, env.lookup t = some s → t ∉ dsts ops → s.ok r (a0.eval (.tmp t)) w) (hR : Rd w0 r q0 w) (hq : q0 + Co * ops.size ≤ M)
    (hsp : ∀ (i : Nat) (o : Oper) (d : Nat), ops[i]? = some o → o.dst = some d → d ∈ sp → ∀ (a : Act) (W : World) (q : Nat), (∀ t s, Operand.tmp t ∈ o.op.operands → env.lookup t = some s → s.ok r (a.eval (.tmp t)) W) → Rd w0 r q W → Only r w W →
      o.wp Tryz.prog a W (fun a' W' => ∃ v, a' = a.put (some d) v ∧ (∀ p, ψ d = some p → p v W') ∧ Rd w0 r q W' ∧ Only r W W') Q)
    (hlast : ∀ (o : Oper), ops[ops.size - 1]? = some o → ∀ (a : Act) (W : World), a.defers = a0.defers → a.tmps.size = a0.tmps.size → (∀ t s, env.lookup t = some s → s.ok r (a.eval (.tmp t)) W) → (∀ t p, ψ t = some p → p (a.eval (.tmp t)) W) →
      (∀ t, t ∉ dsts ops → a.eval (.tmp t) = a0.eval (.tmp t)) → Rd w0 r (q0 + Co * ops.size) W → Only r w W → o.wp Tryz.prog a W (fun a' W' => Q .normal a' W') Q) :
    (Code.region id ops true).wp Tryz.prog Q a0 w := by
  simp only [storeOk, Bool.and_eq_true, decide_eq_true_eq] at hck
  obtain ⟨hall, ⟨hnd, hbk⟩, hback⟩ := hck
  rw [List.all_eq_true] at hall hback
  refine wp_region_any hm ?_
  refine wpAny_of_inv (fun L a W => L.size = ops.size ∧ ((L.getD (ops.size - 1) false = true ∧ (∀ j, j < ops.size → L.getD j false = true) ∧ Q .normal a W) ∨ (L.getD (ops.size - 1) false = false ∧ Closed ops L ∧ a.defers = a0.defers ∧ a.tmps.size = a0.tmps.size ∧
      (∀ t s, env.lookup t = some s → (∀ i o, ops[i]? = some o → o.dst = some t → L.getD i false = true) → s.ok r (a.eval (.tmp t)) W) ∧
      (∀ t p, ψ t = some p → (∀ i o, ops[i]? = some o → o.dst = some t → L.getD i false = true) → p (a.eval (.tmp t)) W) ∧
      (∀ t, t ∉ dsts ops → a.eval (.tmp t) = a0.eval (.tmp t)) ∧ Rd w0 r (q0 + Co * (ops.size - toCome ops.size L)) W ∧ Only r w W)))
    (fun L a W h => h.1) ?_ ?_ ops.size _ a0 _ ?_ ?_
  · rintro L a W i ⟨hL, hcase⟩ hi
    obtain ⟨hlt, hun, o, hoi, hdep⟩ := ready_spec hi
    have hun' : L.getD i false = false := by
      simp only [Array.getD_eq_getD_getElem?, Array.getElem?_eq_getElem (show i < L.size by omega), Option.getD_some] at hun ⊢
      exact hun
    rcases hcase with ⟨_, hf, _⟩ | ⟨hl0, hclo, hd, hs, hin, hin2, hold, hr, ho⟩
    · rw [hf i hlt] at hun'; cases hun'
    have hk := hall i (List.mem_range.2 hlt)
    rw [hoi] at hk
    dsimp only at hk
    have hclo' := hclo.set hoi hdep
    by_cases hi1 : i + 1 = ops.size
    · rw [if_pos hi1] at hk
      simp only [Bool.and_eq_true] at hk
      have hg' : o.guard = none := by simpa using hk.1
      have hie : i = ops.size - 1 := by omega
      have hfull : ∀ j, j < ops.size → j ≠ i → L.getD j false = true := by
        intro j hj hji
        have hb := hback j (List.mem_range.2 hj)
        simp only [Bool.or_eq_true, beq_iff_eq, List.contains_eq_mem, decide_eq_true_eq] at hb
        rcases hb with hb | hb
        · omega
        · rw [← hie] at hb
          refine anc_done hclo (fun x hx => ?_) _ j hb
          obtain ⟨e, h1, h2, rfl⟩ := deps_mem hoi hx
          exact hdep e h1 h2
      have hdst : o.dst = none := by simpa using hk.2
      have hdone : ∀ t, ∀ j oj, ops[j]? = some oj → oj.dst = some t → L.getD j false = true := by
        intro t j oj hj dj
        refine hfull j (Array.getElem?_eq_some_iff.1 hj).1 ?_
        rintro rfl
        rw [hoi] at hj; cases hj; rw [hdst] at dj; cases dj
      have hw := hlast o (by rw [← hie]; exact hoi) a W hd hs (fun t s h => hin t s h (hdone t)) (fun t p h => hin2 t p h (hdone t)) hold (hr.more (Nat.add_le_add_left (Nat.mul_le_mul_left Co (Nat.sub_le _ _)) _)) ho
      unfold wpOp
      rw [hoi]
      have hwt : Region.wanted o (yielded ops a.tmps) = true := by simp [Region.wanted, hg']
      simp only [hwt, if_true]
      refine .inl (Oper.wp_mono ?_ hw)
      intro a' W' hQ
      refine ⟨by simpa using hL, .inl ⟨?_, ?_, hQ⟩⟩
      · rw [← hie]; simp [Array.getD_eq_getD_getElem?, hL, hlt]
      · intro j hj
        by_cases e : j = i
        · subst e; simp [Array.getD_eq_getD_getElem?, hL, hlt]
        · exact getD_set_mono (hfull j hj e)
    · rw [if_neg hi1] at hk
      cases hdd : o.dst with
      | none => rw [hdd] at hk; cases hk
      | some d =>
        rw [hdd] at hk
        dsimp only at hk
        have hcnt := toCome_set hlt hL hun
        have hle : toCome ops.size L ≤ ops.size := by
          unfold toCome; exact Nat.le_trans (List.length_filter_le _ _) (by simp)
        have hc1 : Co * (ops.size - toCome ops.size L) + Co ≤ Co * (ops.size - toCome ops.size (L.setIfInBounds i true)) := by
          have := Nat.mul_le_mul_left Co (show ops.size - toCome ops.size L + 1 ≤ ops.size - toCome ops.size (L.setIfInBounds i true) by omega)
          rwa [Nat.mul_add, Nat.mul_one] at this
        have hc2 : Co * (ops.size - toCome ops.size L) ≤ Co * ops.size := Nat.mul_le_mul_left Co (Nat.sub_le _ _)
        have hne : ops.size - 1 ≠ i := by omega
        have hlis : ∀ t, t ≠ d → (∀ j oj, ops[j]? = some oj → oj.dst = some t → (L.setIfInBounds i true).getD j false = true) → (∀ j oj, ops[j]? = some oj → oj.dst = some t → L.getD j false = true) := by
          intro t htd hl j oj hj dj
          have := hl j oj hj dj
          by_cases hji : i = j
          · subst hji; rw [hoi] at hj; cases hj; rw [hdd] at dj; cases dj; exact absurd rfl htd
          · simpa [Array.getD_eq_getD_getElem?, Array.getElem?_setIfInBounds_ne hji] using this
        -- what holds behind the operation
        suffices hmain : d < a0.tmps.size ∧ o.guard = none ∧ o.wp Tryz.prog a W (fun a' W' => ∃ v, a' = a.put (some d) v ∧ (∀ s, env.lookup d = some s → s.ok r v W') ∧ (∀ p, ψ d = some p → p v W') ∧ Rd w0 r (q0 + Co * (ops.size - toCome ops.size L) + Co) W' ∧ Only r W W') Q by
          obtain ⟨hdN, hg', hw⟩ := hmain
          unfold wpOp
          rw [hoi]
          have hwt : Region.wanted o (yielded ops a.tmps) = true := by simp [Region.wanted, hg']
          simp only [hwt, if_true]
          refine .inl (Oper.wp_mono ?_ hw)
          rintro a' W' ⟨v, rfl, hv, hv2, hR', hO'⟩
          refine ⟨by simpa using hL, .inr ⟨?_, hclo', by rw [defers_put]; exact hd, by rw [size_put]; exact hs, ?_, ?_, ?_, hR'.more (by omega), ho.trans hO'⟩⟩
          · simpa [Array.getD_eq_getD_getElem?, Array.getElem?_setIfInBounds_ne (Ne.symm hne)] using hl0
          · intro t s' hts hl
            by_cases e : d = t
            · subst e
              rw [eval_put_same _ _ _ (by rw [hs]; exact hdN)]; exact hv _ hts
            · rw [eval_put_other _ _ _ _ e]
              exact Sp.ok_only (hin t s' hts (hlis t (Ne.symm e) hl)) hO'
          · intro t p hts hl
            by_cases e : d = t
            · subst e
              rw [eval_put_same _ _ _ (by rw [hs]; exact hdN)]; exact hv2 _ hts
            · rw [eval_put_other _ _ _ _ e]
              exact hstab t p hts _ _ _ (hin2 t p hts (hlis t (Ne.symm e) hl)) hO'
          · intro t ht'
            rw [eval_put_other _ _ _ _ (fun e => ht' (by rw [← e]; exact mem_dsts hoi hdd))]
            exact hold t ht'
        by_cases hdsp : d ∈ sp
        · rw [if_pos (by rw [List.contains_eq_mem, decide_eq_true_eq]; exact hdsp)] at hk
          simp only [Bool.and_eq_true, decide_eq_true_eq] at hk
          obtain ⟨⟨⟨hg, hdN⟩, hen⟩, hops⟩ := hk
          refine ⟨hdN, by simpa using hg, ?_⟩
          have hw := hsp i o d hoi hdd hdsp a W (q0 + Co * (ops.size - toCome ops.size L)) (fun t s hx hts => hin t s hts fun j oj hj dj => comes_listed hnd hops hdep hx hj dj) hr ho
          refine Oper.wp_mono ?_ hw
          rintro a' W' ⟨v, rfl, h2, h3, h4⟩
          refine ⟨v, rfl, fun s hs' => ?_, h2, h3.more (by omega), h4⟩
          rw [hs'] at hen; cases hen
        · rw [if_neg (by rw [List.contains_eq_mem, decide_eq_true_eq]; exact hdsp)] at hk
          simp only [operOk, Bool.and_eq_true] at hk
          obtain ⟨⟨hg, hdst⟩, hops⟩ := hk
          have hg' : o.guard = none := by simpa using hg
          rw [hdd] at hdst
          simp only [Bool.and_eq_true, decide_eq_true_eq] at hdst
          obtain ⟨hdN, hdst⟩ := hdst
          split at hdst
          · rename_i s s' he ha
            have hss : s = s' := by simpa using hdst
            subst hss
            refine ⟨hdN, hg', ?_⟩
            have hw := absOp_wp (Q := Q) ht ha (a := a) (W := W) (fun x s hx hxs => by
              cases x with
              | tmp t => exact hin t s hxs fun j oj hj dj => comes_listed hnd hops hdep hx hj dj
              | const v =>
                unfold absO at hxs
                split at hxs
                · rename_i h; cases h
                · rename_i h; cases h; cases hxs; exact ⟨_, rfl, Int.le_refl _, Int.le_refl _⟩
                · cases hxs
              | global g => cases hxs
              | func f => cases hxs) hr (by omega)
            refine Oper.wp_mono ?_ hw
            rintro a' W' ⟨v, rfl, hv, hR', hO'⟩
            rw [hdd]
            refine ⟨v, rfl, fun s' hs' => ?_, fun p hp => absurd (hsub d p hp) hdsp, hR', hO'⟩
            rw [he] at hs'; cases hs'; exact hv
          · cases hdst
  · rintro L a W ⟨hL, hcase⟩ hnil
    rcases hcase with ⟨_, _, hQ⟩ | ⟨hl0, hclo, _⟩
    · exact hQ
    · exfalso
      unfold backB at hbk
      rw [List.all_eq_true] at hbk
      have := hbk (ops.size - 1) (List.mem_range.2 (by omega))
      rw [List.contains_eq_mem, decide_eq_true_eq] at this
      rw [come_listed hL hnil _ _ this] at hl0
      cases hl0
  · refine ⟨by simp, .inr ⟨?_, ?_, rfl, rfl, ?_, ?_, fun _ _ => rfl, ?_, ⟨Nat.le_refl _, fun _ _ _ => rfl⟩⟩⟩
    · have : ops.size - 1 < ops.size := by omega
      simp [Array.getD_eq_getD_getElem?, this]
    · intro i hi
      exfalso
      by_cases hlt : i < ops.size <;> simp [Array.getD_eq_getD_getElem?, hlt] at hi
    · intro t s hts hl
      refine Sp.ok_only (h0 t s hts fun hmem => ?_) ⟨Nat.le_refl _, fun _ _ _ => rfl⟩
      obtain ⟨o, ho, hd⟩ := List.mem_filterMap.1 hmem
      obtain ⟨i, hi⟩ := List.mem_iff_getElem?.1 ho
      have := hl i o (by simpa using hi) hd
      have hlt : i < ops.size := by have := (List.getElem?_eq_some_iff.1 hi).1; simpa using this
      simp [Array.getD_eq_getD_getElem?, hlt] at this
    · intro t p hts hl
      exfalso
      have hmem := hspd t (hsub t p hts)
      obtain ⟨o, ho, hd⟩ := List.mem_filterMap.1 hmem
      obtain ⟨i, hi⟩ := List.mem_iff_getElem?.1 ho
      have := hl i o (by simpa using hi) hd
      have hlt : i < ops.size := by have := (List.getElem?_eq_some_iff.1 hi).1; simpa using this
      simp [Array.getD_eq_getD_getElem?, hlt] at this
    · exact (hR.drew).more (by omega)
  · unfold toCome; exact Nat.le_trans (List.length_filter_le _ _) (by simp)

/-- The same, the reckoning from what the slots held before. -/
theorem wp_region_put {w0 : World} {r Co M q0 : Nat} {tab : Nat → List Sp → Option Sp} (ht : Table w0 r Co M tab) (env0 : Env) (sp : List Nat) (ψ : Nat → Option (Value → World → Prop))
    (hstab : ∀ t p, ψ t = some p → ∀ v W W', p v W → Only r W W' → p v W') (hsub : ∀ t p, ψ t = some p → t ∈ sp)
    {id : Nat} {ops : Array Oper} {a0 : Act} {w : World} {Q : Exit → Act → World → Prop}
    (hm : Tryz.prog.follows .mixedOrders = true) (hpos : 0 < ops.size) (hspd : ∀ t, t ∈ sp → t ∈ dsts ops) (hck : storeOk tab (inferEnv tab ops env0) sp ops a0.tmps.size = true)
    (h0 : ∀ t s, env0.lookup t = some s → s.ok r (a0.eval (.tmp t)) w) (hR : Rd w0 r q0 w) (hq : q0 + Co * ops.size ≤ M)
    (hsp : ∀ (i : Nat) (o : Oper) (d : Nat), ops[i]? = some o → o.dst = some d → d ∈ sp → ∀ (a : Act) (W : World) (q : Nat), (∀ t s, Operand.tmp t ∈ o.op.operands → (inferEnv tab ops env0).lookup t = some s → s.ok r (a.eval (.tmp t)) W) → Rd w0 r q W → Only r w W →
      o.wp Tryz.prog a W (fun a' W' => ∃ v, a' = a.put (some d) v ∧ (∀ p, ψ d = some p → p v W') ∧ Rd w0 r q W' ∧ Only r W W') Q)
    (hlast : ∀ (o : Oper), ops[ops.size - 1]? = some o → ∀ (f : Nat → Value) (W : World), (∀ t s, (inferEnv tab ops env0).lookup t = some s → s.ok r (f t) W) → (∀ t p, ψ t = some p → p (f t) W) →
      (∀ t, t ∉ dsts ops → f t = a0.eval (.tmp t)) → Rd w0 r (q0 + Co * ops.size) W → Only r w W → o.wp Tryz.prog { tmps := ((List.range a0.tmps.size).map f).toArray, defers := a0.defers } W (fun a' W' => Q .normal a' W') Q) :
    (Code.region id ops true).wp Tryz.prog Q a0 w :=
  wp_region_store ht (inferEnv tab ops env0) sp ψ hstab hsub hm hpos hspd hck (fun t s hts hn => h0 t s (by rwa [inferEnv_old tab ops env0 t hn] at hts)) hR hq hsp
    fun o ho a W hd hs hin hpsi hold hR' hO => by
      rw [act_eq a hs, hd]
      exact hlast o ho (fun t => a.eval (.tmp t)) W hin hpsi hold hR' hO

end Go.Proofs.YtgkkoegfmhgcjaaGreatDoor

namespace Go.Proofs.YtgkkoegfmhgcjaaGreatDoor
open Go.RowKit

def psiOk (ops : Array Oper) (N : Nat) : Bool :=
  ((List.range ops.size).all fun i => match ops[i]? with
    | none => false
    | some o => o.guard.isNone && (match o.dst with
      | none => false
      | some d => decide (d < N)) && comesB ops o) && (decide (dsts ops).Nodup && backB ops)

set_option maxHeartbeats 1000000 in
theorem wp_region_psi {w0 : World} {r Co M q0 : Nat} (ψ : Nat → Option (Value → World → Prop))
    (hstab : ∀ t p, ψ t = some p → ∀ v W W', p v W → Only r W W' → p v W')
    {id : Nat} {ops : Array Oper} {a0 : Act} {w : World} {Q : Exit → Act → World → Prop}
    (hm : Tryz.prog.follows .mixedOrders = true) (hck : psiOk ops a0.tmps.size = true)
    (h0 : ∀ t p, ψ t = some p → t ∉ dsts ops → p (a0.eval (.tmp t)) w) (hR : Rd w0 r q0 w) (hq : q0 + Co * ops.size ≤ M)
    (hop : ∀ (i : Nat) (o : Oper) (d : Nat), ops[i]? = some o → o.dst = some d → ∀ (a : Act) (W : World) (q : Nat), (∀ t p, Operand.tmp t ∈ o.op.operands → ψ t = some p → p (a.eval (.tmp t)) W) →
      (∀ t, t ∉ dsts ops → a.eval (.tmp t) = a0.eval (.tmp t)) → Rd w0 r q W → q ≤ M → Only r w W →
      o.wp Tryz.prog a W (fun a' W' => ∃ v, a' = a.put (some d) v ∧ (∀ p, ψ d = some p → p v W') ∧ Rd w0 r (q + Co) W' ∧ Only r W W') Q)
    (hQ : ∀ (f : Nat → Value) (W : World), (∀ t p, ψ t = some p → p (f t) W) →
      (∀ t, t ∉ dsts ops → f t = a0.eval (.tmp t)) → Rd w0 r (q0 + Co * ops.size) W → Only r w W → Q .normal { tmps := ((List.range a0.tmps.size).map f).toArray, defers := a0.defers } W) :
    (Code.region id ops true).wp Tryz.prog Q a0 w := by
  simp only [psiOk, Bool.and_eq_true, decide_eq_true_eq] at hck
  obtain ⟨hall, hnd, hback⟩ := hck
  rw [List.all_eq_true] at hall
  refine wp_region_any hm ?_
  refine wpAny_of_inv (fun L a W => L.size = ops.size ∧ a.defers = a0.defers ∧ a.tmps.size = a0.tmps.size ∧
      (∀ t p, ψ t = some p → (∀ i o, ops[i]? = some o → o.dst = some t → L.getD i false = true) → p (a.eval (.tmp t)) W) ∧
      (∀ t, t ∉ dsts ops → a.eval (.tmp t) = a0.eval (.tmp t)) ∧ Rd w0 r (q0 + Co * (ops.size - toCome ops.size L)) W ∧ Only r w W)
    (fun L a W h => h.1) ?_ ?_ ops.size _ a0 _ ?_ ?_
  · rintro L a W i ⟨hL, hd, hs, hin, hold, hr, ho⟩ hi
    obtain ⟨hlt, hun, o, hoi, hdep⟩ := ready_spec hi
    have hk := hall i (List.mem_range.2 hlt)
    rw [hoi] at hk
    dsimp only at hk
    simp only [Bool.and_eq_true] at hk
    obtain ⟨⟨hg, hdst⟩, hops⟩ := hk
    have hg' : o.guard = none := by simpa using hg
    cases hdd : o.dst with
    | none => rw [hdd] at hdst; cases hdst
    | some d =>
      rw [hdd] at hdst
      simp only [decide_eq_true_eq] at hdst
      have hdN := hdst
      have hcnt := toCome_set hlt hL hun
      have hle : toCome ops.size L ≤ ops.size := by
        unfold toCome; exact Nat.le_trans (List.length_filter_le _ _) (by simp)
      have hc1 : Co * (ops.size - toCome ops.size L) + Co ≤ Co * (ops.size - toCome ops.size (L.setIfInBounds i true)) := by
        have := Nat.mul_le_mul_left Co (show ops.size - toCome ops.size L + 1 ≤ ops.size - toCome ops.size (L.setIfInBounds i true) by omega)
        rwa [Nat.mul_add, Nat.mul_one] at this
      have hc2 : Co * (ops.size - toCome ops.size L) ≤ Co * ops.size := Nat.mul_le_mul_left Co (Nat.sub_le _ _)
      have hw := hop i o d hoi hdd a W (q0 + Co * (ops.size - toCome ops.size L)) (fun t p hx hts => hin t p hts fun j oj hj dj => comes_listed hnd hops hdep hx hj dj) hold hr (by omega) ho
      unfold wpOp
      rw [hoi]
      have hwt : Region.wanted o (yielded ops a.tmps) = true := by simp [Region.wanted, hg']
      simp only [hwt, if_true]
      refine .inl (Oper.wp_mono ?_ hw)
      rintro a' W' ⟨v, rfl, hv, hR', hO'⟩
      refine ⟨by simpa using hL, by rw [defers_put]; exact hd, by rw [size_put]; exact hs, ?_, ?_, hR'.more (by omega), ho.trans hO'⟩
      · intro t p hts hlis
        by_cases e : d = t
        · subst e
          rw [eval_put_same _ _ _ (by rw [hs]; exact hdN)]; exact hv p hts
        · rw [eval_put_other _ _ _ _ e]
          refine hstab t p hts _ _ _ (hin t p hts fun j oj hj dj => ?_) hO'
          have := hlis j oj hj dj
          by_cases hji : i = j
          · subst hji; rw [hoi] at hj; cases hj; rw [hdd] at dj; cases dj; exact absurd rfl e
          · simpa [Array.getD_eq_getD_getElem?, Array.getElem?_setIfInBounds_ne hji] using this
      · intro t ht'
        rw [eval_put_other _ _ _ _ (fun e => ht' (by rw [← e]; exact mem_dsts hoi hdd))]
        exact hold t ht'
  · rintro L a W ⟨hL, hd, hs, hin, hold, hr, ho⟩ hnil
    have hcomplete : ∀ i o, ops[i]? = some o → L.getD i false = true := by
      intro i o hi
      have hlt : i < ops.size := (Array.getElem?_eq_some_iff.1 hi).1
      unfold backB at hback
      rw [List.all_eq_true] at hback
      have := hback i (List.mem_range.2 hlt)
      rw [List.contains_eq_mem, decide_eq_true_eq] at this
      exact come_listed hL hnil _ i this
    rw [act_eq a hs, hd]
    exact hQ (fun t => a.eval (.tmp t)) W (fun t p h => hin t p h fun i o hi _ => hcomplete i o hi) hold (hr.more (Nat.add_le_add_left (Nat.mul_le_mul_left Co (Nat.sub_le _ _)) _)) ho
  · refine ⟨by simp, rfl, rfl, ?_, fun _ _ => rfl, ?_, ⟨Nat.le_refl _, fun _ _ _ => rfl⟩⟩
    · intro t p hts hl
      refine hstab t p hts _ w _ (h0 t p hts fun hmem => ?_) ⟨Nat.le_refl _, fun _ _ _ => rfl⟩
      obtain ⟨o, ho, hd⟩ := List.mem_filterMap.1 hmem
      obtain ⟨i, hi⟩ := List.mem_iff_getElem?.1 ho
      have := hl i o (by simpa using hi) hd
      have hlt : i < ops.size := by have := (List.getElem?_eq_some_iff.1 hi).1; simpa using this
      simp [Array.getD_eq_getD_getElem?, hlt] at this
    · exact (hR.drew).more (by omega)
  · unfold toCome; exact Nat.le_trans (List.length_filter_le _ _) (by simp)

end Go.Proofs.YtgkkoegfmhgcjaaGreatDoor

namespace Go.Proofs.YtgkkoegfmhgcjaaGreatDoor
open Go.RowKit Go.Shelf

theorem Only.above {r g o : Nat} {v : Value} {w w' : World} (h : Only r w w') (hg : w.heap.size ≤ g) : Only r w (w'.setCell ⟨g, o, none⟩ v) :=
  ⟨by simpa using h.size, fun k hk hr => (Below.heap_setCell _ _ _ _ (by simp; omega)).trans (h.block k hk hr)⟩
theorem Rd.set {w0 : World} {r q g o : Nat} {v : Value} {w : World} (h : Rd w0 r q w) (hg : r < g) : Rd w0 r q (w.setCell ⟨g, o, none⟩ v) :=
  h.over ((Below.refl _ _).setCell (by simp; omega) v)
theorem SBox.only {r : Nat} {W W' : World} {B : Nat} {T : TypeId} {cs : Array Value} (h : SBox W B T cs) (ho : Only r W W') (hne : B ≠ r) : SBox W' B T cs := (ho.block B h.lt hne).trans h

theorem IsRow.stay {k : IntKind} {w w' : World} {a : Option Addr} {len cap : Nat} {z : List Int} (h : IsRow k w a len cap z) (hb : Below w.heap.size w w') : IsRow k w' a len cap z := by
  rcases h with h | ⟨x, h1, h2, h3, h4, h5, h6⟩
  · exact .inl h
  · exact .inr ⟨x, h1, h2, h3, h4, fun i hi => (hb.cell (World.block_lt_of_cell? _ _ (h5 i hi))).trans (h5 i hi), h6⟩

/-- A deed's box behind the first statement. -/
def DeedCut (w0 : World) (r q : Nat) (w1 : World) (s : Value) (wc : World) : Prop :=
  ∃ g k, s = .pointer (some ⟨g, 0, none⟩) ∧ SBox wc g 38 #[.int .i64 k, .int .i64 0] ∧ w1.heap.size ≤ g ∧ Rd w0 r (q + 13) wc ∧ Only r w1 wc
/-- A deed is drawn. -/
def DeedDraw (w0 : World) (r q : Nat) (w : World) (e : Ending) (w' : World) : Prop :=
  ∃ k n : Int, e = .returned (.agg #[.int .i64 k, .int .i64 n]) ∧ Rd w0 r (q + 100) w' ∧ Only r w w'

def deedPsi (r B : Nat) (t : Nat) : Option (Value → World → Prop) :=
  if t = 3 then some fun v W => ∃ g, v = .pointer (some ⟨g, 0, none⟩) ∧ g ≠ r ∧ B ≤ g ∧ SBox W g 38 #[.int .i64 0, .int .i64 0]
  else if t = 14 then some fun v _ => ∃ x : Int, v = .agg #[.int .i64 x, .int .i64 0] else none
theorem deedPsi_keeps (r B : Nat) : ∀ t p, deedPsi r B t = some p → ∀ v W W', p v W → Only r W W' → p v W' := by
  intro t p h v W W' hp hO
  unfold deedPsi at h
  split at h
  · cases h
    obtain ⟨g, h1, h2, h3, h4⟩ := hp
    exact ⟨g, h1, h2, h3, h4.only hO h2⟩
  · split at h
    · cases h; exact hp
    · cases h
theorem deedPsi_in (r B : Nat) : ∀ t p, deedPsi r B t = some p → t ∈ [3, 14] := by
  intro t p h
  unfold deedPsi at h
  split at h
  · rename_i e; subst e; decide
  · split at h
    · rename_i e; subst e; decide
    · cases h

/-- One result: a struct in its box. -/
theorem results_one {fn : Func} {p : Tmp} {T : TypeId} (h : fn.results = #[.cell p T]) (tmps : Array Value) (w : World) (g : Nat) (cs : Array Value) (d : TypeDesc)
    (hp : tmps.getD p undef = .pointer (some ⟨g, 0, none⟩)) (hg : SBox w g T cs)
    (hd : d.isRow = true) (hu : Tryz.prog.underlying T = some d) (hi : (Tryz.prog.info? T).map (·.size) = some cs.size) :
    (results fn tmps).run Tryz.prog w = .ok (.agg cs) w := by
  have hp' : tmps[p]?.getD undef = .pointer (some ⟨g, 0, none⟩) := by simpa using hp
  simp [results, h, hp', asAddr, run_loadVar_row w g T T cs (0, 0) d hg hu (by cases d <;> first | rfl | exact absurd hd (by simp)) hi]
theorem cells_three {w w6 : World} {r : Nat} {a b c x : Int} (hO : Only r (w.alloc (.cells #[.int .i64 a, .int .i64 b, .int .i64 c] 3)) w6) (hr : r < w.heap.size) (h0 : 0 ≤ x) (h3 : x < 3) :
    ∃ (X : Nat) (y : Int), x = X ∧ w6.cell? ⟨w.heap.size, X, none⟩ = some (.int .i64 y) := by
  obtain ⟨X, rfl⟩ := Int.eq_ofNat_of_zero_le h0
  have hX : X = 0 ∨ X = 1 ∨ X = 2 := by omega
  rcases hX with rfl | rfl | rfl
  · exact ⟨0, a, rfl, hO.cell (p := ⟨w.heap.size, 0, none⟩) (by rw [World.cell?_alloc_new]; rfl) (by simp; omega)⟩
  · exact ⟨1, b, rfl, hO.cell (p := ⟨w.heap.size, 1, none⟩) (by rw [World.cell?_alloc_new]; rfl) (by simp; omega)⟩
  · exact ⟨2, c, rfl, hO.cell (p := ⟨w.heap.size, 2, none⟩) (by rw [World.cell?_alloc_new]; rfl) (by simp; omega)⟩
set_option maxRecDepth 100000 in
theorem deed_build_wp {o : Oper} {a : Act} {W : World} {K : Act → World → Prop} {Q : Exit → Act → World → Prop} {t : Nat} (ho : o.op = .build 38 #[(0, .tmp t)]) (x : Int) (hx : a.eval (.tmp t) = .int .i64 x)
    (hK : K (a.put o.dst (.agg #[.int .i64 x, .int .i64 0])) W) : o.wp Tryz.prog a W K Q := by
  refine wp_build 38 _ ho ?_ ?_
  · simp only [List.map_toArray, List.map_cons, List.map_nil, hx]; rfl
  · simp only [List.map_toArray, List.map_cons, List.map_nil, hx]; exact hK
set_option maxRecDepth 100000 in
theorem deed_alloc_wp {o : Oper} {a : Act} {W : World} {K : Act → World → Prop} {Q : Exit → Act → World → Prop} (ho : o.op = .alloc 38)
    (hK : K (a.put o.dst (.pointer (some ⟨W.heap.size, 0, none⟩))) (W.alloc (.cells #[.int .i64 0, .int .i64 0] 38))) : o.wp Tryz.prog a W K Q := by
  unfold Oper.wp execOp
  simp [ho, go_sem]
  exact hK

set_option maxRecDepth 100000 in
set_option maxHeartbeats 4000000 in
theorem l20Deed (w0 : World) (r q : Nat) (w : World) (hR : Rd w0 r q w) (hq : q ≤ 40000) :
    Calls Tryz.prog 93 #[.pointer (some ⟨r, 0, none⟩)] w (DeedDraw w0 r q w) := by
  have hR1 : Rd w0 r q (w.alloc (.cells #[.int .i64 0, .int .i64 0] 38)) := hR.kept ((Below.refl _ _).alloc (Nat.le_refl _) _)
  have hO1 : Only r w (w.alloc (.cells #[.int .i64 0, .int .i64 0] 38)) := Only.of_below ((Below.refl _ _).alloc (Nat.le_refl _) _)
  have hB1 : SBox (w.alloc (.cells #[.int .i64 0, .int .i64 0] 38)) w.heap.size 38 #[.int .i64 0, .int .i64 0] := SBox.new _ _ _
  have hz1 : w.heap.size + 1 ≤ (w.alloc (.cells #[.int .i64 0, .int .i64 0] 38)).heap.size := by simp
  have hrw : r < w.heap.size := hR.lt.2
  go_enter Tryz.func93, Tryz.ntmps93
  go_upto_region 1 with (fail)
  generalize w.alloc (.cells #[.int .i64 0, .int .i64 0] 38) = w1 at *
  go_cut [3] (fun s wc => DeedCut w0 r q w1 s wc)
  case first =>
    refine wp_region_put (q0 := q) (table1 w0 r) [(0, .ptr)] [3, 14] (deedPsi r w1.heap.size) (deedPsi_keeps _ _) (deedPsi_in _ _) mixed (by decide) ?_ (by kernel_rfl) ?_ hR1 (by simp; omega) ?_ ?_
    · intro t ht; simp only [List.mem_cons, List.not_mem_nil, or_false] at ht; rcases ht with rfl | rfl <;> decide
    · intro t s h
      rw [look_one] at h
      obtain ⟨rfl, rfl⟩ := h
      rfl
    · intro i o d hio hd hsp a W q' hin hR' hO'
      rcases i with _ | _ | _ | _ | _ | _ | _ | _ | _ | _ | _ | _ | _ | i
      all_goals first
        | (obtain rfl := Option.some.inj hio; obtain rfl := Option.some.inj hd; exact absurd hsp (by decide))
        | (cases hio; done)
        | (obtain rfl := Option.some.inj hio; cases hd; done)
        | (obtain rfl := Option.some.inj hio; obtain rfl := Option.some.inj hd)
      · obtain ⟨x, hx, _, _⟩ := hin 13 (.int 0 15) (by simp [Op.operands]) (by kernel_rfl)
        refine deed_build_wp rfl x hx ⟨_, rfl, fun p hp => ?_, hR', Only.refl _ _⟩
        cases hp
        exact ⟨x, rfl⟩
      · have hO2 : Only r W (W.alloc (.cells #[.int .i64 0, .int .i64 0] 38)) := Only.of_below ((Below.refl _ _).alloc (Nat.le_refl _) _)
        refine deed_alloc_wp rfl ⟨_, rfl, fun p hp => ?_, hR'.kept ((Below.refl _ _).alloc (Nat.le_refl _) _), hO2⟩
        cases hp
        exact ⟨W.heap.size, rfl, by have := hR'.lt; omega, hO'.size, SBox.new _ _ _⟩
    · intro o ho f W hin hpsi hold hR' hO'
      obtain rfl := Option.some.inj ho
      obtain ⟨g, hg, hgr, hgs, hB⟩ := hpsi 3 _ rfl
      obtain ⟨x, hx⟩ := hpsi 14 _ rfl
      simp only [List.size_toArray, List.length_cons, List.length_nil, Nat.reduceAdd, List.range, List.range.loop, List.map_cons, List.map_nil] at hR' ⊢
      rw [hg, hx, hold 0 (by decide), hold 1 (by decide), hold 2 (by decide)]
      refine wp_store_row _ _ _ rfl g #[.int .i64 x, .int .i64 0] rfl rfl _ _ hB (by rw [size_deed]; rfl) rfl (by simp [Value.oneCell']) ?_
      have hBB : SBox (W.setRow g #[.int .i64 x, .int .i64 0]) g 38 #[.int .i64 x, .int .i64 0] := setRow_heap _ _ _ _ _ _ hB
      have hRR := hR'.over (below_srow (n := r + 1) W (by have := hR1.lt; omega) #[.int .i64 x, .int .i64 0] (B := g))
      have hOO : Only r w1 (W.setRow g #[.int .i64 x, .int .i64 0]) := ⟨by have := hO'.size; simpa [World.setRow] using this, fun k hk hr => (setRow_other _ _ _ _ (by omega)).trans (hO'.block k hk hr)⟩
      clear hpsi hold hin ho
      show Exit.then _ _ .normal { tmps := #[.pointer (some ⟨r, 0, none⟩), undef, .pointer (some ⟨w.heap.size, 0, none⟩), .pointer (some ⟨g, 0, none⟩), f 4, f 5, f 6, f 7, f 8, f 9, f 10, f 11, f 12, f 13, .agg #[.int .i64 x, .int .i64 0], f 15, f 16, f 17, f 18, f 19, f 20, f 21, f 22, f 23, f 24, f 25, f 26, f 27, f 28, f 29, f 30], defers := [] } _
      generalize W.setRow g #[.int .i64 x, .int .i64 0] = W2 at *
      go_wp2_with fail
      go_meet
      exact ⟨g, x, rfl, hBB, hgs, hRR, hOO⟩
  case rest =>
    obtain ⟨g, k, rfl, hB, hg, hR2, hO2⟩ := hcut
    have hB0 := hB1.only hO2 (by omega)
    have hO := hO1.trans hO2
    have hzc := hO2.size
    clear hR hR1 hO1 hB1 hO2
    have c0 := hB.cell 0
    have c1 := hB.cell 1
    have f1 := hB.frozen 1
    have hgw : w.heap.size ≤ g := by omega
    have hgr : g ≠ r := by omega
    have hwr : w.heap.size ≠ r := by omega
    have hrg : r < g := by omega
    by_cases hk : k = 0
    · subst hk
      go_wp2_with fail
      refine (l20Whole w0 r (q + 13) wc hR2 (by omega)).mono ?_
      rintro e w3 ⟨x, rfl, x1, x2, hR3, hO3⟩
      rcases Int.lt_or_le x 0 with hm | hm
      · have B3 := hB.only hO3 hgr
        have c0' := B3.cell 0
        have c1' := B3.cell 1
        have f1' := B3.frozen 1
        have HB := Lib.hid (B3.set 1 (.int .i64 0))
        have HZ := Lib.hid ((hB0.only hO3 hwr).far (p := ⟨g, 1, none⟩) (by simp; omega) (.int .i64 0))
        have HO := Lib.hid ((hO.trans hO3).above (o := 1) (v := .int .i64 0) hgw)
        have HRd := Lib.hid (hR3.set (o := 1) (v := .int .i64 0) hrg)
        clear hB hB0 hO hR2 c0 c1 f1 hR3 hO3 B3
        go_wp2_with fail
        refine (odd w0 r (q + 63) 40 _ (HRd.out.le (by omega)) (by omega) (by omega) (by omega)).mono ?_
        rintro e w5 ⟨bb, rfl, hR5, hO5⟩
        have B5 := HB.out.only hO5 hgr
        have Z5 := HZ.out.only hO5 hwr
        have O5 := HO.out.trans hO5
        have hr5 := hR5.lt.2
        clear hO5 HB HZ HO HRd
        cases bb with
        | true =>
          have hR5a := hR5.kept ((Below.refl _ _).alloc (Nat.le_refl _) (.cells #[.int .i64 (-1), .int .i64 1000000001, .int .i64 7] 3))
          have B5a := B5.alloc (.cells #[.int .i64 (-1), .int .i64 1000000001, .int .i64 7] 3)
          have Z5a := Z5.alloc (.cells #[.int .i64 (-1), .int .i64 1000000001, .int .i64 7] 3)
          have O5a : Only r w (w5.alloc (.cells #[.int .i64 (-1), .int .i64 1000000001, .int .i64 7] 3)) := O5.trans (Only.of_below ((Below.refl _ _).alloc (Nat.le_refl _) _))
          go_wp2_with fail
          refine (pick w0 r _ 3 _ (by omega) hR5a).mono ?_
          rintro e w6 ⟨x, rfl, x0, x1, hR6, hO6⟩
          have x3 := x1 (by omega)
          obtain ⟨X, y, rfl, hc⟩ := cells_three hO6 hr5 x0 x3
          have B6 := B5a.only hO6 hgr
          have Z6 := Z5a.only hO6 hwr
          have O6 := O5a.trans hO6
          have e1 := B6.cell 1
          have e2 := B6.frozen 1
          have B7 := Lib.hid (B6.set 1 (.int .i64 y))
          have Z7 := Lib.hid (Z6.far (p := ⟨g, 1, none⟩) (by simp; omega) (.int .i64 y))
          have O7 := Lib.hid (O6.above (o := 1) (v := .int .i64 y) hgw)
          have R7 := Lib.hid (hR6.set (o := 1) (v := .int .i64 y) hrg)
          clear hR5 hR5a B5 B5a Z5 Z5a O5 O5a hO6 B6 Z6 O6 hR6 x1
          go_wp2_with (first | (refine deed_load rfl _ rfl rfl B7.out ?_) | (refine deed_store rfl _ _ rfl rfl rfl Z7.out ?_; intro w9 hS9 hbl9 hsz9 hO9))
          refine bodyPost_ret (results_one rfl _ _ w.heap.size _ _ rfl hS9 rfl Tryz.underlying38 (by rw [size_deed]; rfl)) rfl ?_
          exact ⟨_, _, rfl, (R7.out.over (hbl9 (r + 1) (by omega))).le (by omega), ⟨by rw [hsz9]; exact O7.out.size, fun i hi hir => (hO9 i (by omega)).trans (O7.out.block i hi hir)⟩⟩
        | false =>
          go_wp2_with (first | (refine deed_load rfl _ rfl rfl B5 ?_) | (refine deed_store rfl _ _ rfl rfl rfl Z5 ?_; intro w9 hS9 hbl9 hsz9 hO9))
          refine bodyPost_ret (results_one rfl _ _ w.heap.size _ _ rfl hS9 rfl Tryz.underlying38 (by rw [size_deed]; rfl)) rfl ?_
          exact ⟨_, _, rfl, (hR5.over (hbl9 (r + 1) (by omega))).le (by omega), ⟨by rw [hsz9]; exact O5.size, fun i hi hir => (hO9 i (by omega)).trans (O5.block i hi hir)⟩⟩
      · have hm2 : ¬ x < 0 := by omega
        clear hm
        have B3 := hB.only hO3 hgr
        have c0' := B3.cell 0
        have c1' := B3.cell 1
        have f1' := B3.frozen 1
        have HB := Lib.hid (B3.set 1 (.int .i64 x))
        have HZ := Lib.hid ((hB0.only hO3 hwr).far (p := ⟨g, 1, none⟩) (by simp; omega) (.int .i64 x))
        have HO := Lib.hid ((hO.trans hO3).above (o := 1) (v := .int .i64 x) hgw)
        have HRd := Lib.hid (hR3.set (o := 1) (v := .int .i64 x) hrg)
        clear hB hB0 hO hR2 c0 c1 f1 hR3 hO3 B3
        go_wp2_with fail
        refine (odd w0 r (q + 63) 40 _ (HRd.out.le (by omega)) (by omega) (by omega) (by omega)).mono ?_
        rintro e w5 ⟨bb, rfl, hR5, hO5⟩
        have B5 := HB.out.only hO5 hgr
        have Z5 := HZ.out.only hO5 hwr
        have O5 := HO.out.trans hO5
        have hr5 := hR5.lt.2
        clear hO5 HB HZ HO HRd
        cases bb with
        | true =>
          have hR5a := hR5.kept ((Below.refl _ _).alloc (Nat.le_refl _) (.cells #[.int .i64 (-1), .int .i64 1000000001, .int .i64 7] 3))
          have B5a := B5.alloc (.cells #[.int .i64 (-1), .int .i64 1000000001, .int .i64 7] 3)
          have Z5a := Z5.alloc (.cells #[.int .i64 (-1), .int .i64 1000000001, .int .i64 7] 3)
          have O5a : Only r w (w5.alloc (.cells #[.int .i64 (-1), .int .i64 1000000001, .int .i64 7] 3)) := O5.trans (Only.of_below ((Below.refl _ _).alloc (Nat.le_refl _) _))
          go_wp2_with fail
          refine (pick w0 r _ 3 _ (by omega) hR5a).mono ?_
          rintro e w6 ⟨x, rfl, x0, x1, hR6, hO6⟩
          have x3 := x1 (by omega)
          obtain ⟨X, y, rfl, hc⟩ := cells_three hO6 hr5 x0 x3
          have B6 := B5a.only hO6 hgr
          have Z6 := Z5a.only hO6 hwr
          have O6 := O5a.trans hO6
          have e1 := B6.cell 1
          have e2 := B6.frozen 1
          have B7 := Lib.hid (B6.set 1 (.int .i64 y))
          have Z7 := Lib.hid (Z6.far (p := ⟨g, 1, none⟩) (by simp; omega) (.int .i64 y))
          have O7 := Lib.hid (O6.above (o := 1) (v := .int .i64 y) hgw)
          have R7 := Lib.hid (hR6.set (o := 1) (v := .int .i64 y) hrg)
          clear hR5 hR5a B5 B5a Z5 Z5a O5 O5a hO6 B6 Z6 O6 hR6 x1
          go_wp2_with (first | (refine deed_load rfl _ rfl rfl B7.out ?_) | (refine deed_store rfl _ _ rfl rfl rfl Z7.out ?_; intro w9 hS9 hbl9 hsz9 hO9))
          refine bodyPost_ret (results_one rfl _ _ w.heap.size _ _ rfl hS9 rfl Tryz.underlying38 (by rw [size_deed]; rfl)) rfl ?_
          exact ⟨_, _, rfl, (R7.out.over (hbl9 (r + 1) (by omega))).le (by omega), ⟨by rw [hsz9]; exact O7.out.size, fun i hi hir => (hO9 i (by omega)).trans (O7.out.block i hi hir)⟩⟩
        | false =>
          go_wp2_with (first | (refine deed_load rfl _ rfl rfl B5 ?_) | (refine deed_store rfl _ _ rfl rfl rfl Z5 ?_; intro w9 hS9 hbl9 hsz9 hO9))
          refine bodyPost_ret (results_one rfl _ _ w.heap.size _ _ rfl hS9 rfl Tryz.underlying38 (by rw [size_deed]; rfl)) rfl ?_
          exact ⟨_, _, rfl, (hR5.over (hbl9 (r + 1) (by omega))).le (by omega), ⟨by rw [hsz9]; exact O5.size, fun i hi hir => (hO9 i (by omega)).trans (O5.block i hi hir)⟩⟩
    · have HB := Lib.hid hB
      have HZ := Lib.hid hB0
      have HO := Lib.hid hO
      have HRd := Lib.hid hR2
      clear hB hB0 hO hR2
      go_wp2_with fail
      refine (odd w0 r (q + 63) 40 _ (HRd.out.le (by omega)) (by omega) (by omega) (by omega)).mono ?_
      rintro e w5 ⟨bb, rfl, hR5, hO5⟩
      have B5 := HB.out.only hO5 hgr
      have Z5 := HZ.out.only hO5 hwr
      have O5 := HO.out.trans hO5
      have hr5 := hR5.lt.2
      clear hO5 HB HZ HO HRd
      cases bb with
      | true =>
        have hR5a := hR5.kept ((Below.refl _ _).alloc (Nat.le_refl _) (.cells #[.int .i64 (-1), .int .i64 1000000001, .int .i64 7] 3))
        have B5a := B5.alloc (.cells #[.int .i64 (-1), .int .i64 1000000001, .int .i64 7] 3)
        have Z5a := Z5.alloc (.cells #[.int .i64 (-1), .int .i64 1000000001, .int .i64 7] 3)
        have O5a : Only r w (w5.alloc (.cells #[.int .i64 (-1), .int .i64 1000000001, .int .i64 7] 3)) := O5.trans (Only.of_below ((Below.refl _ _).alloc (Nat.le_refl _) _))
        go_wp2_with fail
        refine (pick w0 r _ 3 _ (by omega) hR5a).mono ?_
        rintro e w6 ⟨x, rfl, x0, x1, hR6, hO6⟩
        have x3 := x1 (by omega)
        obtain ⟨X, y, rfl, hc⟩ := cells_three hO6 hr5 x0 x3
        have B6 := B5a.only hO6 hgr
        have Z6 := Z5a.only hO6 hwr
        have O6 := O5a.trans hO6
        have e1 := B6.cell 1
        have e2 := B6.frozen 1
        have B7 := Lib.hid (B6.set 1 (.int .i64 y))
        have Z7 := Lib.hid (Z6.far (p := ⟨g, 1, none⟩) (by simp; omega) (.int .i64 y))
        have O7 := Lib.hid (O6.above (o := 1) (v := .int .i64 y) hgw)
        have R7 := Lib.hid (hR6.set (o := 1) (v := .int .i64 y) hrg)
        clear hR5 hR5a B5 B5a Z5 Z5a O5 O5a hO6 B6 Z6 O6 hR6 x1
        go_wp2_with (first | (refine deed_load rfl _ rfl rfl B7.out ?_) | (refine deed_store rfl _ _ rfl rfl rfl Z7.out ?_; intro w9 hS9 hbl9 hsz9 hO9))
        refine bodyPost_ret (results_one rfl _ _ w.heap.size _ _ rfl hS9 rfl Tryz.underlying38 (by rw [size_deed]; rfl)) rfl ?_
        exact ⟨_, _, rfl, (R7.out.over (hbl9 (r + 1) (by omega))).le (by omega), ⟨by rw [hsz9]; exact O7.out.size, fun i hi hir => (hO9 i (by omega)).trans (O7.out.block i hi hir)⟩⟩
      | false =>
        go_wp2_with (first | (refine deed_load rfl _ rfl rfl B5 ?_) | (refine deed_store rfl _ _ rfl rfl rfl Z5 ?_; intro w9 hS9 hbl9 hsz9 hO9))
        refine bodyPost_ret (results_one rfl _ _ w.heap.size _ _ rfl hS9 rfl Tryz.underlying38 (by rw [size_deed]; rfl)) rfl ?_
        exact ⟨_, _, rfl, (hR5.over (hbl9 (r + 1) (by omega))).le (by omega), ⟨by rw [hsz9]; exact O5.size, fun i hi hir => (hO9 i (by omega)).trans (O5.block i hi hir)⟩⟩

end Go.Proofs.YtgkkoegfmhgcjaaGreatDoor

namespace Go.Proofs.YtgkkoegfmhgcjaaGreatDoor
open Go.RowKit Go.Shelf

theorem DRow.only {B r : Nat} {w w' : World} {v : Value} {ds : List (Int × Int)} (h : DRow B w v ds) (hr : r < B) (ho : Only r w w') : DRow B w' v ds := by
  rcases h with ⟨h1, h2 | ⟨g, cap, cur, hv, hg, hh, rest⟩⟩
  · exact ⟨h1, .inl h2⟩
  · exact ⟨h1, .inr ⟨g, cap, cur, hv, hg, by rw [ho.block g (lt_of_heap hh) (by omega)]; exact hh, rest⟩⟩
theorem DRow.grown {base : Nat} {w w' : World} {u : Value} {ds : List (Int × Int)} {row : Option Nat} (h : DRow base w u ds) (hg : w.grownBy w' row) (hne : ∀ g, u.ownBlock = some g → row ≠ some g) : DRow base w' u ds := by
  rcases h with ⟨h1, h2 | ⟨g, cap, cur, rfl, hb, hh, rest⟩⟩
  · exact ⟨h1, .inl h2⟩
  · exact ⟨h1, .inr ⟨g, cap, cur, rfl, hb, (hg.block g (lt_of_heap hh) (fun e => hne g rfl e.symm)).trans hh, rest⟩⟩
theorem DRow.ownLt {base : Nat} {w : World} {u : Value} {ds : List (Int × Int)} (h : DRow base w u ds) {g : Nat} (hg : u.ownBlock = some g) : base ≤ g ∧ g < w.heap.size := by
  rcases h with ⟨_, ⟨rfl, _⟩ | ⟨g', cap, cur, rfl, hb, hh, _⟩⟩
  · cases hg
  · obtain rfl : g' = g := by injection hg
    exact ⟨hb, lt_of_heap hh⟩
theorem DRow.low {base base' : Nat} {w : World} {v : Value} {ds : List (Int × Int)} (h : DRow base w v ds) (hb : base' ≤ base) : DRow base' w v ds := by
  rcases h with ⟨h1, h2 | ⟨g, cap, cur, hv, hg, r⟩⟩
  · exact ⟨h1, .inl h2⟩
  · exact ⟨h1, .inr ⟨g, cap, cur, hv, Nat.le_trans hb hg, r⟩⟩
theorem Only.then {B r : Nat} {w a b : World} (h : Only r w a) (hB : w.heap.size ≤ B) (hb : Below B a b) : Only r w b :=
  ⟨Nat.le_trans h.size hb.size, fun k hk hr => (hb.block k (by omega)).trans (h.block k hk hr)⟩

/-- Deeds are drawn. -/
def DeedsDraw (w0 : World) (r q : Nat) (w : World) (e : Ending) (w' : World) : Prop :=
  ∃ v ds, e = .returned v ∧ DRow w.heap.size w' v ds ∧ ds.length ≤ 6 ∧ Rd w0 r (q + 1000) w' ∧ Only r w w'

set_option maxRecDepth 100000 in
set_option maxHeartbeats 4000000 in
theorem l20Deeds (w0 : World) (r q : Nat) (w : World) (hR : Rd w0 r q w) (hq : q ≤ 30000) :
    Calls Tryz.prog 48 #[.pointer (some ⟨r, 0, none⟩)] w (DeedsDraw w0 r q w) := by
  obtain ⟨i0, hi0, hz0, hz1, hz2⟩ := info_parts info_deed
  have hrw : r < w.heap.size := hR.lt.2
  have r0 := drow_empty w
  have hR0 := hR.kept ((Below.refl _ w).alloc (Nat.le_refl _) (.cells #[] 38))
  have hO0 : Only r w (w.alloc (.cells #[] 38)) := Only.of_below ((Below.refl _ w).alloc (Nat.le_refl _) _)
  clear hR
  go_enter Tryz.func48, Tryz.ntmps48
  go_upto_region 2 with (fail)
  generalize w.alloc (.cells #[] 38) = w1 at *
  go_wp2_with fail
  refine (pick w0 r q 6 _ (by omega) hR0).mono ?_
  rintro e w2 ⟨x, rfl, x0, x1, hR2, hO2⟩
  have x6 := x1 (by omega)
  have r2 := Lib.hid (r0.only hrw hO2)
  have O2 := hO0.trans hO2
  clear r0 hR0 hO0 hO2 x1
  obtain ⟨X, rfl⟩ := Int.eq_ofNat_of_zero_le x0
  go_wp2_with fail
  go_loopw [3, 4] (fun o k wr => ∃ (ds : List (Int × Int)) (j : Nat), j ≤ 5 ∧ k = .int .i64 j ∧ DRow w.heap.size wr o ds ∧ ds.length + j ≤ 6 ∧ Rd w0 r (q + 1000 - 100 * j) wr ∧ Only r w wr) (fun _ k _ => (intOf k).toNat)
  case atStart => exact ⟨[], X, by omega, rfl, r2.out, by simp; omega, hR2.le (by omega), O2⟩
  case round =>
    clear r2 hR2 O2
    obtain ⟨ds, j, hj, rfl, hr, hxs, hR, hO⟩ := hrel
    have HR := Lib.hid hr
    obtain ⟨av, cv, rfl⟩ := hr.shape
    have hsz := hO.size
    clear hr
    by_cases hpos : 0 < j
    · have hi : (0 : Int) < (j : Int) := by omega
      go_wp2_with fail
      refine (l20Deed w0 r _ wr hR (by omega)).mono ?_
      rintro e w4 ⟨dk, dn, rfl, hR4, hO4⟩
      have H4 := HR.out.only hrw hO4
      have hr2 : w4.ownsRow w.heap.size 38 2 (.slice av ds.length cv) ds.length (Pl.deedCells ds) := H4
      have O4 := hO.trans hO4
      have hs4 := O4.size
      have HNW := Lib.hid (cell_deed_new w4 dk dn 38)
      have hb4 : Below w.heap.size w4 (w4.alloc (.cells #[.int .i64 dk, .int .i64 dn] 38)) := (Below.refl _ w4).alloc hs4 _
      clear hR HR hO hO4 H4
      go_wp2_with (at_builtin; refine wpList_append_own _ rfl _ _ 24 rfl w.heap.size 38 i0 (.agg #[.int .i64 0, .int .i64 0]) 2 16 Tryz.underlying24 hi0 hz0 hz1 hz2 rfl (by decide) _ _ _ rfl (hr2.alloc _) ⟨w4.heap.size, 0, none⟩ 1 1 [.int .i64 dk, .int .i64 dn] rfl rfl HNW.out (by simp [Value.oneCell']) (by unfold maxLen; omega) (by omega) (by simp; omega) ?_; intro v8 w8 hown8 hgrow8 _)
      have hb8 : Below w.heap.size w4 w8 := below_append hb4 (hr2.alloc _) hgrow8 hs4
      have H8 := Lib.hid (drow_snoc hown8)
      have O8 := O4.then (Nat.le_refl _) hb8
      have R8 := hR4.over (hb8.mono (by omega))
      clear hown8 hgrow8 hr2 HNW
      go_wp2_with fail
      go_roundw
      case rel => exact ⟨ds ++ [(dk, dn)], j - 1, by omega, by rw [show ((j - 1 : Nat) : Int) = (j : Int) - 1 from by omega], H8.out, by simp; omega, R8.le (by omega), O8⟩
      case measure => simp [intOf]; omega
    · obtain rfl : j = 0 := by omega
      go_wp2_with fail
      go_ret
      exact ⟨_, ds, rfl, HR.out, by omega, hR.le (by omega), hO⟩

end Go.Proofs.YtgkkoegfmhgcjaaGreatDoor

namespace Go.Proofs.YtgkkoegfmhgcjaaGreatDoor
open Go.RowKit Go.Shelf

/-- What a slot is known to hold: a value; a text of at most so many bytes; a new row of such texts; a place in one; a number below another one. -/
inductive Sq
  | is (v : Value)
  | strLe (n : Nat)
  | texts (n m : Nat)
  | textAt (m : Nat)
  | lt (n : Nat)

def Sq.ok (r : Nat) : Sq → Value → World → Prop
  | .is u, v, _ => v = u
  | .strLe n, v, _ => ∃ t : ByteArray, v = .string t ∧ t.size ≤ n
  | .texts n m, v, W => ∃ b, v = .slice (some ⟨b, 0, none⟩) n n ∧ b ≠ r ∧ ∀ j, j < n → ∃ t : ByteArray, W.cell? ⟨b, j, none⟩ = some (.string t) ∧ t.size ≤ m
  | .textAt m, v, W => ∃ b j, v = .pointer (some ⟨b, j, none⟩) ∧ b ≠ r ∧ ∃ t : ByteArray, W.cell? ⟨b, j, none⟩ = some (.string t) ∧ t.size ≤ m
  | .lt n, v, _ => ∃ x : Nat, v = .int .i64 x ∧ x < n

theorem Sq.ok_only {r : Nat} {s : Sq} {v : Value} {w w' : World} (h : s.ok r v w) (ho : Only r w w') : s.ok r v w' := by
  cases s with
  | is u => exact h
  | strLe n => exact h
  | texts n m =>
    obtain ⟨b, hv, hb, hc⟩ := h
    exact ⟨b, hv, hb, fun j hj => let ⟨t, h1, h2⟩ := hc j hj; ⟨t, ho.cell h1 hb, h2⟩⟩
  | textAt m =>
    obtain ⟨b, j, hv, hb, t, h1, h2⟩ := h
    exact ⟨b, j, hv, hb, t, ho.cell h1 hb, h2⟩
  | lt n => exact h

/-- Behind an operation. -/
def SqPost (w0 : World) (r q : Nat) (s : Sq) (o : Oper) (a : Act) (W : World) (a' : Act) (W' : World) : Prop :=
  ∃ v, a' = a.put o.dst v ∧ s.ok r v W' ∧ Rd w0 r q W' ∧ Only r W W'

section
variable {w0 : World} {r q Co : Nat} {o : Oper} {a : Act} {W : World} {Q : Exit → Act → World → Prop}

/-- A call of a function in a region. -/
theorem call_at {c : Call} {f : Nat} {args : Array Value} {K : Act → World → Prop} (ho : o.op = .call c) (hf : c.callee = .value (.func f)) (he : ∀ args w, (callFunc f args).run Tryz.prog w = .ok (.enter f args) w)
    (ha : (c.args.toList.map a.eval).toArray = args) (hc : Calls Tryz.prog f args W fun e W' => ∃ v, e = .returned v ∧ K (a.put o.dst v) W') : o.wp Tryz.prog a W K Q := by
  have hrun : (execOp a.eval o).run Tryz.prog W = .ok (.enter f (c.args.toList.map a.eval).toArray) W := by
    simp only [execOp, ho, resolve, hf]
    simp [go_sem, Act.eval]
    rw [he]
    congr 2
    apply Array.ext'
    simp
  unfold Oper.wp
  rw [hrun, ha]
  refine hc.mono ?_
  rintro e W' ⟨v, rfl, h⟩
  exact h

theorem sq_copy {x : Operand} {s : Sq} (ho : o.op = .move x ∨ o.op = .assign x) (h1 : s.ok r (a.eval x) W) (hR : Rd w0 r q W) : o.wp Tryz.prog a W (SqPost w0 r (q + Co) s o a W) Q := by
  unfold Oper.wp
  rcases ho with ho | ho
  all_goals
    simp only [execOp, ho, Sem.run_pure, Oper.upon]
    exact ⟨_, rfl, h1, hR.more (by omega), Only.refl _ _⟩

theorem sq_pick {c : Call} {n : Nat} {x : Operand} (ho : o.op = .call c) (hf : c.callee = .value (.func 41)) (ha : c.args = #[x, .const (.int .i64 n)]) (hx : a.eval x = .pointer (some ⟨r, 0, none⟩)) (hn : 1 ≤ n) (hn' : n ≤ 1000000)
    (hR : Rd w0 r q W) (hq : q ≤ 100000) (hCo : 1 ≤ Co) : o.wp Tryz.prog a W (SqPost w0 r (q + Co) (.lt n) o a W) Q := by
  have hc := pick w0 r q n W hq hR
  refine call_at ho hf (enters_of Tryz.func41 (by kernel_rfl) rfl) (args := #[.pointer (some ⟨r, 0, none⟩), .int .i64 n]) (by rw [ha]; simp [hx]; rfl) (hc.mono ?_)
  rintro e W' ⟨y, rfl, y0, y1, h2, h3⟩
  obtain ⟨Y, rfl⟩ := Int.eq_ofNat_of_zero_le y0
  have := y1 (by omega)
  exact ⟨_, rfl, _, rfl, ⟨Y, rfl, by omega⟩, h2.le (by omega), h3⟩

/-- Every part a text of at most so many bytes. -/
def textParts (n m : Nat) : List (Nat × Operand) → Bool
  | [] => true
  | (i, .const (.string t)) :: rest => decide (i < n) && (decide (t.size ≤ m) && textParts n m rest)
  | _ => false
def GoodT (m : Nat) (c : Array Value) : Prop := ∀ j, j < c.size → ∃ t : ByteArray, c[j]? = some (.string t) ∧ t.size ≤ m
theorem GoodT.set {m : Nat} {c : Array Value} (h : GoodT m c) (i : Nat) (t : ByteArray) (h1 : t.size ≤ m) : GoodT m (c.setIfInBounds i (.string t)) := by
  intro j hj
  rw [Array.size_setIfInBounds] at hj
  by_cases e : i = j
  · subst e; exact ⟨t, by rw [Array.getElem?_setIfInBounds_self_of_lt hj], h1⟩
  · rw [Array.getElem?_setIfInBounds_ne e]; exact h j hj
theorem fill_texts {ρ : Operand → Value} (hρ : ∀ v, ρ (.const v) = v) {n m : Nat} : ∀ (ps : List (Nat × Operand)) (c : Array Value), textParts n m ps = true → c.size = n → GoodT m c →
    ∃ c', Instr.fill (fun i => some (i * 1, 1)) c (ps.map fun p => (p.1, ρ p.2)) = some c' ∧ c'.size = n ∧ GoodT m c' := by
  intro ps
  induction ps with
  | nil => intro c _ hn hg; exact ⟨c, rfl, hn, hg⟩
  | cons p ps ih =>
    intro c h hn hg
    obtain ⟨i, x⟩ := p
    unfold textParts at h
    split at h
    · rename_i h1; cases h1
    · rename_i i' t rest h1
      cases h1
      simp only [Bool.and_eq_true, decide_eq_true_eq] at h
      obtain ⟨h1, h2, h3⟩ := h
      obtain ⟨c', g1, g2, g3⟩ := ih (c.setIfInBounds i (.string t)) h3 (by simpa using hn) (hg.set i t h2)
      refine ⟨c', ?_, g2, g3⟩
      rw [List.map_cons, Instr.fill]
      have e1 : (Value.string t).cells = #[.string t] := rfl
      simp only [hρ, e1, Nat.mul_one]
      rw [if_neg (by simp; omega)]
      simpa using g1
    · cases h

theorem buildTexts_run {n : Nat} {parts : Array (Nat × Value)} {c' : Array Value} (W : World) (hn0 : 1 ≤ n) (hn : n ≤ 1000) (g1 : Instr.fill (fun i => some (i * 1, 1)) ((Array.range (n * 1)).map fun _ => Value.string ⟨#[]⟩) parts.toList = some c') :
    (Instr.buildSlice 47 n parts).run Tryz.prog W = .ok (.slice (some ⟨W.heap.size, 0, none⟩) n n) (W.alloc (.cells c' 9)) := by
  have h1 : ¬ 16777216 < n := by omega
  have h2 : ¬ n = 0 := by omega
  simp only [Nat.mul_one] at g1
  unfold Instr.buildSlice
  simp [go_sem, h1, h2, Nat.mod_one, g1]

theorem sq_texts {n m : Nat} {parts : Array (Nat × Operand)} (ho : o.op = .buildSlice 47 n parts) (hn0 : 1 ≤ n) (hn : n ≤ 1000) (h : textParts n m parts.toList = true) (hR : Rd w0 r q W) :
    o.wp Tryz.prog a W (SqPost w0 r (q + Co) (.texts n m) o a W) Q := by
  have hrlt : r < W.heap.size := hR.lt.2
  obtain ⟨c', g1, g2, g3⟩ := fill_texts (ρ := a.eval) (fun _ => rfl) parts.toList ((Array.range (n * 1)).map fun _ => Value.string ⟨#[]⟩) h (by simp) (by
    intro j hj
    simp at hj
    exact ⟨⟨#[]⟩, by simp [hj], Nat.zero_le _⟩)
  have hrun := buildTexts_run (parts := parts.map fun (i, x) => (i, a.eval x)) W hn0 hn (c' := c') (by rw [Array.toList_map]; exact g1)
  unfold Oper.wp
  simp only [execOp, ho]
  simp only [Sem.run_bind, hrun, Result.andThen_ok, Sem.run_pure, Oper.upon]
  refine ⟨_, rfl, ⟨W.heap.size, rfl, by omega, fun j hj => ?_⟩, (hR.kept ((Below.refl _ _).alloc (Nat.le_refl _) _)).more (by omega), Only.of_below ((Below.refl _ _).alloc (Nat.le_refl _) _)⟩
  rw [World.cell?_alloc_new]
  exact g3 j (by omega)

theorem sq_at {x ix : Operand} {n m k : Nat} (ho : o.op = .indexAddr 47 x ix) (h1 : (Sq.texts n m).ok r (a.eval x) W) (h2 : (Sq.lt k).ok r (a.eval ix) W) (hk : k ≤ n) (hR : Rd w0 r q W) :
    o.wp Tryz.prog a W (SqPost w0 r (q + Co) (.textAt m) o a W) Q := by
  obtain ⟨b, hb, hbr, hc⟩ := h1
  obtain ⟨i, hi', i1⟩ := h2
  have e1 : (0 : Int) ≤ (i : Int) := by omega
  have e2 : (i : Int) < (n : Int) := by omega
  unfold Oper.wp
  simp only [execOp, ho]
  rw [hb, hi']
  simp [go_sem, e1, e2]
  refine ⟨.pointer (some ⟨b, i, none⟩), by rfl, ⟨b, i, rfl, hbr, hc i (by omega)⟩, hR.more (by omega), Only.refl _ _⟩

theorem sq_load {x : Operand} {m : Nat} (ho : o.op = .load 9 x) (h1 : (Sq.textAt m).ok r (a.eval x) W) (hR : Rd w0 r q W) :
    o.wp Tryz.prog a W (SqPost w0 r (q + Co) (.strLe m) o a W) Q := by
  obtain ⟨b, j, hb, hbr, t, hc, h2⟩ := h1
  unfold Oper.wp
  simp only [execOp, ho]
  rw [hb]
  simp [go_sem, hc]
  exact ⟨_, rfl, ⟨t, rfl, h2⟩, hR.more (by omega), Only.refl _ _⟩

theorem sq_cat {x y : Operand} {n m : Nat} (ho : o.op = .binOp .add 9 x y 9) (h1 : (Sq.strLe n).ok r (a.eval x) W) (h2 : (Sq.strLe m).ok r (a.eval y) W) (hnm : n + m ≤ 1000000) (hR : Rd w0 r q W) :
    o.wp Tryz.prog a W (SqPost w0 r (q + Co) (.strLe (n + m)) o a W) Q := by
  obtain ⟨s, hs, s1⟩ := h1
  obtain ⟨t, ht, t1⟩ := h2
  have hfit : ¬ 9223372036854775807 < s.size + t.size := by omega
  unfold Oper.wp
  simp only [execOp, ho]
  rw [hs, ht]
  simp [go_sem, hfit]
  exact ⟨_, rfl, ⟨s ++ t, rfl, by rw [ByteArray.size_append]; omega⟩, hR.more (by omega), Only.refl _ _⟩

theorem extract_le (s : ByteArray) (i j : Nat) : (s.extract i j).size ≤ s.size := by
  rw [ByteArray.size_extract]; omega
theorem sq_cut {x y : Operand} {s : ByteArray} {k : Nat} (ho : o.op = .slice 9 x none (some y) none) (h1 : (Sq.is (.string s)).ok r (a.eval x) W) (h2 : (Sq.is (.int .i64 k)).ok r (a.eval y) W) (hk : k ≤ s.size) (hR : Rd w0 r q W) :
    o.wp Tryz.prog a W (SqPost w0 r (q + Co) (.strLe s.size) o a W) Q := by
  have e1 : (0 : Int) ≤ (k : Int) := by omega
  have e2 : (k : Int) ≤ (s.size : Int) := by omega
  have h1' : a.eval x = .string s := h1
  have h2' : a.eval y = .int .i64 k := h2
  unfold Oper.wp
  simp only [execOp, ho, Option.map_some, Option.map_none]
  rw [h1', h2']
  simp [go_sem, e1, e2]
  exact ⟨_, rfl, ⟨_, rfl, extract_le _ _ _⟩, hR.more (by omega), Only.refl _ _⟩
theorem sq_rest {x y : Operand} {s : ByteArray} {k : Nat} (ho : o.op = .slice 9 x (some y) none none) (h1 : (Sq.is (.string s)).ok r (a.eval x) W) (h2 : (Sq.is (.int .i64 ((k : Int) + 1))).ok r (a.eval y) W) (hk : k + 1 ≤ s.size) (hR : Rd w0 r q W) :
    o.wp Tryz.prog a W (SqPost w0 r (q + Co) (.strLe s.size) o a W) Q := by
  have e1 : (0 : Int) ≤ (k : Int) + 1 := by omega
  have e2 : (k : Int) + 1 ≤ (s.size : Int) := by omega
  have h1' : a.eval x = .string s := h1
  have h2' : a.eval y = .int .i64 ((k : Int) + 1) := h2
  unfold Oper.wp
  simp only [execOp, ho, Option.map_some, Option.map_none]
  rw [h1', h2']
  simp [go_sem, e1, e2]
  exact ⟨_, rfl, ⟨_, rfl, extract_le _ _ _⟩, hR.more (by omega), Only.refl _ _⟩
theorem sq_next {x : Operand} {k : Nat} (ho : o.op = .binOp .add 3 x (.const (.int .i64 1)) 3) (h1 : (Sq.is (.int .i64 k)).ok r (a.eval x) W) (hk : k ≤ 1000000000) (hR : Rd w0 r q W) :
    o.wp Tryz.prog a W (SqPost w0 r (q + Co) (.is (.int .i64 ((k : Int) + 1))) o a W) Q := by
  have h1' : a.eval x = .int .i64 k := h1
  have e2 : a.eval (.const (.int .i64 1)) = .int .i64 1 := rfl
  unfold Oper.wp
  simp only [execOp, ho]
  rw [h1', e2]
  simp [go_sem]
  exact ⟨_, rfl, by show Value.int .i64 (IntKind.i64.wrap ((k : Int) + 1)) = _; rw [IntWalk.i64_in _ (by omega)], hR.more (by omega), Only.refl _ _⟩
end

/-- A region of such operations. -/
theorem wp_region_sq {w0 : World} {r Co M q0 : Nat} (env : Nat → Option Sq)
    {id : Nat} {ops : Array Oper} {a0 : Act} {w : World} {Q : Exit → Act → World → Prop}
    (hm : Tryz.prog.follows .mixedOrders = true) (hck : psiOk ops a0.tmps.size = true)
    (h0 : ∀ t s, env t = some s → t ∉ dsts ops → s.ok r (a0.eval (.tmp t)) w) (hR : Rd w0 r q0 w) (hq : q0 + Co * ops.size ≤ M)
    (hop : ∀ (i : Nat) (o : Oper), ops[i]? = some o → ∀ (a : Act) (W : World) (q : Nat), (∀ t s, Operand.tmp t ∈ o.op.operands → env t = some s → s.ok r (a.eval (.tmp t)) W) →
      Rd w0 r q W → q ≤ M → ∃ s, (∀ d, o.dst = some d → env d = some s) ∧ o.wp Tryz.prog a W (SqPost w0 r (q + Co) s o a W) Q)
    (hQ : ∀ (f : Nat → Value) (W : World), (∀ t s, env t = some s → s.ok r (f t) W) →
      (∀ t, t ∉ dsts ops → f t = a0.eval (.tmp t)) → Rd w0 r (q0 + Co * ops.size) W → Only r w W → Q .normal { tmps := ((List.range a0.tmps.size).map f).toArray, defers := a0.defers } W) :
    (Code.region id ops true).wp Tryz.prog Q a0 w := by
  refine wp_region_psi (q0 := q0) (Co := Co) (M := M) (fun t => (env t).map fun s => s.ok r) ?_ hm hck ?_ hR hq ?_ ?_
  · intro t p hp v W W' h hO
    obtain ⟨s, _, rfl⟩ := Option.map_eq_some_iff.1 hp
    exact Sq.ok_only h hO
  · intro t p hp hn
    obtain ⟨s, hs, rfl⟩ := Option.map_eq_some_iff.1 hp
    exact h0 t s hs hn
  · intro i o d hio hd a W q hin hold hR' hq' hO
    obtain ⟨s, hs, hw⟩ := hop i o hio a W q (fun t s ht hs => hin t _ ht (by rw [hs]; rfl)) hR' hq'
    refine Oper.wp_mono ?_ hw
    rintro a' W' ⟨v, rfl, hv, h2, h3⟩
    refine ⟨v, by rw [hd], fun p hp => ?_, h2, h3⟩
    rw [hs d hd] at hp
    cases hp
    exact hv
  · intro f W hin hold hR' hO
    exact hQ f W (fun t s hs => hin t _ (by rw [hs]; rfl)) hold hR' hO

end Go.Proofs.YtgkkoegfmhgcjaaGreatDoor
