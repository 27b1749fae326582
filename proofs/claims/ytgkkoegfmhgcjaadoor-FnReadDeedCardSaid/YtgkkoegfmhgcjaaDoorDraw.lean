/-
  The reader of the drawing functions: Rd, Only, l20Open, pick.
-/
import Derived.Test.YtgkkoegfmhgcjaaDoorList
import Derived.Test.YtgkkoegfmhgcjaaDoorMath
import Derived.WalkKit
import Derived.Lib.Hide
import Derived.Deep.QuietTactic
import Derived.BigQuiet
import Derived.RangeFuncBox
import Derived.OpenShut
import Derived.Laws.BitsAllLaws
namespace Go.Proofs.YtgkkoegfmhgcjaaDoor
open Go.RowKit

/-- A reader of a code that lay in w0, in block r, at most q numbers drawn. -/
def Rd (w0 : World) (r q : Nat) (w : World) : Prop :=
  ∃ (a : Option Addr) (len cap : Nat) (zs : List Int) (p : Nat), p ≤ q ∧ w0.heap.size ≤ r ∧ r < w.heap.size ∧
    w.cell? ⟨r, 0, none⟩ = some (.slice a len cap) ∧ w.cell? ⟨r, 1, none⟩ = some (.int .i64 p) ∧ w.frozen? ⟨r, 1, none⟩ = false ∧
    len ≤ 2000 ∧ IsRow .u8 w0 a len cap zs ∧ Below w0.heap.size w0 w

theorem Rd.below {w0 : World} {r q : Nat} {w : World} (h : Rd w0 r q w) : Below w0.heap.size w0 w := by
  obtain ⟨_, _, _, _, _, _, _, _, _, _, _, _, _, h⟩ := h; exact h

theorem Rd.le {w0 : World} {r q q' : Nat} {w : World} (h : Rd w0 r q w) (hq : q ≤ q') : Rd w0 r q' w := by
  obtain ⟨a, len, cap, zs, p, hp, h⟩ := h; exact ⟨a, len, cap, zs, p, Nat.le_trans hp hq, h⟩

theorem Rd.kept {w0 : World} {r q : Nat} {w w' : World} (h : Rd w0 r q w) (hb : Below w.heap.size w w') : Rd w0 r q w' := by
  obtain ⟨a, len, cap, zs, p, hp, h1, h2, h3, h4, h5, h6, h7, h8⟩ := h
  exact ⟨a, len, cap, zs, p, hp, h1, Nat.lt_of_lt_of_le h2 hb.size, (hb.cell (p := ⟨r, 0, none⟩) h2).trans h3, (hb.cell (p := ⟨r, 1, none⟩) h2).trans h4, (hb.frozen (p := ⟨r, 1, none⟩) h2).trans h5, h6, h7,
    h8.trans (hb.mono h8.size)⟩

theorem Rd.drew {w0 : World} {r q : Nat} {w : World} (h : Rd w0 r q w) : Rd w0 r q w.drew := h.kept ((Below.refl _ _).drew)

/-- Of what lay, only block r may have changed. -/
structure Only (r : Nat) (w w' : World) : Prop where
  size : w.heap.size ≤ w'.heap.size
  block : ∀ k, k < w.heap.size → k ≠ r → w'.heap[k]? = w.heap[k]?

theorem Only.refl (r : Nat) (w : World) : Only r w w := ⟨Nat.le_refl _, fun _ _ _ => rfl⟩
theorem Only.trans {r : Nat} {a b c : World} (h : Only r a b) (k : Only r b c) : Only r a c :=
  ⟨Nat.le_trans h.size k.size, fun i h1 h2 => (k.block i (Nat.lt_of_lt_of_le h1 h.size) h2).trans (h.block i h1 h2)⟩
theorem Only.of_below {r : Nat} {a b : World} (h : Below a.heap.size a b) : Only r a b := ⟨h.size, fun k hk _ => h.block k hk⟩
theorem Only.cell {r : Nat} {w w' : World} (h : Only r w w') {p : Addr} {v : Value} (hc : w.cell? p = some v) (hp : p.block ≠ r) : w'.cell? p = some v :=
  (World.cell?_of_block (w := w) (h.block _ (World.block_lt_of_cell? _ _ hc) hp)).trans hc
theorem Only.set (r : Nat) (w : World) (o : Nat) (v : Value) : Only r w (w.setCell ⟨r, o, none⟩ v) := ⟨by simp, fun k _ h => Below.heap_setCell _ _ _ _ (by simpa using h)⟩
theorem Only.drewN {r : Nat} {w w' : World} (h : Only r w w') (n : Nat) : Only r w (w'.drewN n) := h.trans ⟨Nat.le_refl _, fun _ _ _ => rfl⟩

def OpenPost (w0 : World) (e : Ending) (w' : World) : Prop := ∃ r, e = .returned (.pointer (some ⟨r, 0, none⟩)) ∧ Rd w0 r 0 w'

theorem rd_new {a : Option Addr} {len cap : Nat} {z : List Int} {w : World} (h : IsRow .u8 w a len cap z) (hl : len ≤ 2000) (t : TypeId) :
    Rd w w.heap.size 0 (w.alloc (.cells #[.slice a len cap, .int .i64 0] t)) :=
  ⟨a, len, cap, z, 0, Nat.le_refl _, Nat.le_refl _, by simp, by rw [World.cell?_alloc_new]; rfl, by rw [World.cell?_alloc_new]; rfl, by rw [World.frozen?_alloc_new],
    hl, h, (Below.refl _ _).alloc (Nat.le_refl _) _⟩

theorem IsRow.cut {k : IntKind} {w : World} {x : Addr} {len cap : Nat} {z : List Int} (h : IsRow k w (some x) len cap z) (n : Nat) (hn : n ≤ len) : IsRow k w (some x) n cap z := by
  rcases h with ⟨h, _⟩ | ⟨y, h0, hl, h⟩
  · cases h
  · exact .inr ⟨y, h0, Nat.le_trans hn hl, h⟩

set_option maxHeartbeats 400000 in
theorem l20Open (a : Option Addr) (len cap : Nat) (z : List Int) (w : World) (h : IsRow .u8 w a len cap z) :
    Calls Tryd.prog 9 #[.slice a len cap] w (OpenPost w) := by
  by_cases h2 : 2000 < len
  · have h' := h
    rcases h' with ⟨rfl, rfl, rfl, rfl⟩ | ⟨x, rfl, hl, hm, hz, hc⟩
    · omega
    go_enter Tryd.func9, Tryd.ntmps9
    go_wp2
    go_ret
    exact ⟨_, rfl, rd_new (h.cut 2000 (by omega)) (Nat.le_refl _) _⟩
  · go_enter Tryd.func9, Tryd.ntmps9
    go_wp2
    go_ret
    exact ⟨_, rfl, rd_new h (by omega) _⟩

def PickPost (w0 : World) (r q : Nat) (n : Int) (w : World) (e : Ending) (w' : World) : Prop :=
  ∃ x : Int, e = .returned (.int .i64 x) ∧ 0 ≤ x ∧ (1 ≤ n → x < n) ∧ Rd w0 r (q + 1) w' ∧ Only r w w'

theorem rd_step {w0 : World} {r q : Nat} {w : World} {a : Option Addr} {len cap : Nat} {zs : List Int} {p : Nat} (hp : p ≤ q) (h1 : w0.heap.size ≤ r) (h2 : r < w.heap.size)
    (h3 : w.cell? ⟨r, 0, none⟩ = some (.slice a len cap)) (h4 : w.cell? ⟨r, 1, none⟩ = some (.int .i64 p)) (h5 : w.frozen? ⟨r, 1, none⟩ = false)
    (h6 : len ≤ 2000) (h7 : IsRow .u8 w0 a len cap zs) (h8 : Below w0.heap.size w0 w) : Rd w0 r (q + 1) (w.setCell ⟨r, 1, none⟩ (.int .i64 (p + 1))) :=
  ⟨a, len, cap, zs, p + 1, by omega, h1, by simpa using h2, by rw [World.cell?_setCell_other _ _ _ _ (by simp)]; exact h3,
    by rw [World.cell?_setCell_same _ _ _ h4]; rfl, by rw [World.frozen?_setCell]; exact h5, h6, h7, h8.setCell (p := ⟨r, 1, none⟩) h1 _⟩

theorem row_at {w0 w : World} {a : Option Addr} {len cap : Nat} {zs : List Int} {r : Nat} {v : Value} (h : IsRow .u8 w0 a len cap zs) (hl : ¬ len = 0) (h1 : w0.heap.size ≤ r) (h8 : Below w0.heap.size w0 w) :
    ∃ b off, a = some ⟨b, off, none⟩ ∧ ∀ i, i < len → (w.setCell ⟨r, 1, none⟩ v).cell? ⟨b, off + i, none⟩ = some (.int .u8 (zs.getD i 0)) ∧ 0 ≤ zs.getD i 0 ∧ zs.getD i 0 ≤ 255 := by
  rcases h with ⟨_, h, _⟩ | ⟨x, rfl, hl, hm, hz, hc, hw⟩
  · exact absurd h hl
  have hc0 := hc 0 (by omega)
  obtain ⟨b, off, spot⟩ := x
  have hs : spot = none := by simpa [Addr.add] using World.cell?_spot hc0
  subst hs
  refine ⟨b, off, rfl, fun i hi => ?_⟩
  have hci := hc i (by omega)
  have hlt := World.block_lt_of_cell? _ _ hci
  have e : (⟨b, off, none⟩ : Addr).add i = ⟨b, off + i, none⟩ := by
    simp only [Addr.add]; split
    · subst i; rfl
    · rfl
  rw [e] at hci hlt
  replace hlt : b < w0.heap.size := hlt
  refine ⟨?_, ?_⟩
  · rw [World.cell?_setCell_other _ _ _ _ (by intro e; injection e; omega), h8.cell (p := ⟨b, off + i, none⟩) hlt]
    exact hci
  · have hmem : zs.getD i 0 ∈ zs := by
      rw [List.getD_eq_getElem?_getD, List.getElem?_eq_getElem (by omega)]
      exact List.getElem_mem _
    exact bounds_u8 (hw _ hmem)

theorem Rd.drewN {w0 : World} {r q : Nat} {w : World} (h : Rd w0 r q w) (k : Nat) : Rd w0 r q (w.drewN k) := h.kept ⟨rfl, rfl, rfl, Nat.le_refl _, fun _ _ => rfl⟩

theorem i64_xor_small (a b : Nat) (ha : a < 1073741824) (hb : b < 1073741824) : bits .xor .i64 (a : Int) (b : Int) = ((a ^^^ b : Nat) : Int) := by
  have hx : a ^^^ b < 2 ^ 30 := Nat.xor_lt_two_pow (by omega) (by omega)
  have h1 : (BitVec.ofInt 64 (a : Int)).toNat = a := by
    rw [BitVec.ofInt_natCast, BitVec.toNat_ofNat]; exact Nat.mod_eq_of_lt (by omega)
  have h2 : (BitVec.ofInt 64 (b : Int)).toNat = b := by
    rw [BitVec.ofInt_natCast, BitVec.toNat_ofNat]; exact Nat.mod_eq_of_lt (by omega)
  show IntKind.i64.wrap ((BitVec.ofInt 64 (a : Int) ^^^ BitVec.ofInt 64 (b : Int)).toNat : Int) = _
  rw [BitVec.toNat_xor, h1, h2]
  exact IntWalk.i64_in _ (by omega)

theorem xor_nonneg (x : Int) (h0 : 0 ≤ x) (h1 : x ≤ 100000000) : 0 ≤ bits .xor .i64 x (x / 64) := by
  obtain ⟨k, rfl⟩ := Int.eq_ofNat_of_zero_le h0
  rw [show ((k : Int) / 64) = ((k / 64 : Nat) : Int) from rfl, i64_xor_small k (k / 64) (by omega) (by omega)]
  exact Int.natCast_nonneg _

theorem fin {w0 : World} {r q : Nat} (x : Int) (w : World) (n : Int) (nq : Nat) (h0 : 0 ≤ x) (h1 : x ≤ 100000000) (hn : 1 ≤ n) (W : World) (hO : Only r W w) (hR : Rd w0 r (q + 1) w) :
    PickPost w0 r q n W (.returned (.int .i64 ((bits .xor .i64 x (x / 64)).tmod n))) (w.drewN nq) := by
  have hx := xor_nonneg x h0 h1
  refine ⟨_, rfl, ?_, fun _ => ?_, hR.drewN nq, hO.drewN nq⟩
  · rw [Int.tmod_eq_emod_of_nonneg hx]; exact Int.emod_nonneg _ (by omega)
  · rw [Int.tmod_eq_emod_of_nonneg hx]; exact Int.emod_lt_of_pos _ (by omega)

set_option maxHeartbeats 800000 in
theorem pick (w0 : World) (r q : Nat) (n : Int) (w : World) (hq : q ≤ 100000) (h : Rd w0 r q w) :
    Calls Tryd.prog 12 #[.pointer (some ⟨r, 0, none⟩), .int .i64 n] w (PickPost w0 r q n w) := by
  obtain ⟨a, len, cap, zs, p, hp, h1, h2, h3, h4, h5, h6, h7, h8⟩ := h
  have HS := Lib.hid (rd_step hp h1 h2 h3 h4 h5 h6 h7 h8)
  by_cases hn : n < 1
  · go_enter Tryd.func12, Tryd.ntmps12
    go_wp2
    go_ret
    exact ⟨0, rfl, Int.le_refl _, fun h => by omega, HS.out, Only.set _ _ _ _⟩
  · by_cases hl : len = 0
    · subst hl
      go_enter Tryd.func12, Tryd.ntmps12
      go_wp2
      go_ret
      exact ⟨0, rfl, Int.le_refl _, fun h => by omega, HS.out, Only.set _ _ _ _⟩
    · obtain ⟨b, off, rfl, hc⟩ := row_at (v := .int .i64 (p + 1)) h7 hl h1 h8
      have hne : ((len : Int) == 0) = false := by simp; omega
      by_cases hk : p < len
      · obtain ⟨c0, c1, c2⟩ := hc p hk
        clear hc h7 h8
        generalize zs.getD p 0 = x0 at *
        go_enter Tryd.func12, Tryd.ntmps12
        go_wp2
        go_ret
        exact ⟨_, rfl, Int.emod_nonneg _ (by omega), fun _ => Int.emod_lt_of_pos _ (by omega), HS.out, Only.set _ _ _ _⟩
      · obtain ⟨i0, hi0⟩ : ∃ i0, p % len = i0 := ⟨_, rfl⟩
        obtain ⟨i1, hi1⟩ : ∃ i1, (p * 7 + 3) % len = i1 := ⟨_, rfl⟩
        obtain ⟨j, hj⟩ : ∃ j, p / len = j := ⟨_, rfl⟩
        have l0 : i0 < len := hi0 ▸ Nat.mod_lt _ (by omega)
        have l1 : i1 < len := hi1 ▸ Nat.mod_lt _ (by omega)
        have lj : j ≤ p := hj ▸ Nat.div_le_self _ _
        obtain ⟨c0, c1, c2⟩ := hc i0 l0
        obtain ⟨d0, d1, d2⟩ := hc i1 l1
        clear hc h7 h8
        generalize zs.getD i0 0 = x0 at *
        generalize zs.getD i1 0 = x1 at *
        have m0 : (0 : Int) ≤ (i0 : Int) := by omega
        have m1 : (i0 : Int) < (len : Int) := by omega
        have n0 : (0 : Int) ≤ (i1 : Int) := by omega
        have n1 : (i1 : Int) < (len : Int) := by omega
        have e0 : ((p : Int)).tmod (len : Int) = (i0 : Int) := by rw [← hi0]; rfl
        have e1 : IntKind.i64.wrap ((p : Int) * 7) = (p : Int) * 7 := IntWalk.i64_in _ (by omega)
        have e2 : IntKind.i64.wrap ((p : Int) * 7 + 3) = (p : Int) * 7 + 3 := IntWalk.i64_in _ (by omega)
        have e3 : ((p : Int) * 7 + 3).tmod (len : Int) = (i1 : Int) := by rw [← hi1, show (p : Int) * 7 + 3 = ((p * 7 + 3 : Nat) : Int) from by omega]; rfl
        have e4 : IntKind.i64.wrap (x0 * 131) = x0 * 131 := IntWalk.i64_in _ (by omega)
        have e5 : IntKind.i64.wrap (x1 * 1117) = x1 * 1117 := IntWalk.i64_in _ (by omega)
        have e6 : IntKind.i64.wrap (x0 * 131 + x1 * 1117) = x0 * 131 + x1 * 1117 := IntWalk.i64_in _ (by omega)
        have e7 : IntKind.i64.wrap ((p : Int) * 29) = (p : Int) * 29 := IntWalk.i64_in _ (by omega)
        have e8 : IntKind.i64.wrap (x0 * 131 + x1 * 1117 + (p : Int) * 29) = x0 * 131 + x1 * 1117 + (p : Int) * 29 := IntWalk.i64_in _ (by omega)
        have e9 : ((p : Int)).tdiv (len : Int) = (j : Int) := by rw [← hj]; rfl
        have e10 : IntKind.i64.wrap ((j : Int) * 53) = (j : Int) * 53 := IntWalk.i64_in _ (by omega)
        have e11 : IntKind.i64.wrap (x0 * 131 + x1 * 1117 + (p : Int) * 29 + (j : Int) * 53) = x0 * 131 + x1 * 1117 + (p : Int) * 29 + (j : Int) * 53 := IntWalk.i64_in _ (by omega)
        have f0 : 0 ≤ x0 * 131 + x1 * 1117 + (p : Int) * 29 + (j : Int) * 53 := by omega
        have f1 : x0 * 131 + x1 * 1117 + (p : Int) * 29 + (j : Int) * 53 ≤ 100000000 := by omega
        clear hi0 hi1 hj
        go_enter Tryd.func12, Tryd.ntmps12
        go_wp2
        go_quiet (fail)
        go_wp2
        go_ret
        exact fin _ _ n nq f0 f1 (by omega) w (Only.set _ _ _ _) HS.out

end Go.Proofs.YtgkkoegfmhgcjaaDoor

namespace Go.Proofs.YtgkkoegfmhgcjaaDoor
open Go.RowKit

theorem Row.only {r : Nat} {w w' : World} {v : Value} {xs : List Int} (h : Row (r + 1) w v xs) (ho : Only r w w') : Row (r + 1) w' v xs := by
  rcases h with ⟨h1, h2 | ⟨g, cap, cur, hv, hg, hh, rest⟩⟩
  · exact ⟨h1, .inl h2⟩
  · exact ⟨h1, .inr ⟨g, cap, cur, hv, hg, by rw [ho.block g (lt_of_heap hh) (by omega)]; exact hh, rest⟩⟩

theorem Rd.over {w0 : World} {r q : Nat} {w w' : World} (h : Rd w0 r q w) (hb : Below (r + 1) w w') : Rd w0 r q w' := by
  obtain ⟨a, len, cap, zs, p, hp, h1, h2, h3, h4, h5, h6, h7, h8⟩ := h
  exact ⟨a, len, cap, zs, p, hp, h1, Nat.lt_of_lt_of_le h2 hb.size, (hb.cell (p := ⟨r, 0, none⟩) (by simp)).trans h3, (hb.cell (p := ⟨r, 1, none⟩) (by simp)).trans h4, (hb.frozen (p := ⟨r, 1, none⟩) (by simp)).trans h5, h6, h7,
    h8.trans (hb.mono (by omega))⟩

theorem Rd.lt {w0 : World} {r q : Nat} {w : World} (h : Rd w0 r q w) : w0.heap.size ≤ r ∧ r < w.heap.size := by
  obtain ⟨_, _, _, _, _, _, h1, h2, _⟩ := h; exact ⟨h1, h2⟩

end Go.Proofs.YtgkkoegfmhgcjaaDoor
