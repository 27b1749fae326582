/-
  Deeds drawn; those that have texts.
-/
import Derived.Maps.AppendAt
import Derived.Test.YtakkjlcnfkklpaaDrawDeed
namespace Go.Proofs.Ytakkjlcnfkklpaa
open Go.RowKit Go.Shelf

theorem DRow.only {B r : Nat} {w w' : World} {v : Value} {ds : List (Int × Int)} (h : DRow B w v ds) (hr : r < B) (ho : Only r w w') : DRow B w' v ds := by
  rcases h with ⟨h1, h2 | ⟨g, cap, cur, hv, hg, hh, rest⟩⟩
  · exact ⟨h1, .inl h2⟩
  · exact ⟨h1, .inr ⟨g, cap, cur, hv, hg, by rw [ho.block g (lt_of_heap hh) (by omega)]; exact hh, rest⟩⟩
theorem DRow.grown {base : Nat} {w w' : World} {u : Value} {ds : List (Int × Int)} {row : Option Nat} (h : DRow base w u ds) (hg : w.grownBy w' row) (hne : ∀ g, u.ownBlock = some g → row ≠ some g) : DRow base w' u ds := by
  rcases h with ⟨h1, h2 | ⟨g, cap, cur, rfl, hb, hh, rest⟩⟩
  · exact ⟨h1, .inl h2⟩
  · exact ⟨h1, .inr ⟨g, cap, cur, rfl, hb, (hg.block g (lt_of_heap hh) (fun e => hne g rfl e.symm)).trans hh, rest⟩⟩
theorem DRow.ownLt {base : Nat} {w : World} {u : Value} {ds : List (Int × Int)} (h : DRow base w u ds) {g : Nat} (hg : u.ownBlock = some g) : base ≤ g ∧ g < w.heap.size := by
  rcases h with ⟨_, ⟨rfl, _⟩ | ⟨g', cap, cur, rfl, hb, hh, _⟩⟩
  · cases hg
  · obtain rfl : g' = g := by injection hg
    exact ⟨hb, lt_of_heap hh⟩
theorem DRow.low {base base' : Nat} {w : World} {v : Value} {ds : List (Int × Int)} (h : DRow base w v ds) (hb : base' ≤ base) : DRow base' w v ds := by
  rcases h with ⟨h1, h2 | ⟨g, cap, cur, hv, hg, r⟩⟩
  · exact ⟨h1, .inl h2⟩
  · exact ⟨h1, .inr ⟨g, cap, cur, hv, Nat.le_trans hb hg, r⟩⟩
theorem Only.then {B r : Nat} {w a b : World} (h : Only r w a) (hB : w.heap.size ≤ B) (hb : Below B a b) : Only r w b :=
  ⟨Nat.le_trans h.size hb.size, fun k hk hr => (hb.block k (by omega)).trans (h.block k hk hr)⟩

/-- Deeds are drawn. -/
def DeedsDraw (w0 : World) (r q : Nat) (w : World) (e : Ending) (w' : World) : Prop :=
  ∃ v ds, e = .returned v ∧ DRow w.heap.size w' v ds ∧ ds.length ≤ 6 ∧ Rd w0 r (q + 1000) w' ∧ Only r w w'

set_option maxRecDepth 100000 in
set_option maxHeartbeats 4000000 in
theorem l20Deeds (w0 : World) (r q : Nat) (w : World) (hR : Rd w0 r q w) (hq : q ≤ 30000) :
    Calls Try.prog 54 #[.pointer (some ⟨r, 0, none⟩)] w (DeedsDraw w0 r q w) := by
  obtain ⟨i0, hi0, hz0, hz1, hz2⟩ := info_parts info_deed
  have hrw : r < w.heap.size := hR.lt.2
  have r0 := drow_empty w
  have hR0 := hR.kept ((Below.refl _ w).alloc (Nat.le_refl _) (.cells #[] 36))
  have hO0 : Only r w (w.alloc (.cells #[] 36)) := Only.of_below ((Below.refl _ w).alloc (Nat.le_refl _) _)
  clear hR
  go_enter Try.func54, Try.ntmps54
  go_upto_region 2 with (fail)
  generalize w.alloc (.cells #[] 36) = w1 at *
  go_wp2_with fail
  refine (pick w0 r q 6 _ (by omega) hR0).mono ?_
  rintro e w2 ⟨x, rfl, x0, x1, hR2, hO2⟩
  have x6 := x1 (by omega)
  have r2 := Lib.hid (r0.only hrw hO2)
  have O2 := hO0.trans hO2
  clear r0 hR0 hO0 hO2 x1
  obtain ⟨X, rfl⟩ := Int.eq_ofNat_of_zero_le x0
  go_wp2_with fail
  go_loopw [3, 4] (fun o k wr => ∃ (ds : List (Int × Int)) (j : Nat), j ≤ 5 ∧ k = .int .i64 j ∧ DRow w.heap.size wr o ds ∧ ds.length + j ≤ 6 ∧ Rd w0 r (q + 1000 - 100 * j) wr ∧ Only r w wr) (fun _ k _ => (intOf k).toNat)
  case atStart => exact ⟨[], X, by omega, rfl, r2.out, by simp; omega, hR2.le (by omega), O2⟩
  case round =>
    clear r2 hR2 O2
    obtain ⟨ds, j, hj, rfl, hr, hxs, hR, hO⟩ := hrel
    have HR := Lib.hid hr
    obtain ⟨av, cv, rfl⟩ := hr.shape
    have hsz := hO.size
    clear hr
    by_cases hpos : 0 < j
    · have hi : (0 : Int) < (j : Int) := by omega
      go_wp2_with fail
      refine (l20Deed w0 r _ wr hR (by omega)).mono ?_
      rintro e w4 ⟨dk, dn, rfl, hR4, hO4⟩
      have H4 := HR.out.only hrw hO4
      have hr2 : w4.ownsRow w.heap.size 36 2 (.slice av ds.length cv) ds.length (Pl.deedCells ds) := H4
      have O4 := hO.trans hO4
      have hs4 := O4.size
      have HNW := Lib.hid (cell_deed_new w4 dk dn 36)
      have hb4 : Below w.heap.size w4 (w4.alloc (.cells #[.int .i64 dk, .int .i64 dn] 36)) := (Below.refl _ w4).alloc hs4 _
      clear hR HR hO hO4 H4
      go_wp2_with (at_builtin; refine wpList_append_own _ rfl _ _ 41 rfl w.heap.size 36 i0 (.agg #[.int .i64 0, .int .i64 0]) 2 16 Try.underlying41 hi0 hz0 hz1 hz2 rfl (by decide) _ _ _ rfl (hr2.alloc _) ⟨w4.heap.size, 0, none⟩ 1 1 [.int .i64 dk, .int .i64 dn] rfl rfl HNW.out (by simp [Value.oneCell']) (by unfold maxLen; omega) (by omega) (by simp; omega) ?_; intro v8 w8 hown8 hgrow8 _)
      have hb8 : Below w.heap.size w4 w8 := below_append hb4 (hr2.alloc _) hgrow8 hs4
      have H8 := Lib.hid (drow_snoc hown8)
      have O8 := O4.then (Nat.le_refl _) hb8
      have R8 := hR4.over (hb8.mono (by omega))
      clear hown8 hgrow8 hr2 HNW
      go_wp2_with fail
      go_roundw
      case rel => exact ⟨ds ++ [(dk, dn)], j - 1, by omega, by rw [show ((j - 1 : Nat) : Int) = (j : Int) - 1 from by omega], H8.out, by simp; omega, R8.le (by omega), O8⟩
      case measure => simp [intOf]; omega
    · obtain rfl : j = 0 := by omega
      go_wp2_with fail
      go_ret
      exact ⟨_, ds, rfl, HR.out, by omega, hR.le (by omega), hO⟩

end Go.Proofs.Ytakkjlcnfkklpaa
