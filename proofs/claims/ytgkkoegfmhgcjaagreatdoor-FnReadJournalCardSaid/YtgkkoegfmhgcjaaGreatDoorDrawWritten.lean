/-
  Lists of deeds compared; deeds that have texts are drawn.
-/
import Derived.Test.YtgkkoegfmhgcjaaGreatDoorGLib
import Derived.Test.YtgkkoegfmhgcjaaGreatDoorGDraw
import Derived.Test.YtgkkoegfmhgcjaaGreatDoorGText
namespace Go.Proofs.YtgkkoegfmhgcjaaGreatDoor
open Go.RowKit Go.Shelf

set_option maxRecDepth 100000 in
set_option maxHeartbeats 2000000 in
theorem sameDeedsYes (u v : Value) (ds : List (Int × Int)) (w : World) (hu : Deeds w u ds) (hv : Deeds w v ds) (hx : ds.length ≤ 1000000000) :
    Calls Tryz.prog 11 #[u, v] w fun e w' => e = .returned (.bool true) ∧ Below w.heap.size w w' := by
  obtain ⟨a, cap, rfl, ha⟩ := hu
  obtain ⟨b, cbp, rfl, hb⟩ := hv
  have HA := Lib.hid ha
  have HB := Lib.hid hb
  clear ha hb
  go_enter Tryz.func11, Tryz.ntmps11
  go_wp2_with fail
  go_loopw [5] (fun i wr => ∃ (k n : Nat), k ≤ ds.length ∧ i = .int .i64 k ∧ wr = w.drewN n) (fun i _ => ds.length - (intOf i).toNat)
  case atStart => exact ⟨0, 0, Nat.zero_le _, rfl, rfl⟩
  case round =>
    obtain ⟨k, n, hk, rfl, rfl⟩ := hrel
    by_cases hlt : k < ds.length
    · obtain ⟨b1, o1, rfl, c1, e1⟩ := HA.out k hlt
      obtain ⟨b2, o2, rfl, c2, e2⟩ := HB.out k hlt
      have e1' : w.cell? ⟨b1, o1 + k * 2 + 1, none⟩ = some (.int .i64 (ds[k]?.getD (0, 0)).2) := e1
      have e2' : w.cell? ⟨b2, o2 + k * 2 + 1, none⟩ = some (.int .i64 (ds[k]?.getD (0, 0)).2) := e2
      clear HA HB
      generalize (ds[k]?.getD (0, 0)).1 = p at *
      generalize (ds[k]?.getD (0, 0)).2 = q at *
      have hi1 : (k : Int) < (ds.length : Int) := by omega
      go_wp2_with fail
      go_quiet (fail)
      go_wp2
      refine ⟨⟨k + 1, n + nq, by omega, by go_num, rfl⟩, by simp [intOf]; omega⟩
    · obtain rfl : k = ds.length := by omega
      clear HA HB
      go_wp2
      go_ret
      exact ⟨rfl, drewN_below _ _⟩

/-- Deeds that have texts are drawn. -/
def WrittenDraw (w0 : World) (r q : Nat) (w : World) (e : Ending) (w' : World) : Prop :=
  ∃ v ds, e = .returned v ∧ DRow w.heap.size w' v ds ∧ ds.length ≤ 6 ∧ Rd w0 r (q + 1000) w' ∧ Only r w w'

set_option maxRecDepth 100000 in
set_option maxHeartbeats 4000000 in
theorem l20Written (w0 : World) (r q : Nat) (w : World) (hR : Rd w0 r q w) (hq : q ≤ 20000) :
    Calls Tryz.prog 40 #[.pointer (some ⟨r, 0, none⟩)] w (WrittenDraw w0 r q w) := by
  obtain ⟨i0, hi0, hz0, hz1, hz2⟩ := info_parts info_deed
  have hrw : r < w.heap.size := hR.lt.2
  have r0 := drow_empty w
  have hR0 := hR.kept ((Below.refl _ w).alloc (Nat.le_refl _) (.cells #[] 38))
  have hO0 : Only r w (w.alloc (.cells #[] 38)) := Only.of_below ((Below.refl _ w).alloc (Nat.le_refl _) _)
  have hz : w.heap.size < (w.alloc (.cells #[] 38)).heap.size := by simp
  clear hR
  go_enter Tryz.func40, Tryz.ntmps40
  go_upto_region 2 with (fail)
  generalize w.alloc (.cells #[] 38) = w1 at *
  go_wp2_with fail
  refine (l20Deeds w0 r q w1 hR0 (by omega)).mono ?_
  rintro e w2 ⟨lv, ls, rfl, hl2, hlen, hR2, hO2⟩
  have r2 := Lib.hid (r0.only hrw hO2)
  have O2 := hO0.trans hO2
  have hap : ∀ g, lv.ownBlock = some g → g ≠ w.heap.size := fun g hg => by have := (hl2.ownLt hg).1; omega
  have L2 := Lib.hid (hl2.low (base' := w.heap.size) (by omega))
  obtain ⟨la, lc, rfl⟩ := hl2.shape
  clear r0 hR0 hO0 hO2 hl2
  have HAP := Lib.hid hap
  clear hap
  go_wp2_with fail
  go_loopw [3, 5] (fun o kv wr => ∃ (ds : List (Int × Int)) (k : Nat), k ≤ ls.length ∧ kv = .int .i64 k ∧ DRow w.heap.size wr o ds ∧ ds.length ≤ k ∧ DRow w.heap.size wr (.slice la ls.length lc) ls ∧ (∀ g, (Value.slice la ls.length lc).ownBlock = some g → o.ownBlock ≠ some g) ∧ Rd w0 r (q + 1000) wr ∧ Only r w wr) (fun _ k _ => ls.length - (intOf k).toNat)
  case atStart => exact ⟨[], 0, Nat.zero_le _, rfl, r2.out, by simp, L2.out, fun g hg => by have := HAP.out g hg; simp [Value.ownBlock]; omega, hR2, O2⟩
  case round =>
    clear r2 hR2 O2 L2 HAP
    obtain ⟨ds, k, hk, rfl, hr, hds, hl, hap, hR, hO⟩ := hrel
    have HR := Lib.hid hr
    have HL := Lib.hid hl
    have HAP := Lib.hid hap
    obtain ⟨av, cv, rfl⟩ := hr.shape
    have hsz := hO.size
    clear hr hap
    by_cases hlt : k < ls.length
    · obtain ⟨g, lcap, hsl, hgb, hgl, _, hcell⟩ := hl.lies (by omega)
      simp only [Value.slice.injEq, true_and] at hsl
      obtain ⟨rfl, rfl⟩ := hsl
      obtain ⟨dk, dn⟩ := hcell k hlt
      have hi : (k : Int) < (ls.length : Int) := by omega
      have HDT := Lib.hid (fun W => specDeedText (ls[k]?.getD (0, 0)).1 (ls[k]?.getD (0, 0)).2 W)
      clear hl hcell
      by_cases h0 : Pl.deedL (ls[k]?.getD (0, 0)).1 (ls[k]?.getD (0, 0)).2 = []
      · have hA : Pl.str (Pl.deedL (ls[k]?.getD (0, 0)).1 (ls[k]?.getD (0, 0)).2) = ⟨#[]⟩ := by rw [h0]; rfl
        rw [hA] at HDT
        clear h0 hA
        generalize (ls[k]?.getD (0, 0)).1 = ka at *
        generalize (ls[k]?.getD (0, 0)).2 = kb at *
        go_wp2_with fail
        refine (HDT.out _).mono ?_
        rintro e w7 ⟨rfl, b7⟩
        have R7 := Lib.hid (HR.out.below b7)
        have L7 := Lib.hid (HL.out.below b7)
        have O7 := hO.trans (Only.of_below b7)
        have D7 := hR.kept b7
        clear dk dn HR HL hR hO b7
        go_wp2_with fail
        go_roundw
        case rel => exact ⟨ds, k + 1, by omega, by go_num, R7.out, by omega, L7.out, HAP.out, D7, O7⟩
        case measure => simp [intOf]; omega
      · have hne : (Pl.str (Pl.deedL (ls[k]?.getD (0, 0)).1 (ls[k]?.getD (0, 0)).2)).toList.isEmpty = false := by
          rw [Lib.toList_data, Pl.str_data, Bool.eq_false_iff]
          intro h; exact h0 (List.isEmpty_iff.1 h)
        have hne2 : ¬ (Pl.str (Pl.deedL (ls[k]?.getD (0, 0)).1 (ls[k]?.getD (0, 0)).2)).toList = [] := by
          rw [Lib.toList_data, Pl.str_data]; exact h0
        clear h0
        generalize Pl.str (Pl.deedL (ls[k]?.getD (0, 0)).1 (ls[k]?.getD (0, 0)).2) = A at *
        generalize (ls[k]?.getD (0, 0)).1 = ka at *
        generalize (ls[k]?.getD (0, 0)).2 = kb at *
        go_wp2_with fail
        refine (HDT.out _).mono ?_
        rintro e w7 ⟨rfl, b7⟩
        have ek := (b7.cell (p := ⟨g, k * 2, none⟩) hgl).trans dk
        have en := (b7.cell (p := ⟨g, k * 2 + 1, none⟩) hgl).trans dn
        have H7 := HR.out.below b7
        have hr2 : w7.ownsRow w.heap.size 38 2 (.slice av ds.length cv) ds.length (Pl.deedCells ds) := H7
        have O7 := hO.trans (Only.of_below b7)
        have hs7 := O7.size
        have D7 := hR.kept b7
        have L7 := HL.out.below b7
        have L7a := Lib.hid (L7.below ((Below.refl _ w7).alloc (Nat.le_refl _) (.cells #[.int .i64 ka, .int .i64 kb] 38)))
        have HLT := Lib.hid (fun g' (hg : (Value.slice (some ⟨g, 0, none⟩) ls.length lc).ownBlock = some g') => (L7.ownLt hg).2)
        have HNW := Lib.hid (cell_deed_new w7 ka kb 38)
        have hb7 : Below w.heap.size w7 (w7.alloc (.cells #[.int .i64 ka, .int .i64 kb] 38)) := (Below.refl _ w7).alloc hs7 _
        clear dk dn HR HL hR hO b7 H7 HDT L7
        go_wp2_with (at_builtin; refine wpList_append_own_at _ rfl _ _ 24 rfl w.heap.size 38 i0 (.agg #[.int .i64 0, .int .i64 0]) 2 16 Tryz.underlying24 hi0 hz0 hz1 hz2 rfl (by decide) _ _ _ rfl (hr2.alloc _) ⟨w7.heap.size, 0, none⟩ 1 1 [.int .i64 ka, .int .i64 kb] rfl rfl HNW.out (by simp [Value.oneCell']) (by unfold maxLen; omega) (by omega) (by simp; omega) ?_; intro v8 w8 hown8 hgrow8 _ hat8)
        have hb8 : Below w.heap.size w7 w8 := below_append hb7 (hr2.alloc _) hgrow8 hs7
        have H8 := Lib.hid (drow_snoc hown8)
        have O8 := O7.then (Nat.le_refl _) hb8
        have D8 := D7.over (hb8.mono (by omega))
        have L8 := Lib.hid (L7a.out.grown hgrow8 HAP.out)
        have A8 : Hid (∀ g', (Value.slice (some ⟨g, 0, none⟩) ls.length lc).ownBlock = some g' → v8.ownBlock ≠ some g') := Lib.hid (fun g' hg => by
          rcases hat8 with h | h
          · rw [h]; exact HAP.out g' hg
          · rw [h]; have := HLT.out g' hg; simp; omega)
        clear hown8 hgrow8 hr2 HNW ek en hat8
        go_wp2_with fail
        go_roundw
        case rel => exact ⟨ds ++ [(ka, kb)], k + 1, by omega, by go_num, H8.out, by simp; omega, L8.out, A8.out, D8, O8⟩
        case measure => simp [intOf]; omega
    · obtain rfl : k = ls.length := by omega
      clear hl
      go_wp2_with fail
      go_ret
      exact ⟨_, ds, rfl, HR.out, by omega, hR, hO⟩

end Go.Proofs.YtgkkoegfmhgcjaaGreatDoor
