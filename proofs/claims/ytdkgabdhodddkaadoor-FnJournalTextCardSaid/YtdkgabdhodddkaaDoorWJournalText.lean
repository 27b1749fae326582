/-
  Chapter 12: the walk of the law of JournalText, its inputs drawn.
-/
import Derived.Test.YtdkgabdhodddkaaDoorJournalO
import Derived.Test.YtdkgabdhodddkaaDoorJournalI
import Derived.Test.YtdkgabdhodddkaaDoorDrawDeeds
import Derived.Test.YtdkgabdhodddkaaDoorArgs
namespace Go.Proofs.YtdkgabdhodddkaaDoor
open Go.RowKit Go.Shelf

theorem FnJournalText_lib {W : World} (h : laidMetH Tryd.prog Rows.fnJournalTextRow.laid W) : LibOk W := by
  rw [MakeChecks.laidMetH_plain _ _ _ (by kernel_rfl)] at h
  exact lib_of_laid h

/-- Lists of the same deeds. -/
def eqD (xs ys : List (Int × Int)) : Bool := decide (xs = ys)

set_option maxRecDepth 100000 in
set_option maxHeartbeats 2000000 in
theorem sameDeedsYes (u v : Value) (ds : List (Int × Int)) (w : World) (hu : Deeds w u ds) (hv : Deeds w v ds) (hx : ds.length ≤ 1000000000) :
    Calls Tryd.prog 17 #[u, v] w fun e w' => e = .returned (.bool true) ∧ Below w.heap.size w w' := by
  obtain ⟨a, cap, rfl, ha⟩ := hu
  obtain ⟨b, cbp, rfl, hb⟩ := hv
  have HA := Lib.hid ha
  have HB := Lib.hid hb
  clear ha hb
  go_enter Tryd.func17, Tryd.ntmps17
  go_wp2_with fail
  go_loopw [5] (fun i wr => ∃ (k n : Nat), k ≤ ds.length ∧ i = .int .i64 k ∧ wr = w.drewN n) (fun i _ => ds.length - (intOf i).toNat)
  case atStart => exact ⟨0, 0, Nat.zero_le _, rfl, rfl⟩
  case round =>
    obtain ⟨k, n, hk, rfl, rfl⟩ := hrel
    by_cases hlt : k < ds.length
    · obtain ⟨b1, o1, rfl, c1, e1⟩ := HA.out k hlt
      obtain ⟨b2, o2, rfl, c2, e2⟩ := HB.out k hlt
      have e1' : w.cell? ⟨b1, o1 + k * 2 + 1, none⟩ = some (.int .i64 (ds[k]?.getD (0, 0)).2) := e1
      have e2' : w.cell? ⟨b2, o2 + k * 2 + 1, none⟩ = some (.int .i64 (ds[k]?.getD (0, 0)).2) := e2
      clear HA HB
      generalize (ds[k]?.getD (0, 0)).1 = p at *
      generalize (ds[k]?.getD (0, 0)).2 = q at *
      have hi1 : (k : Int) < (ds.length : Int) := by omega
      go_wp2_with fail
      go_quiet (fail)
      go_wp2
      refine ⟨⟨k + 1, n + nq, by omega, by go_num, rfl⟩, by simp [intOf]; omega⟩
    · obtain rfl : k = ds.length := by omega
      clear HA HB
      go_wp2
      go_ret
      exact ⟨rfl, drewN_below _ _⟩

/-- Deeds that have texts are drawn. -/
def WrittenDraw (w0 : World) (r q : Nat) (w : World) (e : Ending) (w' : World) : Prop :=
  ∃ v ds, e = .returned v ∧ DRow w.heap.size w' v ds ∧ ds.length ≤ 6 ∧ Rd w0 r (q + 1000) w' ∧ Only r w w'

set_option maxRecDepth 100000 in
set_option maxHeartbeats 4000000 in
theorem l20Written (w0 : World) (r q : Nat) (w : World) (hR : Rd w0 r q w) (hq : q ≤ 20000) :
    Calls Tryd.prog 32 #[.pointer (some ⟨r, 0, none⟩)] w (WrittenDraw w0 r q w) := by
  obtain ⟨i0, hi0, hz0, hz1, hz2⟩ := info_parts info_deed
  have hrw : r < w.heap.size := hR.lt.2
  have r0 := drow_empty w
  have hR0 := hR.kept ((Below.refl _ w).alloc (Nat.le_refl _) (.cells #[] 24))
  have hO0 : Only r w (w.alloc (.cells #[] 24)) := Only.of_below ((Below.refl _ w).alloc (Nat.le_refl _) _)
  have hz : w.heap.size < (w.alloc (.cells #[] 24)).heap.size := by simp
  clear hR
  go_enter Tryd.func32, Tryd.ntmps32
  go_upto_region 2 with (fail)
  generalize w.alloc (.cells #[] 24) = w1 at *
  go_wp2_with fail
  refine (l20Deeds w0 r q w1 hR0 (by omega)).mono ?_
  rintro e w2 ⟨lv, ls, rfl, hl2, hlen, hR2, hO2⟩
  have r2 := Lib.hid (r0.only hrw hO2)
  have O2 := hO0.trans hO2
  have hap : ∀ g, lv.ownBlock = some g → g ≠ w.heap.size := fun g hg => by have := (hl2.ownLt hg).1; omega
  have L2 := Lib.hid (hl2.low (base' := w.heap.size) (by omega))
  obtain ⟨la, lc, rfl⟩ := hl2.shape
  clear r0 hR0 hO0 hO2 hl2
  have HAP := Lib.hid hap
  clear hap
  go_wp2_with fail
  go_loopw [3, 5] (fun o kv wr => ∃ (ds : List (Int × Int)) (k : Nat), k ≤ ls.length ∧ kv = .int .i64 k ∧ DRow w.heap.size wr o ds ∧ ds.length ≤ k ∧ DRow w.heap.size wr (.slice la ls.length lc) ls ∧ (∀ g, (Value.slice la ls.length lc).ownBlock = some g → o.ownBlock ≠ some g) ∧ Rd w0 r (q + 1000) wr ∧ Only r w wr) (fun _ k _ => ls.length - (intOf k).toNat)
  case atStart => exact ⟨[], 0, Nat.zero_le _, rfl, r2.out, by simp, L2.out, fun g hg => by have := HAP.out g hg; simp [Value.ownBlock]; omega, hR2, O2⟩
  case round =>
    clear r2 hR2 O2 L2 HAP
    obtain ⟨ds, k, hk, rfl, hr, hds, hl, hap, hR, hO⟩ := hrel
    have HR := Lib.hid hr
    have HL := Lib.hid hl
    have HAP := Lib.hid hap
    obtain ⟨av, cv, rfl⟩ := hr.shape
    have hsz := hO.size
    clear hr hap
    by_cases hlt : k < ls.length
    · obtain ⟨g, lcap, hsl, hgb, hgl, _, hcell⟩ := hl.lies (by omega)
      simp only [Value.slice.injEq, true_and] at hsl
      obtain ⟨rfl, rfl⟩ := hsl
      obtain ⟨dk, dn⟩ := hcell k hlt
      have hi : (k : Int) < (ls.length : Int) := by omega
      have HDT := Lib.hid (fun W => specDeedText (ls[k]?.getD (0, 0)).1 (ls[k]?.getD (0, 0)).2 W)
      clear hl hcell
      by_cases h0 : Pl.deedL (ls[k]?.getD (0, 0)).1 (ls[k]?.getD (0, 0)).2 = []
      · have hA : Pl.str (Pl.deedL (ls[k]?.getD (0, 0)).1 (ls[k]?.getD (0, 0)).2) = ⟨#[]⟩ := by rw [h0]; rfl
        rw [hA] at HDT
        clear h0 hA
        generalize (ls[k]?.getD (0, 0)).1 = ka at *
        generalize (ls[k]?.getD (0, 0)).2 = kb at *
        go_wp2_with fail
        refine (HDT.out _).mono ?_
        rintro e w7 ⟨rfl, b7⟩
        have R7 := Lib.hid (HR.out.below b7)
        have L7 := Lib.hid (HL.out.below b7)
        have O7 := hO.trans (Only.of_below b7)
        have D7 := hR.kept b7
        clear dk dn HR HL hR hO b7
        go_wp2_with fail
        go_roundw
        case rel => exact ⟨ds, k + 1, by omega, by go_num, R7.out, by omega, L7.out, HAP.out, D7, O7⟩
        case measure => simp [intOf]; omega
      · have hne : (Pl.str (Pl.deedL (ls[k]?.getD (0, 0)).1 (ls[k]?.getD (0, 0)).2)).toList.isEmpty = false := by
          rw [Lib.toList_data, Pl.str_data, Bool.eq_false_iff]
          intro h; exact h0 (List.isEmpty_iff.1 h)
        have hne2 : ¬ (Pl.str (Pl.deedL (ls[k]?.getD (0, 0)).1 (ls[k]?.getD (0, 0)).2)).toList = [] := by
          rw [Lib.toList_data, Pl.str_data]; exact h0
        clear h0
        generalize Pl.str (Pl.deedL (ls[k]?.getD (0, 0)).1 (ls[k]?.getD (0, 0)).2) = A at *
        generalize (ls[k]?.getD (0, 0)).1 = ka at *
        generalize (ls[k]?.getD (0, 0)).2 = kb at *
        go_wp2_with fail
        refine (HDT.out _).mono ?_
        rintro e w7 ⟨rfl, b7⟩
        have ek := (b7.cell (p := ⟨g, k * 2, none⟩) hgl).trans dk
        have en := (b7.cell (p := ⟨g, k * 2 + 1, none⟩) hgl).trans dn
        have H7 := HR.out.below b7
        have hr2 : w7.ownsRow w.heap.size 24 2 (.slice av ds.length cv) ds.length (Pl.deedCells ds) := H7
        have O7 := hO.trans (Only.of_below b7)
        have hs7 := O7.size
        have D7 := hR.kept b7
        have L7 := HL.out.below b7
        have L7a := Lib.hid (L7.below ((Below.refl _ w7).alloc (Nat.le_refl _) (.cells #[.int .i64 ka, .int .i64 kb] 24)))
        have HLT := Lib.hid (fun g' (hg : (Value.slice (some ⟨g, 0, none⟩) ls.length lc).ownBlock = some g') => (L7.ownLt hg).2)
        have HNW := Lib.hid (cell_deed_new w7 ka kb 24)
        have hb7 : Below w.heap.size w7 (w7.alloc (.cells #[.int .i64 ka, .int .i64 kb] 24)) := (Below.refl _ w7).alloc hs7 _
        clear dk dn HR HL hR hO b7 H7 HDT L7
        go_wp2_with (at_builtin; refine wpList_append_own_at _ rfl _ _ 32 rfl w.heap.size 24 i0 (.agg #[.int .i64 0, .int .i64 0]) 2 16 Tryd.underlying32 hi0 hz0 hz1 hz2 rfl (by decide) _ _ _ rfl (hr2.alloc _) ⟨w7.heap.size, 0, none⟩ 1 1 [.int .i64 ka, .int .i64 kb] rfl rfl HNW.out (by simp [Value.oneCell']) (by unfold maxLen; omega) (by omega) (by simp; omega) ?_; intro v8 w8 hown8 hgrow8 _ hat8)
        have hb8 : Below w.heap.size w7 w8 := below_append hb7 (hr2.alloc _) hgrow8 hs7
        have H8 := Lib.hid (drow_snoc hown8)
        have O8 := O7.then (Nat.le_refl _) hb8
        have D8 := D7.over (hb8.mono (by omega))
        have L8 := Lib.hid (L7a.out.grown hgrow8 HAP.out)
        have A8 : Hid (∀ g', (Value.slice (some ⟨g, 0, none⟩) ls.length lc).ownBlock = some g' → v8.ownBlock ≠ some g') := Lib.hid (fun g' hg => by
          rcases hat8 with h | h
          · rw [h]; exact HAP.out g' hg
          · rw [h]; have := HLT.out g' hg; simp; omega)
        clear hown8 hgrow8 hr2 HNW ek en hat8
        go_wp2_with fail
        go_roundw
        case rel => exact ⟨ds ++ [(ka, kb)], k + 1, by omega, by go_num, H8.out, by simp; omega, L8.out, A8.out, D8, O8⟩
        case measure => simp [intOf]; omega
    · obtain rfl : k = ls.length := by omega
      clear hl
      go_wp2_with fail
      go_ret
      exact ⟨_, ds, rfl, HR.out, by omega, hR, hO⟩

/-- A list of deeds. -/
def DeedsPost (w : World) (e : Ending) (w' : World) : Prop := ∃ v ds, e = .returned v ∧ Deeds w' v ds ∧ ds.length ≤ 7 ∧ Below w.heap.size w w'

set_option maxRecDepth 100000 in
set_option maxHeartbeats 2000000 in
theorem drawJournalText (a : Option Addr) (len cap : Nat) (z : List Int) (w : World) (h : IsRow .u8 w a len cap z) :
    Calls Tryd.prog 13 #[.slice a len cap] w (DeedsPost w) := by
  obtain ⟨i0, hi0, hz0, hz1, hz2⟩ := info_parts info_deed
  go_enter Tryd.func13, Tryd.ntmps13
  go_wp2_with fail
  refine (l20Open _ _ _ _ _ h).mono ?_
  rintro e w1 ⟨r, rfl, hr⟩
  have hlt := hr.lt
  clear h
  go_wp2_with fail
  refine (l20Written w r 0 w1 hr (by omega)).mono ?_
  rintro e w2 ⟨v, ds, rfl, hd, hlen, hr2, hO2⟩
  have hs2 := hO2.size
  clear hr
  go_wp2_with fail
  refine (odd w r _ 12 w2 hr2 (by omega) (by omega) (by omega)).mono ?_
  rintro e w3 ⟨bb, rfl, hr3, hO3⟩
  have h3 := hd.only hlt.2 hO3
  have hs3 := hO3.size
  have b3 := hr3.below
  clear hd hr2 hO2 hO3
  cases bb with
  | true =>
    obtain ⟨av, cv, rfl⟩ := h3.shape
    have hr2 : w3.ownsRow w1.heap.size 24 2 (.slice av ds.length cv) ds.length (Pl.deedCells ds) := h3
    have HNW := Lib.hid (cell_deed_new w3 9 0 24)
    have hb4 : Below w.heap.size w (w3.alloc (.cells #[.int .i64 9, .int .i64 0] 24)) := b3.alloc b3.size _
    clear h3
    go_wp2_with (at_builtin; refine wpList_append_own _ rfl _ _ 32 rfl w1.heap.size 24 i0 (.agg #[.int .i64 0, .int .i64 0]) 2 16 Tryd.underlying32 hi0 hz0 hz1 hz2 rfl (by decide) _ _ _ rfl (hr2.alloc _) ⟨w3.heap.size, 0, none⟩ 1 1 [.int .i64 9, .int .i64 0] rfl rfl HNW.out (by simp [Value.oneCell']) (by unfold maxLen; omega) (by omega) (by simp; omega) ?_; intro v8 w8 hown8 hgrow8 _)
    have hb8 : Below w.heap.size w w8 := hb4.grown hgrow8 hb4.size fun k e => Nat.le_trans (by omega) (hr2.lt k e).1
    have H8 := Lib.hid (drow_snoc hown8)
    clear hown8 hgrow8 hr2 HNW
    go_wp2_with fail
    go_ret
    exact ⟨_, ds ++ [(9, 0)], rfl, H8.out.deeds, by simp; omega, hb8⟩
  | false =>
    have H3 := Lib.hid h3
    clear h3
    go_wp2_with fail
    go_ret
    exact ⟨_, ds, rfl, H3.out.deeds, by omega, b3⟩

set_option maxRecDepth 100000 in
set_option maxHeartbeats 2000000 in
theorem FnJournalText_walk (a0 : Option Addr) (len0 cap0 : Nat) (z0 : List Int) (w : World) (w0 : IsRow .u8 w a0 len0 cap0 z0) (hL : LibOk w) :
    Calls Tryd.prog 5 #[.slice a0 len0 cap0] w fun e w' => e = .returned (.bool true) ∧ Below w.heap.size w w' := by
  by_cases hl : 1048576 < len0
  · go_enter Tryd.func5, Tryd.ntmps5
    go_wp2
    go_ret
    exact ⟨rfl, Below.refl _ _⟩
  · have HL := Lib.hid hL
    clear hL
    go_enter Tryd.func5, Tryd.ntmps5
    go_wp2_with fail
    refine (drawJournalText _ _ _ _ _ w0).mono ?_
    rintro e w1 ⟨v, ds, rfl, hd, hlen, hb1⟩
    clear w0
    have HD := Lib.hid hd
    clear hd
    go_wp2_with fail
    refine (implJournalText v ds w1 HD.out (by omega) (HL.out.below hb1).tab).mono ?_
    rintro e w2 ⟨rfl, b2⟩
    have D2 := Lib.hid (HD.out.below b2)
    have c2 := hb1.trans (b2.mono hb1.size)
    clear b2 hb1 HD
    by_cases h0 : Pl.journalL ds = []
    · have HS := Lib.hid (specJournalText v ds w2 D2.out (by omega))
      rw [h0] at HS
      rw [h0]
      have e0 : Pl.str [] = ⟨#[]⟩ := rfl
      rw [e0] at HS
      rw [e0]
      go_wp2_with fail
      refine HS.out.mono ?_
      rintro e w3 ⟨rfl, b3⟩
      have c3 := c2.trans (b3.mono c2.size)
      clear b3 c2
      go_wp2_with (go_at_call 9; refine (alive _).mono ?_; rintro e w' ⟨rfl, rfl⟩)
      go_ret
      exact ⟨rfl, c3⟩
    · have ht : Pl.toldB ds = true := by
        cases ht : Pl.toldB ds with
        | true => rfl
        | false => exact absurd (by rw [Pl.journalL, if_neg (by rw [ht]; decide)]) h0
      have hj : Pl.journalL ds = Pl.textL ds := by rw [Pl.journalL, if_pos ht]
      have hR := Pl.rjA_text ht
      have hlen2 := Pl.textL_len ds
      have HS := Lib.hid (specJournalText v ds w2 D2.out (by omega))
      rw [hj] at HS h0
      rw [hj]
      have HR := Lib.hid (fun W (h : LibOk W) => implReadJournal (Pl.str (Pl.textL ds)) (by rw [Pl.str_size]; omega) W h)
      rw [show (Pl.str (Pl.textL ds)).data.toList = Pl.textL ds from rfl, hR] at HR
      have hne : (Pl.str (Pl.textL ds)).toList.isEmpty = false := by
        rw [Lib.toList_data, Pl.str_data, Bool.eq_false_iff]
        intro h; exact h0 (List.isEmpty_iff.1 h)
      have hne2 : ¬ (Pl.str (Pl.textL ds)).toList = [] := by
        rw [Lib.toList_data, Pl.str_data]; exact h0
      have hsz : (Pl.str (Pl.textL ds)).size = (Pl.textL ds).length := Pl.str_size _
      clear h0 hj hR ht hlen2
      generalize (Pl.textL ds).length = T at *
      generalize Pl.str (Pl.textL ds) = A at *
      have hszi : (A.size : Int) = (T : Int) := by rw [hsz]
      go_wp2_with fail
      refine HS.out.mono ?_
      rintro e w3 ⟨rfl, b3⟩
      have c3 := c2.trans (b3.mono c2.size)
      have D3 := Lib.hid (D2.out.below b3)
      clear b3 c2 HS
      go_wp2_with fail
      refine (HR.out _ (HL.out.below c3)).mono ?_
      rintro e w4 ⟨v4, rfl, r4, b4⟩
      have c4 := c3.trans (b4.mono c3.size)
      have D4 := Lib.hid (D3.out.below b4)
      have R4 := Lib.hid r4
      clear b4 c3 HR r4
      go_wp2_with fail
      refine (sameDeedsYes _ _ ds w4 R4.out.deeds D4.out (by omega)).mono ?_
      rintro e w5 ⟨rfl, b5⟩
      have c5 := c4.trans (b5.mono c4.size)
      clear b5 c4
      go_wp2
      go_ret
      exact ⟨rfl, c5⟩

end Go.Proofs.YtdkgabdhodddkaaDoor
