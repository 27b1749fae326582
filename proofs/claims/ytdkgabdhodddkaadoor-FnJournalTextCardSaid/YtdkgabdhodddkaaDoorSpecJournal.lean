/-
  spec.JournalText, spec.ReadJournal: deeds, line by line.
-/
import Derived.Test.YtdkgabdhodddkaaDoorSpecRead
namespace Go.Proofs.YtdkgabdhodddkaaDoor
open Go.RowKit Go.Shelf

namespace Pl
theorem str_eq (a : List UInt8) (s : ByteArray) : ((str a).toList == s.toList) = (a == s.data.toList) := by
  rw [Lib.toList_data, Lib.toList_data]; rfl
theorem journal_take {ds : List (Int × Int)} {k : Nat} (h : k < ds.length) (ht : toldB (ds.take k) = true) (h1 : deedL (ds[k]?.getD (0, 0)).1 (ds[k]?.getD (0, 0)).2 ≠ []) :
    toldB (ds.take (k + 1)) = true ∧ textL (ds.take (k + 1)) = textL (ds.take k) ++ (deedL (ds[k]?.getD (0, 0)).1 (ds[k]?.getD (0, 0)).2 ++ [10]) := by
  rw [List.getElem?_eq_getElem h, Option.getD_some] at h1 ⊢
  rw [List.take_succ_eq_append_getElem h, textL_snoc]
  refine ⟨?_, rfl⟩
  unfold toldB at *
  rw [List.all_append, ht]
  simpa using h1
theorem journal_not {ds : List (Int × Int)} {k : Nat} (h : k < ds.length) (h1 : deedL (ds[k]?.getD (0, 0)).1 (ds[k]?.getD (0, 0)).2 = []) : journalL ds = [] := by
  rw [List.getElem?_eq_getElem h, Option.getD_some] at h1
  unfold journalL
  rw [if_neg]
  intro ht
  have := List.all_eq_true.1 ht _ (List.getElem_mem h)
  rw [h1] at this; simp at this
end Pl

set_option maxRecDepth 100000 in
set_option maxHeartbeats 2000000 in
theorem specJournalText (v : Value) (ds : List (Int × Int)) (w : World) (hv : Deeds w v ds) (hx : ds.length ≤ 10000000) :
    Calls Tryd.prog 15 #[v] w fun e w' => e = .returned (.string (Pl.str (Pl.journalL ds))) ∧ Below w.heap.size w w' := by
  obtain ⟨a, cap, rfl, hc⟩ := hv
  have HC := Lib.hid hc
  clear hc
  obtain ⟨R, hR⟩ : ∃ R, Pl.str (Pl.journalL ds) = R := ⟨_, rfl⟩
  rw [hR]
  have HRR := Lib.hid hR
  clear hR
  go_enter Tryd.func15, Tryd.ntmps15
  go_wp2_with fail
  go_loopw [3, 4] (fun ov kv wr => ∃ k : Nat, k ≤ ds.length ∧ ov = .string (Pl.str (Pl.textL (ds.take k))) ∧ kv = .int .i64 k ∧ Pl.toldB (ds.take k) = true ∧ Below w.heap.size w wr) (fun _ kv _ => ds.length - (intOf kv).toNat)
  case atStart => exact ⟨0, Nat.zero_le _, rfl, rfl, rfl, Below.refl _ _⟩
  case round =>
    obtain ⟨k, hk, rfl, rfl, ht, hbw⟩ := hrel
    have hsz := hbw.size
    by_cases hlt : k < ds.length
    · obtain ⟨b, off, rfl, ck, cn⟩ := HC.out k hlt
      have hbb : b < w.heap.size := World.block_lt_of_cell? _ _ ck
      have dk := (hbw.cell (p := ⟨b, off + k * 2, none⟩) hbb).trans ck
      have dn := (hbw.cell (p := ⟨b, off + (k * 2 + 1), none⟩) hbb).trans cn
      have dn' : wr.cell? ⟨b, off + k * 2 + 1, none⟩ = some (.int .i64 (ds[k]?.getD (0, 0)).2) := dn
      have hi : (k : Int) < (ds.length : Int) := by omega
      have HDT := Lib.hid (fun W => specDeedText (ds[k]?.getD (0, 0)).1 (ds[k]?.getD (0, 0)).2 W)
      clear ck cn
      by_cases h0 : Pl.deedL (ds[k]?.getD (0, 0)).1 (ds[k]?.getD (0, 0)).2 = []
      · have HR : Hid (R = ⟨#[]⟩) := Lib.hid (by rw [← HRR.out, Pl.journal_not hlt h0]; rfl)
        have hA : Pl.str (Pl.deedL (ds[k]?.getD (0, 0)).1 (ds[k]?.getD (0, 0)).2) = ⟨#[]⟩ := by rw [h0]; rfl
        rw [hA] at HDT
        clear h0 hA ht
        generalize (ds[k]?.getD (0, 0)).1 = ka at *
        generalize (ds[k]?.getD (0, 0)).2 = kb at *
        go_wp2_with fail
        refine (HDT.out _).mono ?_
        rintro e w7 ⟨rfl, b7⟩
        go_wp2_with fail
        go_ret
        exact ⟨ret_str HR.out.symm, hbw.trans (b7.mono hsz)⟩
      · obtain ⟨j1, j2⟩ := Pl.journal_take hlt ht h0
        have J1 := Lib.hid j1
        have hfit1 : ¬ 9223372036854775807 < (Pl.str (Pl.textL (ds.take k))).size + (Pl.str (Pl.deedL (ds[k]?.getD (0, 0)).1 (ds[k]?.getD (0, 0)).2)).size := by
          have h1 := Pl.textL_len (ds.take k)
          have h2 := Pl.deedL_len (ds[k]?.getD (0, 0)).1 (ds[k]?.getD (0, 0)).2
          rw [Pl.str_size, Pl.str_size]
          rw [List.length_take] at h1; omega
        have hfit2 : ¬ 9223372036854775807 < (Pl.str (Pl.textL (ds.take k))).size + (Pl.str (Pl.deedL (ds[k]?.getD (0, 0)).1 (ds[k]?.getD (0, 0)).2)).size + 1 := by
          have h1 := Pl.textL_len (ds.take k)
          have h2 := Pl.deedL_len (ds[k]?.getD (0, 0)).1 (ds[k]?.getD (0, 0)).2
          rw [Pl.str_size, Pl.str_size]
          rw [List.length_take] at h1; omega
        have J2 : Hid (Pl.str (Pl.textL (ds.take k)) ++ Pl.str (Pl.deedL (ds[k]?.getD (0, 0)).1 (ds[k]?.getD (0, 0)).2) ++ ⟨#[10]⟩ = Pl.str (Pl.textL (ds.take (k + 1)))) := Lib.hid (by
          rw [j2, Pl.str_add, show (⟨#[10]⟩ : ByteArray) = Pl.str [10] from rfl, Pl.str_add, List.append_assoc])
        have hne : (Pl.str (Pl.deedL (ds[k]?.getD (0, 0)).1 (ds[k]?.getD (0, 0)).2)).toList.isEmpty = false := by
          rw [Lib.toList_data, Pl.str_data, Bool.eq_false_iff]
          intro h; exact h0 (List.isEmpty_iff.1 h)
        have hne2 : ¬ (Pl.str (Pl.deedL (ds[k]?.getD (0, 0)).1 (ds[k]?.getD (0, 0)).2)).toList = [] := by
          rw [Lib.toList_data, Pl.str_data]; exact h0
        clear h0 j1 j2 ht
        generalize Pl.str (Pl.deedL (ds[k]?.getD (0, 0)).1 (ds[k]?.getD (0, 0)).2) = A at *
        generalize (ds[k]?.getD (0, 0)).1 = ka at *
        generalize (ds[k]?.getD (0, 0)).2 = kb at *
        generalize Pl.str (Pl.textL (ds.take k)) = X at *
        go_wp2_with fail
        refine (HDT.out _).mono ?_
        rintro e w7 ⟨rfl, b7⟩
        have c7 := hbw.trans (b7.mono hsz)
        have hb7 : b < wr.heap.size := Nat.lt_of_lt_of_le hbb hsz
        have ek := (b7.cell (p := ⟨b, off + k * 2, none⟩) hb7).trans dk
        have en := (b7.cell (p := ⟨b, off + k * 2 + 1, none⟩) hb7).trans dn'
        have en' := (b7.cell (p := ⟨b, off + (k * 2 + 1), none⟩) hb7).trans dn
        clear b7 dk dn dn'
        go_wp2_with fail
        refine (HDT.out _).mono ?_
        rintro e w8 ⟨rfl, b8⟩
        have c8 := c7.trans (b8.mono c7.size)
        clear ek en en' b8
        go_wp2_with fail
        go_roundw
        case rel => exact ⟨k + 1, by omega, by rw [← J2.out], by go_num, J1.out, c8⟩
        case measure => simp [intOf]; omega
    · obtain rfl : k = ds.length := by omega
      have hi : ¬ (ds.length : Int) < (ds.length : Int) := by omega
      rw [List.take_of_length_le (Nat.le_refl _)] at ht ⊢
      have HR : Hid (Pl.str (Pl.textL ds) = R) := Lib.hid (by rw [← HRR.out, Pl.journalL, if_pos ht])
      clear ht
      generalize Pl.str (Pl.textL ds) = X at *
      go_wp2_with fail
      go_ret
      exact ⟨ret_str HR.out, hbw⟩

/-- Read up to a place: the deeds so far, from where on the line lies. -/
def RJAt (L : List UInt8) (ds : List (Int × Int)) (f k : Nat) : Prop :=
  (Pl.rjA [] L = (ds ++ (Pl.rjA (Pl.pieceL L f k) (L.drop k)).1, f + (Pl.rjA (Pl.pieceL L f k) (L.drop k)).2)) ∧ ds.length ≤ f
theorem rjAt_start (L : List UInt8) : RJAt L [] 0 0 := ⟨by simp [Pl.piece_none], by simp⟩
theorem rjAt_line {L : List UInt8} {ds : List (Int × Int)} {f k : Nat} {d : Int × Int} (h : RJAt L ds f k) (h1 : f ≤ k) (h2 : k < L.length) (hc : L[k] = 10) (hd : Pl.readL (Pl.pieceL L f k) = some d) : RJAt L (ds ++ [d]) (k + 1) (k + 1) := by
  obtain ⟨a, b⟩ := h
  have hl : (Pl.pieceL L f k).length = k - f := by unfold Pl.pieceL; rw [List.length_take, List.length_drop]; omega
  refine ⟨?_, by simp; omega⟩
  rw [a, List.drop_eq_getElem_cons h2, Pl.rjA, if_pos hc, hd, Pl.piece_none]
  simp only [List.append_assoc, List.singleton_append, Prod.mk.injEq, true_and]
  omega
theorem rjAt_stop {L : List UInt8} {ds : List (Int × Int)} {f k : Nat} (h : RJAt L ds f k) (h2 : k < L.length) (hc : L[k] = 10) (hd : Pl.readL (Pl.pieceL L f k) = none) : Pl.rjA [] L = (ds, f) := by
  rw [h.1, List.drop_eq_getElem_cons h2, Pl.rjA, if_pos hc, hd]; simp
theorem rjAt_sign {L : List UInt8} {ds : List (Int × Int)} {f k : Nat} (h : RJAt L ds f k) (h1 : f ≤ k) (h2 : k < L.length) (hc : L[k] ≠ 10) : RJAt L ds f (k + 1) := by
  obtain ⟨a, b⟩ := h
  refine ⟨?_, b⟩
  rw [a, List.drop_eq_getElem_cons h2, Pl.rjA, if_neg hc, Pl.piece_snoc h1 h2]
theorem rjAt_end {L : List UInt8} {ds : List (Int × Int)} {f : Nat} (h : RJAt L ds f L.length) : Pl.rjA [] L = (ds, f) := by
  rw [h.1, List.drop_length]; simp [Pl.rjA]

/-- A call that hands back new deeds, and how many bytes they have. -/
def JPost (w : World) (r : List (Int × Int) × Nat) (e : Ending) (w' : World) : Prop := ∃ v, e = .returned (.tuple #[v, .int .i64 (r.2 : Int)]) ∧ DRow w.heap.size w' v r.1 ∧ Below w.heap.size w w'

end Go.Proofs.YtdkgabdhodddkaaDoor
