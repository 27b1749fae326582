/-
  impl: journals written, over a strings.Builder.
-/
import Derived.Shelf.Strings.BuilderK
import Derived.Test.YtdkgabdhodddkaaDoorDeedI
import Derived.Test.YtdkgabdhodddkaaDoorSpecJournal
namespace Go.Proofs.YtdkgabdhodddkaaDoor
open Go.RowKit Go.Shelf

def wren : Go.Shelf.Ren := ⟨fun | 166 => 34 | 240 => 41 | 276 => 46 | 169 => 35 | n => n, fun | 0 => 0 | 3 => 3 | 4 => 4 | 5 => 5 | 9 => 9 | 20 => 20 | 37 => 22 | 70 => 56 | 72 => 58 | 75 => 60 | 80 => 63 | 127 => 68 | 164 => 72 | n => n, fun | n => n⟩
theorem laysW : Go.Proofs.Lays.n166 Tryd.prog wren := {
  mixed := by kernel_rfl
  f166 := Tryd.func34.trans (congrArg some (by kernel_rfl))
  f240 := Tryd.func41.trans (congrArg some (by kernel_rfl))
  f276 := Tryd.func46.trans (congrArg some (by kernel_rfl))
  t0 := Tryd.underlying0
  a0 := Tryd.isAgg0
  z0 := Tryd.sizeOf0
  v0 := Tryd.zeroValue0
  t3 := Tryd.underlying3
  a3 := Tryd.isAgg3
  z3 := Tryd.sizeOf3
  v3 := Tryd.zeroValue3
  t4 := Tryd.underlying4
  a4 := Tryd.isAgg4
  z4 := Tryd.sizeOf4
  v4 := Tryd.zeroValue4
  t9 := Tryd.underlying9
  a9 := Tryd.isAgg9
  z9 := Tryd.sizeOf9
  v9 := Tryd.zeroValue9
  t20 := Tryd.underlying20
  a20 := Tryd.isAgg20
  z20 := Tryd.sizeOf20
  v20 := Tryd.zeroValue20
  t37 := Tryd.underlying22
  a37 := Tryd.isAgg22
  z37 := Tryd.sizeOf22
  v37 := Tryd.zeroValue22
  t70 := Tryd.underlying56
  a70 := Tryd.isAgg56
  z70 := Tryd.sizeOf56
  v70 := Tryd.zeroValue56
  t72 := Tryd.underlying58
  a72 := Tryd.isAgg58
  z72 := Tryd.sizeOf58
  v72 := Tryd.zeroValue58
  t75 := Tryd.underlying60
  a75 := Tryd.isAgg60
  z75 := Tryd.sizeOf60
  v75 := Tryd.zeroValue60
  t164 := Tryd.underlying72
  a164 := Tryd.isAgg72
  z164 := Tryd.sizeOf72
  v164 := Tryd.zeroValue72
}
theorem extraOf (ρ : Ren) (h72 : ρ.t 72 = 58) (h5 : ρ.t 5 = 5) : Builder.Extra Tryd.prog ρ where
  sizeBuilder := by rw [h72]; kernel_rfl
  liesBuilder := by rw [h72]; kernel_rfl
  t5 := by rw [h5]; exact Tryd.underlying5
  a5 := by rw [h5]; exact Tryd.isAgg5
  z5 := by rw [h5]; exact Tryd.sizeOf5
  v5 := by rw [h5]; exact Tryd.zeroValue5
  infoByte := by rw [h5]; kernel_rfl
  cellsByte := by rw [h5]; kernel_rfl
  sizeByte := by rw [h5]; kernel_rfl
  neB5 := by rw [h72, h5]; decide

/-- A builder of the call's own, and the bytes it holds. -/
def Bld (w : World) (B b : Nat) (l : List UInt8) : Prop := Lib.IsBuilderF 58 5 B b (Lib.byteCells l) w
theorem Bld.fresh (w : World) : Bld (w.alloc (.cells #[.pointer none, .slice none 0 0] 58)) w.heap.size w.heap.size [] :=
  Lib.IsBuilderF.of (Lib.fresh_isBuilder _ _ w)
theorem bldAt_kept {T e : TypeId} {B b : Nat} {p : Value} {bs : List Value} {w w' : World} (h : Lib.BuilderAtF T e B b p bs w) (hb : Below w.heap.size w w') : Lib.BuilderAtF T e B b p bs w' := by
  have hlt := h.lt
  obtain ⟨h1, v, h2, h3, h4⟩ := h
  refine ⟨h1, v, (hb.block b hlt).trans h2, ?_, h4⟩
  exact h3.kept (row := none) ⟨hb.os, hb.tape, hb.output, hb.size, fun k hk _ => hb.block k hk⟩ (Classical.em _)
theorem Bld.below {w w' : World} {B b : Nat} {l : List UInt8} (h : Bld w B b l) (hb : Below w.heap.size w w') : Bld w' B b l :=
  h.elim (fun x => .inl (bldAt_kept x hb)) (fun x => .inr (bldAt_kept x hb))

theorem libWrite (B b : Nat) (l : List UInt8) (s : ByteArray) (w : World) (h : Bld w B b l) (hl : l.length + s.size ≤ 1000000000) (hB : B ≤ w.heap.size) :
    Calls Tryd.prog 34 #[.pointer (some ⟨b, 0, none⟩), .string s] w fun e w' => e = .returned (.tuple #[.int .i64 s.size, .nilIface]) ∧ Bld w' B b (l ++ s.data.toList) ∧ Below B w w' := by
  refine (Any.Builder_WriteString_k laysW (extraOf wren rfl rfl) B b (Lib.byteCells l) s w h (by rw [Lib.byteCells_length]; omega) hB).mono ?_
  rintro e w' ⟨rfl, h1, h2, _⟩
  refine ⟨rfl, Or.inr ?_, h2⟩
  rw [Lib.byteCells_append, ← Lib.strCells_eq]
  exact h1
theorem libBuilt (B b : Nat) (l : List UInt8) (w : World) (h : Bld w B b l) (hB : B ≤ w.heap.size) :
    Calls Tryd.prog 35 #[.pointer (some ⟨b, 0, none⟩)] w fun e w' => e = .returned (.string (Pl.str l)) ∧ Below B w w' := by
  refine (Any.Builder_String_any_k Tryd.lays169 (extraOf _ rfl rfl) B b l w h hB).mono ?_
  rintro e w' ⟨rfl, _, h2, _⟩
  exact ⟨rfl, h2⟩

set_option maxRecDepth 100000 in
set_option maxHeartbeats 4000000 in
theorem implJournalText (v : Value) (ds : List (Int × Int)) (w : World) (hv : Deeds w v ds) (hx : ds.length ≤ 10000000) (hT : TabOk w) :
    Calls Tryd.prog 14 #[v] w fun e w' => e = .returned (.string (Pl.str (Pl.journalL ds))) ∧ Below w.heap.size w w' := by
  obtain ⟨a, cap, rfl, hc⟩ := hv
  have HC := Lib.hid hc
  have HTab := Lib.hid hT
  clear hc hT
  obtain ⟨R, hR⟩ : ∃ R, Pl.str (Pl.journalL ds) = R := ⟨_, rfl⟩
  rw [hR]
  have HRR := Lib.hid hR
  have B0 := Lib.hid (Bld.fresh w)
  have b0 : Below w.heap.size w (w.alloc (.cells #[.pointer none, .slice none 0 0] 58)) := (Below.refl _ _).alloc (Nat.le_refl _) _
  clear hR
  go_enter Tryd.func14, Tryd.ntmps14
  go_wp2_with fail
  go_loopw [9] (fun kv wr => ∃ k : Nat, k ≤ ds.length ∧ kv = .int .i64 k ∧ Pl.toldB (ds.take k) = true ∧ Below w.heap.size w wr ∧ Bld wr w.heap.size w.heap.size (Pl.textL (ds.take k))) (fun kv _ => ds.length - (intOf kv).toNat)
  case atStart => exact ⟨0, Nat.zero_le _, rfl, rfl, b0, B0.out⟩
  case round =>
    clear b0 B0
    obtain ⟨k, hk, rfl, ht, hbw, hbl⟩ := hrel
    have hsz := hbw.size
    have HB := Lib.hid hbl
    have hT5 := Lib.hid (fun o => HTab.out.below (hbw.alloc hsz o))
    clear hbl
    by_cases hlt : k < ds.length
    · obtain ⟨b, off, rfl, ck, cn⟩ := HC.out k hlt
      have hbb : b < w.heap.size := World.block_lt_of_cell? _ _ ck
      have dk := (hbw.cell (p := ⟨b, off + k * 2, none⟩) hbb).trans ck
      have dn := (hbw.cell (p := ⟨b, off + (k * 2 + 1), none⟩) hbb).trans cn
      have dn' : wr.cell? ⟨b, off + k * 2 + 1, none⟩ = some (.int .i64 (ds[k]?.getD (0, 0)).2) := dn
      have hi : (k : Int) < (ds.length : Int) := by omega
      have HDT := Lib.hid (fun W (h : TabOk W) => implDeedText (ds[k]?.getD (0, 0)).1 (ds[k]?.getD (0, 0)).2 W h)
      clear ck cn
      by_cases h0 : Pl.deedL (ds[k]?.getD (0, 0)).1 (ds[k]?.getD (0, 0)).2 = []
      · have HR : Hid (R = ⟨#[]⟩) := Lib.hid (by rw [← HRR.out, Pl.journal_not hlt h0]; rfl)
        have hA : Pl.str (Pl.deedL (ds[k]?.getD (0, 0)).1 (ds[k]?.getD (0, 0)).2) = ⟨#[]⟩ := by rw [h0]; rfl
        rw [hA] at HDT
        clear h0 hA ht HB
        generalize (ds[k]?.getD (0, 0)).1 = ka at *
        generalize (ds[k]?.getD (0, 0)).2 = kb at *
        go_wp2_with fail
        refine (HDT.out _ (hT5.out _)).mono ?_
        rintro e w7 ⟨rfl, b7⟩
        have c7 := (hbw.alloc hsz (.cells #[.int .i64 ka, .int .i64 kb] 24)).trans (b7.mono (by simp; omega))
        clear b7 dk dn dn' hT5 HDT
        go_wp2_with fail
        go_ret
        exact ⟨ret_str HR.out.symm, c7⟩
      · obtain ⟨j1, j2⟩ := Pl.journal_take hlt ht h0
        have J1 := Lib.hid j1
        have hle : (Pl.textL (ds.take k)).length ≤ 14 * ds.length := by
          have h1 := Pl.textL_len (ds.take k)
          rw [List.length_take] at h1; omega
        have hld : (Pl.str (Pl.deedL (ds[k]?.getD (0, 0)).1 (ds[k]?.getD (0, 0)).2)).size ≤ 100 := by
          have h2 := Pl.deedL_len (ds[k]?.getD (0, 0)).1 (ds[k]?.getD (0, 0)).2
          rw [Pl.str_size]; omega
        have hfit : ¬ 9223372036854775807 < (Pl.str (Pl.deedL (ds[k]?.getD (0, 0)).1 (ds[k]?.getD (0, 0)).2)).size + 1 := by omega
        have J2 : Hid (Pl.textL (ds.take k) ++ (Pl.str (Pl.deedL (ds[k]?.getD (0, 0)).1 (ds[k]?.getD (0, 0)).2) ++ ⟨#[10]⟩).data.toList = Pl.textL (ds.take (k + 1))) := Lib.hid (by
          rw [j2, show (⟨#[10]⟩ : ByteArray) = Pl.str [10] from rfl, Pl.str_add, Pl.str_data])
        have hsz2 : (Pl.str (Pl.deedL (ds[k]?.getD (0, 0)).1 (ds[k]?.getD (0, 0)).2) ++ ⟨#[10]⟩).size ≤ 101 := by
          rw [ByteArray.size_append]; exact Nat.add_le_add hld (Nat.le_refl _)
        have hne : (Pl.str (Pl.deedL (ds[k]?.getD (0, 0)).1 (ds[k]?.getD (0, 0)).2)).toList.isEmpty = false := by
          rw [Lib.toList_data, Pl.str_data, Bool.eq_false_iff]
          intro h; exact h0 (List.isEmpty_iff.1 h)
        have hne2 : ¬ (Pl.str (Pl.deedL (ds[k]?.getD (0, 0)).1 (ds[k]?.getD (0, 0)).2)).toList = [] := by
          rw [Lib.toList_data, Pl.str_data]; exact h0
        clear h0 j1 j2 ht
        generalize Pl.str (Pl.deedL (ds[k]?.getD (0, 0)).1 (ds[k]?.getD (0, 0)).2) = A at *
        generalize (ds[k]?.getD (0, 0)).1 = ka at *
        generalize (ds[k]?.getD (0, 0)).2 = kb at *
        generalize Pl.textL (ds.take k) = X at *
        have HWR := Lib.hid (fun W (h : Bld W w.heap.size w.heap.size X) (h2 : w.heap.size ≤ W.heap.size) => libWrite w.heap.size w.heap.size X (A ++ ⟨#[10]⟩) W h (by omega) h2)
        have HJ := J2.out
        go_wp2_with fail
        refine (HDT.out _ (hT5.out _)).mono ?_
        rintro e w7 ⟨rfl, b7⟩
        have d7 : Below wr.heap.size wr w7 := ((Below.refl _ wr).alloc (Nat.le_refl _) (.cells #[.int .i64 ka, .int .i64 kb] 24)).trans (b7.mono (by simp))
        have HB7 := Lib.hid (HB.out.below d7)
        have c7 : Below w.heap.size w w7 := hbw.trans (d7.mono hsz)
        have hs7 := c7.size
        clear b7 dk dn dn' hT5 HDT d7 HB
        go_wp2_with fail
        refine (HWR.out _ HB7.out hs7).mono ?_
        rintro e w8 ⟨rfl, h8, b8⟩
        have c8 := c7.trans b8
        rw [HJ] at h8
        have H8 := Lib.hid h8
        clear b8 h8 HB7 HWR
        go_wp2_with fail
        go_roundw
        case rel => exact ⟨k + 1, by omega, by go_num, J1.out, c8, H8.out⟩
        case measure => simp [intOf]; omega
    · obtain rfl : k = ds.length := by omega
      have hi : ¬ (ds.length : Int) < (ds.length : Int) := by omega
      have ht2 := ht
      have hb2 := HB.out
      rw [List.take_of_length_le (Nat.le_refl _)] at ht2 hb2
      have HR : Hid (Pl.str (Pl.textL ds) = R) := Lib.hid (by rw [← HRR.out, Pl.journalL, if_pos ht2])
      clear ht ht2 HB hT5
      have HS := Lib.hid (libBuilt w.heap.size w.heap.size (Pl.textL ds) wr hb2 hsz)
      clear hb2
      generalize Pl.str (Pl.textL ds) = X at *
      go_wp2_with fail
      refine HS.out.mono ?_
      rintro e w9 ⟨rfl, b9⟩
      have c9 := hbw.trans b9
      clear HS b9
      go_wp2_with fail
      go_ret
      exact ⟨ret_str HR.out, c9⟩

end Go.Proofs.YtdkgabdhodddkaaDoor
