/-
  Chapter 12: a desk and deeds drawn.
-/
import Derived.Test.YtakkjlcnfkklpaaDrawDesk
import Derived.Test.YtakkjlcnfkklpaaDeskLaws
import Derived.Test.YtakkjlcnfkklpaaArgs
import Derived.Test.YtakkjlcnfkklpaaDeedExact
namespace Go.Proofs.Ytakkjlcnfkklpaa
open Go.RowKit Go.Shelf

theorem DRow.stored {base : Nat} {w w' : World} {v : Value} {ds : List (Int × Int)} (h : DRow base w v ds) {B : Nat} {T : TypeId} {cs : Array Value} (hB : SBox w B T cs) (hT : T ≠ 36) (ho : ∀ i, i ≠ B → w'.heap[i]? = w.heap[i]?) : DRow base w' v ds := by
  rcases h with ⟨h1, h2 | ⟨g, cap, cur, hv, hg, hh, r⟩⟩
  · exact ⟨h1, .inl h2⟩
  · refine ⟨h1, .inr ⟨g, cap, cur, hv, hg, ?_, r⟩⟩
    rw [ho g ?_]
    · exact hh
    · rintro rfl
      unfold SBox at hB
      rw [hB] at hh
      injection hh with hh
      injection hh with _ ht _
      exact hT ht
theorem DRow.setBox {base : Nat} {w : World} {v : Value} {ds : List (Int × Int)} (h : DRow base w v ds) {B : Nat} {T : TypeId} {cs : Array Value} (hB : SBox w B T cs) (hT : T ≠ 36) (i : Nat) (u : Value) : DRow base (w.setCell ⟨B, i, none⟩ u) v ds :=
  h.stored hB hT fun k hk => Below.heap_setCell _ _ _ _ (by simpa using hk)

/-- How a row of deeds lies. -/
def LShape (lv : Value) (n : Nat) : Prop := ∃ la lc, lv = .slice la n lc ∧ n ≤ lc ∧ (la = none ∧ n = 0 ∨ ∃ g, la = some ⟨g, 0, none⟩)
theorem DRow.lshape {base : Nat} {w : World} {v : Value} {ds : List (Int × Int)} (h : DRow base w v ds) : LShape v ds.length := by
  rcases h.2 with ⟨rfl, h0⟩ | ⟨g, cap, cur, rfl, _, _, hc, _⟩
  · rw [h0]; exact ⟨none, 0, rfl, Nat.le_refl _, .inl ⟨rfl, rfl⟩⟩
  · exact ⟨_, cap, rfl, hc, .inr ⟨g, rfl⟩⟩

/-- A desk and deeds. -/
def DeskDeedsGot (w : World) (e : Ending) (w' : World) : Prop :=
  ∃ (d : Pl.Dk) (v lv : Value) (ds : List (Int × Int)), e = .returned (.tuple #[.agg #[.int .i64 d.b, .int .i64 d.n, v], lv]) ∧ Ints w' v d.past ∧ d.past.length ≤ 20 ∧ Deeds w' lv ds ∧ ds.length ≤ 41 ∧ LShape lv ds.length ∧ Below w.heap.size w w'

set_option maxRecDepth 100000 in
set_option maxHeartbeats 2000000 in
theorem drawDeskRun (a : Option Addr) (len cap : Nat) (z : List Int) (w : World) (h : IsRow .u8 w a len cap z) :
    Calls Try.prog 24 #[.slice a len cap] w (DeskDeedsGot w) := by
  obtain ⟨i0, hi0, hz0, hz1, hz2⟩ := info_parts info_deed
  have b1 : Below w.heap.size w (w.alloc (.cells #[.int .i64 0, .int .i64 0, .slice none 0 0] 25)) := (Below.refl _ _).alloc (Nat.le_refl _) _
  have h1 := h.stay b1
  have D1 := SBox.new w 25 #[.int .i64 0, .int .i64 0, .slice none 0 0]
  have z1 : w.heap.size + 1 ≤ (w.alloc (.cells #[.int .i64 0, .int .i64 0, .slice none 0 0] 25)).heap.size := by simp
  clear h
  go_enter Try.func24, Try.ntmps24
  go_upto_region 1 with (fail)
  generalize w.alloc (.cells #[.int .i64 0, .int .i64 0, .slice none 0 0] 25) = W at *
  go_wp2_with fail
  refine (l20Open _ _ _ _ _ h1).mono ?_
  rintro e w1 ⟨r, rfl, hr⟩
  have hlt := hr.lt
  have D2 := D1.kept hr.below
  clear h1 D1
  go_wp2_with fail
  refine (l20Desk W r 0 12 w1 hr (by omega) (by omega) (by omega)).mono ?_
  rintro e w2 ⟨d, v, rfl, hd, hlen, hr2, hO⟩
  obtain ⟨a2, l2, rfl⟩ := hd.shape
  have s2 := hO.size
  have hb3 : Below w2.heap.size w2 (w2.alloc (.cells #[.int .i64 d.b, .int .i64 d.n, .slice a2 d.past.length l2] 25)) := (Below.refl _ _).alloc (Nat.le_refl _) _
  have S3 := SBox.new w2 25 #[.int .i64 d.b, .int .i64 d.n, .slice a2 d.past.length l2]
  have D3 := (D2.only hO (by omega)).kept hb3
  have T3 := Lib.hid (Row.below hd hb3)
  have R3 := hr2.kept hb3
  have s3 := hb3.size
  have hgr : w2.heap.size ≠ r := by omega
  clear hr D2 hr2 hd hO hb3
  go_upto_region 3 with (fail)
  generalize w2.alloc (.cells #[.int .i64 d.b, .int .i64 d.n, .slice a2 d.past.length l2] 25) = w3 at *
  go_wp2_with fail
  refine (odd W r _ 30 w3 R3 (by omega) (by omega) (by omega)).mono ?_
  rintro e w4 ⟨bb, rfl, R4, hO4⟩
  have S4 := S3.only hO4 hgr
  have D4 := D3.only hO4 (by omega)
  have T4 := Lib.hid (T3.out.onlyB hlt.2 hO4)
  have s4 := hO4.size
  have hr4 : r < w4.heap.size := R4.lt.2
  clear S3 D3 T3 R3 hO4
  cases bb with
  | true =>
    go_upto_region 4 with (fail)
    have x0 := S4.cell 0
    have x1 := S4.cell 1
    have x2 := S4.cell 2
    have p0 := D4.cell 0
    have p1 := D4.cell 1
    have p2 := D4.cell 2
    have f0 := D4.frozen 0
    have f1 := D4.frozen 1
    have f2 := D4.frozen 2
    obtain ⟨W5, hmk, hown, hgrow⟩ := run_makeSlice_full (P := Try.prog) w4.drew w4.drew.heap.size 41 36 i0 (.agg #[.int .i64 0, .int .i64 0]) 2 Try.underlying41 hi0 hz0 hz1 .i64 .i64 41 (by decide) (by rw [hz2]; decide) (by decide) (Nat.le_refl _)
    have hmk2 : (Instr.makeSlice 41 (.int .i64 41) (.int .i64 41)).run Try.prog w4.drew = .ok (.slice (some ⟨w4.heap.size, 0, none⟩) 41 41) W5 := hmk
    have hb5 : Below w4.heap.size w4 W5 := ((Below.refl _ w4).drew).grown hgrow (Nat.le_refl _) (fun k e => by cases e)
    have L5 : DRow w4.heap.size W5 (.slice (some ⟨w4.heap.size, 0, none⟩) 41 41) (List.replicate 41 (0, 0)) := by
      have e : (madeCells (Value.agg #[.int .i64 0, .int .i64 0]).cells (41 * 2)).toList = Pl.deedCells (List.replicate 41 (0, 0)) := by
        rw [show (Value.agg #[.int .i64 0, .int .i64 0]).cells = #[.int .i64 0, .int .i64 0] from rfl, toList_madeCells_two, Pl.deedCells_zero]
      rw [e] at hown
      exact hown
    have HSH := Lib.hid L5.lshape
    have S5 := S4.kept hb5
    have D5 := D4.kept hb5
    have T5 := T4.out.below hb5
    have y0 := S5.cell 0
    have y1 := S5.cell 1
    have y2 := S5.cell 2
    have q0 := D5.cell 0
    have q1 := D5.cell 1
    have q2 := D5.cell 2
    have g0 := D5.frozen 0
    have g1 := D5.frozen 1
    have g2 := D5.frozen 2
    have DA := D5.three (.int .i64 d.b) (.int .i64 d.n) (.slice a2 d.past.length l2)
    have TA := Lib.hid (((T5.setBox D5 (by decide) 0 (.int .i64 d.b)).setBox (D5.set 0 _) (by decide) 1 (.int .i64 d.n)).setBox ((D5.set 0 _).set 1 _) (by decide) 2 (.slice a2 d.past.length l2)).ints
    have LA := Lib.hid (((L5.setBox D5 (by decide) 0 (.int .i64 d.b)).setBox (D5.set 0 _) (by decide) 1 (.int .i64 d.n)).setBox ((D5.set 0 _).set 1 _) (by decide) 2 (.slice a2 d.past.length l2)).deeds
    have c4 := b1.trans ((R4.below.trans (hb5.mono R4.below.size)).mono b1.size)
    have cB := below_three c4 (Nat.le_refl _) (.int .i64 d.b) (.int .i64 d.n) (.slice a2 d.past.length l2)
    have DV := D4.three (.int .i64 d.b) (.int .i64 d.n) (.slice a2 d.past.length l2)
    have TV := ((T4.out.setBox D4 (by decide) 0 (.int .i64 d.b)).setBox (D4.set 0 _) (by decide) 1 (.int .i64 d.n)).setBox ((D4.set 0 _).set 1 _) (by decide) 2 (.slice a2 d.past.length l2)
    have cV := below_three (b1.trans (R4.below.mono b1.size)) (Nat.le_refl _) (.int .i64 d.b) (.int .i64 d.n) (.slice a2 d.past.length l2)
    have hVs : (((w4.setCell ⟨w.heap.size, 0, none⟩ (.int .i64 d.b)).setCell ⟨w.heap.size, 1, none⟩ (.int .i64 d.n)).setCell ⟨w.heap.size, 2, none⟩ (.slice a2 d.past.length l2)).heap.size = w4.heap.size := by simp
    obtain ⟨W6, hmkV, hownV, hgrowV⟩ := run_makeSlice_full (P := Try.prog) (((w4.setCell ⟨w.heap.size, 0, none⟩ (.int .i64 d.b)).setCell ⟨w.heap.size, 1, none⟩ (.int .i64 d.n)).setCell ⟨w.heap.size, 2, none⟩ (.slice a2 d.past.length l2)).drew (((w4.setCell ⟨w.heap.size, 0, none⟩ (.int .i64 d.b)).setCell ⟨w.heap.size, 1, none⟩ (.int .i64 d.n)).setCell ⟨w.heap.size, 2, none⟩ (.slice a2 d.past.length l2)).drew.heap.size 41 36 i0 (.agg #[.int .i64 0, .int .i64 0]) 2 Try.underlying41 hi0 hz0 hz1 .i64 .i64 41 (by decide) (by rw [hz2]; decide) (by decide) (Nat.le_refl _)
    rw [show (((w4.setCell ⟨w.heap.size, 0, none⟩ (.int .i64 d.b)).setCell ⟨w.heap.size, 1, none⟩ (.int .i64 d.n)).setCell ⟨w.heap.size, 2, none⟩ (.slice a2 d.past.length l2)).drew.heap.size = w4.heap.size by simp] at hmkV hownV
    have hmk3 : (Instr.makeSlice 41 (.int .i64 41) (.int .i64 41)).run Try.prog (((w4.setCell ⟨w.heap.size, 0, none⟩ (.int .i64 d.b)).setCell ⟨w.heap.size, 1, none⟩ (.int .i64 d.n)).setCell ⟨w.heap.size, 2, none⟩ (.slice a2 d.past.length l2)).drew = .ok (.slice (some ⟨w4.heap.size, 0, none⟩) 41 41) W6 := hmkV
    have hb6 : Below (((w4.setCell ⟨w.heap.size, 0, none⟩ (.int .i64 d.b)).setCell ⟨w.heap.size, 1, none⟩ (.int .i64 d.n)).setCell ⟨w.heap.size, 2, none⟩ (.slice a2 d.past.length l2)).heap.size (((w4.setCell ⟨w.heap.size, 0, none⟩ (.int .i64 d.b)).setCell ⟨w.heap.size, 1, none⟩ (.int .i64 d.n)).setCell ⟨w.heap.size, 2, none⟩ (.slice a2 d.past.length l2)) W6 := ((Below.refl _ (((w4.setCell ⟨w.heap.size, 0, none⟩ (.int .i64 d.b)).setCell ⟨w.heap.size, 1, none⟩ (.int .i64 d.n)).setCell ⟨w.heap.size, 2, none⟩ (.slice a2 d.past.length l2))).drew).grown hgrowV (Nat.le_refl _) (fun k e => by cases e)
    have L6 := Lib.hid (show Deeds W6 (.slice (some ⟨w4.heap.size, 0, none⟩) 41 41) (List.replicate 41 (0, 0)) from by
      have e : (madeCells (Value.agg #[.int .i64 0, .int .i64 0]).cells (41 * 2)).toList = Pl.deedCells (List.replicate 41 (0, 0)) := by
        rw [show (Value.agg #[.int .i64 0, .int .i64 0]).cells = #[.int .i64 0, .int .i64 0] from rfl, toList_madeCells_two, Pl.deedCells_zero]
      rw [e] at hownV
      exact DRow.deeds (show DRow w4.heap.size W6 (.slice (some ⟨w4.heap.size, 0, none⟩) 41 41) (List.replicate 41 (0, 0)) from hownV))
    have DW := DV.kept hb6
    have TW := Lib.hid (TV.below hb6).ints
    have cW := cV.trans (hb6.mono cV.size)
    clear hmk hown hgrow hb5 L5 S5 D5 T5 c4 S4 D4 T4 R4 DV TV cV hVs hmkV hownV hgrowV hb6
    go_region
    all_goals
      go_wp2_with fail
      first
        | (refine bodyPost_ret (results_cell_tmp rfl _ _ w.heap.size #[.int .i64 d.b, .int .i64 d.n, .slice a2 d.past.length l2] _ (.slice (some ⟨w4.heap.size, 0, none⟩) 41 41) rfl rfl DA rfl Try.underlying25 (by rw [size_desk]; rfl)) rfl ?_
           exact ⟨d, _, _, List.replicate 41 (0, 0), rfl, TA.out, hlen, LA.out, by simp, HSH.out, cB⟩)
        | (refine bodyPost_ret (results_cell_tmp rfl _ _ w.heap.size #[.int .i64 d.b, .int .i64 d.n, .slice a2 d.past.length l2] _ (.slice (some ⟨w4.heap.size, 0, none⟩) 41 41) rfl rfl DW rfl Try.underlying25 (by rw [size_desk]; rfl)) rfl ?_
           exact ⟨d, _, _, List.replicate 41 (0, 0), rfl, TW.out, hlen, L6.out, by simp, HSH.out, cW⟩)
  | false =>
    go_upto_region 5 with (fail)
    have HD := Lib.hid (fun U (h : Rd W r (0 + 2000 + 1) U) => l20Deeds W r _ U h (by omega))
    have na : w2.heap.size ≠ w.heap.size := (by omega)
    have y0 : w4.cell? ⟨w2.heap.size, 0, none⟩ = some (.int .i64 d.b) ∧ w4.cell? ⟨w2.heap.size, 1, none⟩ = some (.int .i64 d.n) ∧ w4.cell? ⟨w2.heap.size, 2, none⟩ = some (.slice a2 d.past.length l2) := ⟨S4.cell 0, S4.cell 1, S4.cell 2⟩
    go_region_held3 (fun w' => w'.cell? ⟨w2.heap.size, 0, none⟩ = some (.int .i64 d.b) ∧ w'.cell? ⟨w2.heap.size, 1, none⟩ = some (.int .i64 d.n) ∧ w'.cell? ⟨w2.heap.size, 2, none⟩ = some (.slice a2 d.past.length l2))
      (first
        | with_reducible exact y0
        | with_reducible exact y1
        | with_reducible exact y2
        | assumption)
      (first
        | (go_at_call 54; (with_reducible refine (HD.out _ (R4.kept ((Below.refl _ w4).drew))).mono ?_); rintro e v1 ⟨lv, ls, rfl, L5, hls, R5, o1'⟩; have o1 : Only r w4 v1 := (Only.of_below ((Below.refl _ w4).drew)).trans o1'; have y1 : v1.cell? ⟨w2.heap.size, 0, none⟩ = some (.int .i64 d.b) ∧ v1.cell? ⟨w2.heap.size, 1, none⟩ = some (.int .i64 d.n) ∧ v1.cell? ⟨w2.heap.size, 2, none⟩ = some (.slice a2 d.past.length l2) := ⟨(S4.only o1 hgr).cell 0, (S4.only o1 hgr).cell 1, (S4.only o1 hgr).cell 2⟩; have D5 := D4.only o1 (by omega); have p0 := D5.cell 0; have p1 := D5.cell 1; have p2 := D5.cell 2; have f0 := D5.frozen 0; have f1 := D5.frozen 1; have f2 := D5.frozen 2; have y2 : (((v1.setCell ⟨w.heap.size, 0, none⟩ (.int .i64 d.b)).setCell ⟨w.heap.size, 1, none⟩ (.int .i64 d.n)).setCell ⟨w.heap.size, 2, none⟩ (.slice a2 d.past.length l2)).cell? ⟨w2.heap.size, 0, none⟩ = some (.int .i64 d.b) ∧ (((v1.setCell ⟨w.heap.size, 0, none⟩ (.int .i64 d.b)).setCell ⟨w.heap.size, 1, none⟩ (.int .i64 d.n)).setCell ⟨w.heap.size, 2, none⟩ (.slice a2 d.past.length l2)).cell? ⟨w2.heap.size, 1, none⟩ = some (.int .i64 d.n) ∧ (((v1.setCell ⟨w.heap.size, 0, none⟩ (.int .i64 d.b)).setCell ⟨w.heap.size, 1, none⟩ (.int .i64 d.n)).setCell ⟨w.heap.size, 2, none⟩ (.slice a2 d.past.length l2)).cell? ⟨w2.heap.size, 2, none⟩ = some (.slice a2 d.past.length l2) := ⟨(SBox.far3 (S4.only o1 hgr) na _ _ _).cell 0, (SBox.far3 (S4.only o1 hgr) na _ _ _).cell 1, (SBox.far3 (S4.only o1 hgr) na _ _ _).cell 2⟩; clear o1'))
    clear y0 y1 y2 p0 p1 p2 f0 f1 f2 na HD
    have DA := D5.three (.int .i64 d.b) (.int .i64 d.n) (.slice a2 d.past.length l2)
    have HSH := Lib.hid L5.lshape
    have T5 := T4.out.onlyB hlt.2 o1
    have TA := Lib.hid (((T5.setBox D5 (by decide) 0 (.int .i64 d.b)).setBox (D5.set 0 _) (by decide) 1 (.int .i64 d.n)).setBox ((D5.set 0 _).set 1 _) (by decide) 2 (.slice a2 d.past.length l2)).ints
    have LA := Lib.hid (((L5.setBox D5 (by decide) 0 (.int .i64 d.b)).setBox (D5.set 0 _) (by decide) 1 (.int .i64 d.n)).setBox ((D5.set 0 _).set 1 _) (by decide) 2 (.slice a2 d.past.length l2)).deeds
    have c4 := b1.trans (R5.below.mono b1.size)
    have cB := below_three c4 (Nat.le_refl _) (.int .i64 d.b) (.int .i64 d.n) (.slice a2 d.past.length l2)
    clear T5 c4 D5 D4 S4 T4 R4 R5 L5
    go_wp2_with fail
    refine bodyPost_ret (results_cell_tmp rfl _ _ w.heap.size #[.int .i64 d.b, .int .i64 d.n, .slice a2 d.past.length l2] _ lv rfl rfl DA rfl Try.underlying25 (by rw [size_desk]; rfl)) rfl ?_
    exact ⟨d, _, lv, ls, rfl, TA.out, hlen, LA.out, by omega, HSH.out, cB⟩

end Go.Proofs.Ytakkjlcnfkklpaa
