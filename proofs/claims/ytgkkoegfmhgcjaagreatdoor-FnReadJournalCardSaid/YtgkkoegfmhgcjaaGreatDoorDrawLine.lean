/-
  Lines drawn; a desk and a line drawn.
-/
import Derived.Test.YtgkkoegfmhgcjaaGreatDoorDrawSpoil
import Derived.Test.YtgkkoegfmhgcjaaGreatDoorSpecLine
import Derived.Test.YtgkkoegfmhgcjaaGreatDoorSpecLine2
import Derived.Test.YtgkkoegfmhgcjaaGreatDoorGDrawDesk
namespace Go.Proofs.YtgkkoegfmhgcjaaGreatDoor
open Go.RowKit Go.Shelf

def textCells (m : Nat) (cs : Array Value) : Bool := (List.range cs.size).all fun i => match cs[i]? with
  | some (.string t) => decide (t.size ≤ m)
  | _ => false
theorem cells_texts {w w6 : World} {r : Nat} {cs : Array Value} {T : TypeId} {x : Int} (m : Nat) (hm : textCells m cs = true) (hO : Only r (w.alloc (.cells cs T)) w6) (hr : r < w.heap.size) (h0 : 0 ≤ x) (hx : x < cs.size) :
    ∃ (X : Nat) (t : ByteArray), x = X ∧ w6.cell? ⟨w.heap.size, X, none⟩ = some (.string t) ∧ t.size ≤ m := by
  obtain ⟨X, rfl⟩ := Int.eq_ofNat_of_zero_le h0
  have hX : X < cs.size := by omega
  unfold textCells at hm
  rw [List.all_eq_true] at hm
  have h1 := hm X (List.mem_range.2 hX)
  split at h1
  · rename_i t ht
    exact ⟨X, t, rfl, hO.cell (p := ⟨w.heap.size, X, none⟩) (by rw [World.cell?_alloc_new]; exact ht) (by simp; omega), by simpa using h1⟩
  · cases h1

def askCells : Array Value := #[.string ⟨#[110, 117, 109, 98, 101, 114]⟩, .string ⟨#[100, 105, 103, 105, 116, 115]⟩, .string ⟨#[114, 111, 111, 116]⟩, .string ⟨#[114, 111, 117, 110, 100]⟩, .string ⟨#[104, 97, 112, 112, 121]⟩, .string ⟨#[112, 97, 108, 105, 110, 100, 114, 111, 109, 101]⟩, .string ⟨#[115, 101, 108, 102]⟩, .string ⟨#[112, 101, 114, 115, 105, 115, 116, 115]⟩, .string ⟨#[110, 111, 117, 103, 104, 116, 115]⟩, .string ⟨#[115, 116, 101, 112, 115]⟩]
def oddCells : Array Value := #[.string ⟨#[]⟩, .string ⟨#[116, 111]⟩, .string ⟨#[116, 111, 32, 120]⟩, .string ⟨#[116, 111, 32, 48, 49]⟩, .string ⟨#[116, 111, 32, 49, 48, 48, 48, 48, 48, 48, 48, 48, 49]⟩, .string ⟨#[99, 97, 114, 114, 105, 101, 115]⟩, .string ⟨#[99, 97, 114, 114, 105, 101, 115, 32, 120]⟩, .string ⟨#[111, 110, 101, 32, 48]⟩, .string ⟨#[111, 110, 101, 32, 49]⟩, .string ⟨#[111, 110, 101, 32, 50, 48, 49]⟩, .string ⟨#[32, 114, 111, 111, 116]⟩, .string ⟨#[115, 117, 109, 32, 48]⟩]

set_option maxRecDepth 100000 in
set_option maxHeartbeats 4000000 in
theorem l20Line (w0 : World) (r q : Nat) (w : World) (hR : Rd w0 r q w) (hq : q ≤ 30000) :
    Calls Tryz.prog 60 #[.pointer (some ⟨r, 0, none⟩)] w (TextDraw w0 r (q + 200) w 40) := by
  go_enter Tryz.func60, Tryz.ntmps60
  go_wp2_with fail
  refine (pick w0 r q 7 w (by omega) hR).mono ?_
  rintro e w1 ⟨x, rfl, x0, x1, hR1, hO1⟩
  have x7 := x1 (by omega)
  have hr1 := hR1.lt.2
  clear x1 hR
  by_cases c3 : x = 3
  · subst c3
    have hR2 := hR1.kept ((Below.refl _ w1).alloc (Nat.le_refl _) (.cells oddCells 9))
    have hO2 : Only r w (w1.alloc (.cells oddCells 9)) := hO1.trans (Only.of_below ((Below.refl _ w1).alloc (Nat.le_refl _) _))
    have hC := Lib.hid (fun (w6 : World) (y : Int) => cells_texts (w := w1) (w6 := w6) (r := r) (cs := oddCells) (T := 9) (x := y) 15 (by decide))
    unfold oddCells at hR2 hO2 hC
    go_wp2_with fail
    refine (pick w0 r _ 12 _ (by omega) hR2).mono ?_
    rintro e w3 ⟨y, rfl, y0, y1, hR3, hO3⟩
    obtain ⟨Y, t, rfl, hc, ht⟩ := hC.out w3 y hO3 hr1 y0 (y1 (by omega))
    have yb : (Y : Int) < 12 := y1 (by omega)
    clear y1 hC
    go_wp2_with fail
    go_ret
    exact ⟨t, rfl, by omega, hR3.le (by omega), hO2.trans hO3⟩
  by_cases c4 : x = 4
  · subst c4
    go_wp2_with fail
    refine (l20Whole w0 r _ w1 hR1 (by omega)).mono ?_
    rintro e w2 ⟨y, rfl, y0, y1, hR2, hO2⟩
    rcases Int.lt_or_le y 0 with hm | hm
    · have HN := Lib.hid (fun W => specNumberI 0 (by decide) W)
      have hsz : (Pl.str (Pl.decI 0)).size ≤ 13 := by rw [Pl.str_size]; exact Pl.decI_len (by decide)
      have hfit : ¬ 9223372036854775807 < 8 + (Pl.str (Pl.decI 0)).size := by omega
      generalize Pl.str (Pl.decI 0) = T at *
      go_wp2_with fail
      refine (HN.out w2).mono ?_
      rintro e w3 ⟨_, rfl, rfl, b3⟩
      go_wp2
      go_ret
      exact ⟨_, rfl, by rw [ByteArray.size_append]; show 8 + T.size ≤ 40; omega, (hR2.kept b3).le (by omega), (hO1.trans hO2).trans (Only.of_below b3)⟩
    · have hm2 : ¬ y < 0 := by omega
      obtain ⟨Y, rfl⟩ := Int.eq_ofNat_of_zero_le hm
      have e1 : ((Y : Int)).tmod 1000000 = ((Y % 1000000 : Nat) : Int) := rfl
      have hb : ((Y % 1000000 : Nat) : Int) ≤ 1000000000000 := by omega
      have hl := Pl.decI_len hb
      have hfit : ¬ 9223372036854775807 < 8 + (Pl.str (Pl.decI ((Y % 1000000 : Nat) : Int))).size := by rw [Pl.str_size]; omega
      have HN := Lib.hid (fun W => specNumberI ((Y % 1000000 : Nat) : Int) ⟨by omega, hb⟩ W)
      have hsz : (Pl.str (Pl.decI ((Y % 1000000 : Nat) : Int))).size ≤ 13 := by rw [Pl.str_size]; exact hl
      clear hm hl hb
      generalize Pl.str (Pl.decI ((Y % 1000000 : Nat) : Int)) = T at *
      go_wp2_with fail
      refine (HN.out w2).mono ?_
      rintro e w3 ⟨_, rfl, rfl, b3⟩
      go_wp2
      go_ret
      exact ⟨_, rfl, by rw [ByteArray.size_append]; show 8 + T.size ≤ 40; omega, (hR2.kept b3).le (by omega), (hO1.trans hO2).trans (Only.of_below b3)⟩
  by_cases c5 : x = 5
  · subst c5
    go_wp2_with fail
    refine (pick w0 r _ 40 w1 (by omega) hR1).mono ?_
    rintro e w2 ⟨y, rfl, y0, y1, hR2, hO2⟩
    have yb := y1 (by omega)
    have hl := Pl.decI_len (n := y) (by omega)
    have HN := Lib.hid (fun W => specNumberI y ⟨y0, by omega⟩ W)
    have hsz : (Pl.str (Pl.decI y)).size ≤ 13 := by rw [Pl.str_size]; exact hl
    have hfit : ¬ 9223372036854775807 < 4 + (Pl.str (Pl.decI y)).size := by omega
    clear y1 hl
    generalize Pl.str (Pl.decI y) = T at *
    go_wp2_with fail
    refine (HN.out w2).mono ?_
    rintro e w3 ⟨_, rfl, rfl, b3⟩
    go_wp2
    go_ret
    exact ⟨_, rfl, by rw [ByteArray.size_append]; show 4 + T.size ≤ 40; omega, (hR2.kept b3).le (by omega), (hO1.trans hO2).trans (Only.of_below b3)⟩
  by_cases c6 : x = 6
  · subst c6
    go_wp2_with fail
    refine (l20Deed w0 r _ w1 hR1 (by omega)).mono ?_
    rintro e w2 ⟨k, n, rfl, hR2, hO2⟩
    have hl := Pl.deedL_len k n
    go_wp2_with fail
    refine (specDeedText k n w2).mono ?_
    rintro e w3 ⟨rfl, b3⟩
    go_wp2
    go_ret
    exact ⟨_, rfl, by rw [Pl.str_size]; omega, (hR2.kept b3).le (by omega), (hO1.trans hO2).trans (Only.of_below b3)⟩
  have hx : x = 0 ∨ x = 1 ∨ x = 2 := by omega
  have hR2 := hR1.kept ((Below.refl _ w1).alloc (Nat.le_refl _) (.cells askCells 9))
  have hO2 : Only r w (w1.alloc (.cells askCells 9)) := hO1.trans (Only.of_below ((Below.refl _ w1).alloc (Nat.le_refl _) _))
  have hC := Lib.hid (fun (w6 : World) (y : Int) => cells_texts (w := w1) (w6 := w6) (r := r) (cs := askCells) (T := 9) (x := y) 15 (by decide))
  unfold askCells at hR2 hO2 hC
  clear c3 c4 c5 c6 x0 x7
  rcases hx with rfl | rfl | rfl
  all_goals
    go_wp2_with fail
    refine (pick w0 r _ 10 _ (by omega) hR2).mono ?_
    rintro e w3 ⟨y, rfl, y0, y1, hR3, hO3⟩
    obtain ⟨Y, t, rfl, hc, ht⟩ := hC.out w3 y hO3 hr1 y0 (y1 (by omega))
    have yb : (Y : Int) < 10 := y1 (by omega)
    clear y1 hC
    go_wp2_with fail
    go_ret
    exact ⟨t, rfl, by omega, hR3.le (by omega), hO2.trans hO3⟩

/-- A desk and a line. -/
def DeskLineGot (w : World) (e : Ending) (w' : World) : Prop :=
  ∃ (d : Pl.Dk) (v : Value) (t : ByteArray), e = .returned (.tuple #[.agg #[.int .i64 d.b, .int .i64 d.n, v], .string t]) ∧ Ints w' v d.past ∧ d.past.length ≤ 20 ∧ t.size ≤ 40 ∧ Below w.heap.size w w'

set_option maxRecDepth 100000 in
set_option maxHeartbeats 2000000 in
theorem drawDeskLine (a : Option Addr) (len cap : Nat) (z : List Int) (w : World) (h : IsRow .u8 w a len cap z) :
    Calls Tryz.prog 20 #[.slice a len cap] w (DeskLineGot w) := by
  have b1 : Below w.heap.size w (w.alloc (.cells #[.int .i64 0, .int .i64 0, .slice none 0 0] 30)) := (Below.refl _ _).alloc (Nat.le_refl _) _
  have h1 := h.stay b1
  have D1 := SBox.new w 30 #[.int .i64 0, .int .i64 0, .slice none 0 0]
  have z1 : w.heap.size + 1 ≤ (w.alloc (.cells #[.int .i64 0, .int .i64 0, .slice none 0 0] 30)).heap.size := by simp
  clear h
  go_enter Tryz.func20, Tryz.ntmps20
  go_upto_region 1 with (fail)
  generalize w.alloc (.cells #[.int .i64 0, .int .i64 0, .slice none 0 0] 30) = W at *
  go_wp2_with fail
  refine (l20Open _ _ _ _ _ h1).mono ?_
  rintro e w1 ⟨r, rfl, hr⟩
  have hlt := hr.lt
  have D2 := D1.kept hr.below
  clear h1 D1
  go_wp2_with fail
  refine (l20Desk W r 0 12 w1 hr (by omega) (by omega) (by omega)).mono ?_
  rintro e w2 ⟨d, v, rfl, hd, hlen, hr2, hO⟩
  obtain ⟨a2, l2, rfl⟩ := hd.shape
  have s2 := hO.size
  have hb3 : Below w2.heap.size w2 (w2.alloc (.cells #[.int .i64 d.b, .int .i64 d.n, .slice a2 d.past.length l2] 30)) := (Below.refl _ _).alloc (Nat.le_refl _) _
  have S4 := SBox.new w2 30 #[.int .i64 d.b, .int .i64 d.n, .slice a2 d.past.length l2]
  have D4 := (D2.only hO (by omega)).kept hb3
  have T4 := Lib.hid (Row.below hd hb3)
  have R4 := hr2.kept hb3
  have s3 := hb3.size
  have hgr : w2.heap.size ≠ r := by omega
  clear hr D2 hr2 hd hO hb3
  go_upto_region 3 with (fail)
  generalize w2.alloc (.cells #[.int .i64 d.b, .int .i64 d.n, .slice a2 d.past.length l2] 30) = w4 at *
  have s4 : w2.heap.size ≤ w4.heap.size := by omega
  have hr4 : r < w4.heap.size := R4.lt.2
  have HD := Lib.hid (fun U (h : Rd W r (0 + 2000) U) => l20Line W r _ U h (by omega))
  have na : w2.heap.size ≠ w.heap.size := (by omega)
  have y0 : w4.cell? ⟨w2.heap.size, 0, none⟩ = some (.int .i64 d.b) ∧ w4.cell? ⟨w2.heap.size, 1, none⟩ = some (.int .i64 d.n) ∧ w4.cell? ⟨w2.heap.size, 2, none⟩ = some (.slice a2 d.past.length l2) := ⟨S4.cell 0, S4.cell 1, S4.cell 2⟩
  go_region_held3 (fun w' => w'.cell? ⟨w2.heap.size, 0, none⟩ = some (.int .i64 d.b) ∧ w'.cell? ⟨w2.heap.size, 1, none⟩ = some (.int .i64 d.n) ∧ w'.cell? ⟨w2.heap.size, 2, none⟩ = some (.slice a2 d.past.length l2))
    (first
      | with_reducible exact y0
      | with_reducible exact y1
      | with_reducible exact y2
      | assumption)
    (first
      | (go_at_call 60; (with_reducible refine (HD.out _ (R4.kept ((Below.refl _ w4).drew))).mono ?_); rintro e v1 ⟨lv, rfl, hls, R5, o1'⟩; have o1 : Only r w4 v1 := (Only.of_below ((Below.refl _ w4).drew)).trans o1'; have y1 : v1.cell? ⟨w2.heap.size, 0, none⟩ = some (.int .i64 d.b) ∧ v1.cell? ⟨w2.heap.size, 1, none⟩ = some (.int .i64 d.n) ∧ v1.cell? ⟨w2.heap.size, 2, none⟩ = some (.slice a2 d.past.length l2) := ⟨(S4.only o1 hgr).cell 0, (S4.only o1 hgr).cell 1, (S4.only o1 hgr).cell 2⟩; have D5 := D4.only o1 (by omega); have p0 := D5.cell 0; have p1 := D5.cell 1; have p2 := D5.cell 2; have f0 := D5.frozen 0; have f1 := D5.frozen 1; have f2 := D5.frozen 2; have y2 : (((v1.setCell ⟨w.heap.size, 0, none⟩ (.int .i64 d.b)).setCell ⟨w.heap.size, 1, none⟩ (.int .i64 d.n)).setCell ⟨w.heap.size, 2, none⟩ (.slice a2 d.past.length l2)).cell? ⟨w2.heap.size, 0, none⟩ = some (.int .i64 d.b) ∧ (((v1.setCell ⟨w.heap.size, 0, none⟩ (.int .i64 d.b)).setCell ⟨w.heap.size, 1, none⟩ (.int .i64 d.n)).setCell ⟨w.heap.size, 2, none⟩ (.slice a2 d.past.length l2)).cell? ⟨w2.heap.size, 1, none⟩ = some (.int .i64 d.n) ∧ (((v1.setCell ⟨w.heap.size, 0, none⟩ (.int .i64 d.b)).setCell ⟨w.heap.size, 1, none⟩ (.int .i64 d.n)).setCell ⟨w.heap.size, 2, none⟩ (.slice a2 d.past.length l2)).cell? ⟨w2.heap.size, 2, none⟩ = some (.slice a2 d.past.length l2) := ⟨(SBox.far3 (S4.only o1 hgr) na _ _ _).cell 0, (SBox.far3 (S4.only o1 hgr) na _ _ _).cell 1, (SBox.far3 (S4.only o1 hgr) na _ _ _).cell 2⟩; clear o1'))
  clear y0 y1 y2 p0 p1 p2 f0 f1 f2 na HD
  have DA := D5.three (.int .i64 d.b) (.int .i64 d.n) (.slice a2 d.past.length l2)
  have T5 := T4.out.onlyB hlt.2 o1
  have TA := Lib.hid (((T5.setBox D5 (by decide) 0 (.int .i64 d.b)).setBox (D5.set 0 _) (by decide) 1 (.int .i64 d.n)).setBox ((D5.set 0 _).set 1 _) (by decide) 2 (.slice a2 d.past.length l2)).ints
  have c4 := b1.trans (R5.below.mono b1.size)
  have cB := below_three c4 (Nat.le_refl _) (.int .i64 d.b) (.int .i64 d.n) (.slice a2 d.past.length l2)
  clear T5 c4 D5 D4 S4 T4 R4 R5
  go_wp2_with fail
  refine bodyPost_ret (results_cell_tmp rfl _ _ w.heap.size #[.int .i64 d.b, .int .i64 d.n, .slice a2 d.past.length l2] _ (.string lv) rfl rfl DA rfl Tryz.underlying30 (by rw [size_desk]; rfl)) rfl ?_
  exact ⟨d, _, lv, rfl, TA.out, hlen, hls, cB⟩

end Go.Proofs.YtgkkoegfmhgcjaaGreatDoor
