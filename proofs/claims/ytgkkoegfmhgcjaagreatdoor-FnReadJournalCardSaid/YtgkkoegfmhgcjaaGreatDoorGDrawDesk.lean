/-
  A desk drawn.
-/
import Derived.Test.YtgkkoegfmhgcjaaGreatDoorGDraw
import Derived.Test.YtgkkoegfmhgcjaaGreatDoorXCut
import Derived.Test.YtgkkoegfmhgcjaaGreatDoorGDeskX
import Derived.Test.YtgkkoegfmhgcjaaGreatDoorGText
namespace Go.Proofs.YtgkkoegfmhgcjaaGreatDoor
open Go.RowKit Go.Shelf

theorem Row.onlyB {B r : Nat} {w w' : World} {v : Value} {xs : List Int} (h : Row B w v xs) (hr : r < B) (ho : Only r w w') : Row B w' v xs := by
  rcases h with ⟨h1, h2 | ⟨g, cap, cur, hv, hg, hh, rest⟩⟩
  · exact ⟨h1, .inl h2⟩
  · exact ⟨h1, .inr ⟨g, cap, cur, hv, hg, by rw [ho.block g (lt_of_heap hh) (by omega)]; exact hh, rest⟩⟩
theorem Pl.doA_more (d : Pl.Dk) (k n : Int) : (Pl.doA d k n).1.past.length ≤ d.past.length + 1 := by
  unfold Pl.doA
  split
  · split
    · simp; omega
    · split
      · simp only [Pl.cut8]; split <;> simp
      · simp
  · simp [Pl.dk0]

/-- A desk's box and a truth behind the statement that draws a deed and does it. -/
def DrewCut (w0 : World) (r q m : Nat) (w1 : World) (s t : Value) (wc : World) : Prop :=
  ∃ (D : Pl.Dk) (f : Bool) (g : Nat) (a : Option Addr) (l : Nat), t = .bool f ∧ s = .pointer (some ⟨g, 0, none⟩) ∧ w1.heap.size ≤ g ∧ SBox wc g 30 #[.int .i64 D.b, .int .i64 D.n, .slice a D.past.length l] ∧ Row w1.heap.size wc (.slice a D.past.length l) D.past ∧ D.past.length ≤ m ∧ Rd w0 r q wc ∧ Only r w1 wc
theorem drew_last {w0 w1 v2 : World} {r q m : Nat} {D : Pl.Dk} {f : Bool} {a : Option Addr} {l : Nat} (hR : Rd w0 r q v2) (hO : Only r w1 v2) (o : Row w1.heap.size v2 (.slice a D.past.length l) D.past) (h8 : D.past.length ≤ m) :
    DrewCut w0 r q m w1 (.pointer (some ⟨v2.heap.size, 0, none⟩)) (.bool f) (v2.alloc (.cells #[.int .i64 D.b, .int .i64 D.n, .slice a D.past.length l] 30)) :=
  ⟨D, f, _, a, l, rfl, rfl, hO.size, SBox.new _ _ _, o.below ((Below.refl _ _).alloc (Nat.le_refl _) _), h8, hR.kept ((Below.refl _ _).alloc (Nat.le_refl _) _), hO.trans (Only.of_below ((Below.refl _ _).alloc (Nat.le_refl _) _))⟩
theorem drew_set {w0 w1 v2 : World} {r q g m : Nat} {D : Pl.Dk} {f : Bool} {a : Option Addr} {l : Nat} (hr : r < w1.heap.size) (hg : w1.heap.size ≤ g) (hR : Rd w0 r q v2) (hO : Only r w1 v2) (o : Row w1.heap.size v2 (.slice a D.past.length l) D.past) (h8 : D.past.length ≤ m)
    (n : SBox v2 g 30 #[.int .i64 0, .int .i64 0, .slice none 0 0]) :
    DrewCut w0 r q m w1 (.pointer (some ⟨g, 0, none⟩)) (.bool f) (((v2.setCell ⟨g, 0, none⟩ (.int .i64 D.b)).setCell ⟨g, 1, none⟩ (.int .i64 D.n)).setCell ⟨g, 2, none⟩ (.slice a D.past.length l)) :=
  ⟨D, f, g, a, l, rfl, rfl, hg, n.three _ _ _, ((o.setBox n (by decide) 0 _).setBox (n.set 0 _) (by decide) 1 _).setBox ((n.set 0 _).set 1 _) (by decide) 2 _, h8,
    ((hR.set (by omega)).set (by omega)).set (by omega), ((hO.above hg).above hg).above hg⟩

/-- What a deed makes of a desk. -/
def DidPost (m : Nat) (w : World) (e : Ending) (w' : World) : Prop :=
  ∃ (D : Pl.Dk) (f : Bool) (vr : Value), e = .returned (.tuple #[.agg #[.int .i64 D.b, .int .i64 D.n, vr], .bool f]) ∧ D.past.length ≤ m ∧ Row w.heap.size w' vr D.past ∧ Below w.heap.size w w'
theorem specDid (d : Pl.Dk) (pv : Value) (k n : Int) (w : World) (hp : Ints w pv d.past) (hx : d.past.length < 8) :
    Calls Tryz.prog 62 #[.agg #[.int .i64 d.b, .int .i64 d.n, pv], .agg #[.int .i64 k, .int .i64 n]] w (DidPost (d.past.length + 1) w) := by
  refine (specDeskDo d pv k n w hp (by omega)).mono ?_
  rintro e w' ⟨v, rfl, _, o, b⟩
  exact ⟨_, _, v, rfl, Pl.doA_more d k n, o hx, b⟩

/-- A desk is drawn. -/
def DeskDraw (w0 : World) (r q : Nat) (w : World) (e : Ending) (w' : World) : Prop :=
  ∃ (d : Pl.Dk) (v : Value), e = .returned (.agg #[.int .i64 d.b, .int .i64 d.n, v]) ∧ Row w.heap.size w' v d.past ∧ d.past.length ≤ 20 ∧ Rd w0 r (q + 2000) w' ∧ Only r w w'

set_option maxRecDepth 100000 in
set_option maxHeartbeats 8000000 in
theorem l20Desk (w0 : World) (r q : Nat) (n : Int) (w : World) (hR : Rd w0 r q w) (hq : q ≤ 20000) (hn : 1 ≤ n) (hn' : n ≤ 1000000) :
    Calls Tryz.prog 46 #[.pointer (some ⟨r, 0, none⟩), .int .i64 n] w (DeskDraw w0 r q w) := by
  obtain ⟨i0, hi0, hy0, hy1, hy2⟩ := info_parts info_int
  have hrw : r < w.heap.size := hR.lt.2
  have hR1 := hR.kept ((Below.refl _ w).alloc (Nat.le_refl _) (.cells #[.int .i64 0, .int .i64 0, .slice none 0 0] 30))
  have hO1 : Only r w (w.alloc (.cells #[.int .i64 0, .int .i64 0, .slice none 0 0] 30)) := Only.of_below ((Below.refl _ _).alloc (Nat.le_refl _) _)
  have hZ1 : SBox (w.alloc (.cells #[.int .i64 0, .int .i64 0, .slice none 0 0] 30)) w.heap.size 30 #[.int .i64 0, .int .i64 0, .slice none 0 0] := SBox.new _ _ _
  have hz1 : w.heap.size + 1 ≤ (w.alloc (.cells #[.int .i64 0, .int .i64 0, .slice none 0 0] 30)).heap.size := by simp
  have hwr : w.heap.size ≠ r := by omega
  clear hR
  go_enter Tryz.func46, Tryz.ntmps46
  go_upto_region 1 with (fail)
  generalize w.alloc (.cells #[.int .i64 0, .int .i64 0, .slice none 0 0] 30) = w1 at *
  go_wp2_with fail
  refine (l20Whole w0 r q w1 hR1 (by omega)).mono ?_
  rintro e w2 ⟨x, rfl, _, _, hR2, hO2⟩
  have O2 := hO1.trans hO2
  have Z2 := hZ1.only hO2 hwr
  have s2 := hO2.size
  clear hR1 hO1 hZ1 hO2
  go_wp2_with fail
  refine (l20Base w0 r _ w2 hR2 (by omega)).mono ?_
  rintro e w3 ⟨y, rfl, _, _, hR3, hO3⟩
  have O3 := O2.trans hO3
  have Z3 := Z2.only hO3 hwr
  have s3 := hO3.size
  clear hR2 O2 Z2 hO3
  have HN := Lib.hid (specDeskNew x y w3)
  cases hok : Pl.okB x y with
  | true =>
    have hP : Pl.newA x y = (⟨y, x, []⟩, true) := by unfold Pl.newA; rw [if_pos hok]
    rw [hP] at HN
    simp only at HN
    clear hok hP
    go_wp2_with fail
    refine HN.out.mono ?_
    rintro e w4 ⟨rfl, b4⟩
    clear HN
    have s4 := b4.size
    have R5 := (hR3.kept b4).kept ((Below.refl _ w4).alloc (Nat.le_refl _) (.cells #[.int .i64 y, .int .i64 x, .slice none 0 0] 30))
    have O5 : Only r w (w4.alloc (.cells #[.int .i64 y, .int .i64 x, .slice none 0 0] 30)) := (O3.trans (Only.of_below b4)).trans (Only.of_below ((Below.refl _ w4).alloc (Nat.le_refl _) _))
    have Z5 := (Z3.kept b4).alloc (.cells #[.int .i64 y, .int .i64 x, .slice none 0 0] 30)
    have S5 := SBox.new w4 30 #[.int .i64 y, .int .i64 x, .slice none 0 0]
    clear hR3 O3 Z3 b4
    obtain ⟨g5, hg5⟩ : ∃ g, g = w4.heap.size := ⟨_, rfl⟩
    have hgw : w.heap.size + 1 ≤ g5 := by omega
    have hgr : g5 ≠ r := by omega
    go_wp2_with fail
    rw [← hg5] at S5
    rw [← hg5]
    generalize w4.alloc (.cells #[.int .i64 y, .int .i64 x, .slice none 0 0] 30) = w5 at *
    clear hg5
    refine (pick w0 r _ 6 _ (by omega) R5).mono ?_
    rintro e w6 ⟨k0, rfl, x0, x1, R6, hO6⟩
    have x6 := x1 (by omega)
    have O6 := O5.trans hO6
    have Z6 := Z5.only hO6 hwr
    have S6 := S5.only hO6 (by omega)
    obtain ⟨K, rfl⟩ := Int.eq_ofNat_of_zero_le x0
    clear R5 O5 Z5 S5 hO6 x1
    have T6 := Lib.hid (show Row w.heap.size w6 (.slice none 0 0) [] from World.ownsRow_nil _ _ _ _)
    have S6' := Lib.hid S6
    clear S6
    go_wp2_with fail
    go_loopw [7] (fun k wr => ∃ (d : Pl.Dk) (j : Nat) (a5 : Option Addr) (l5 : Nat), j ≤ 5 ∧ k = .int .i64 j ∧ SBox wr g5 30 #[.int .i64 d.b, .int .i64 d.n, .slice a5 d.past.length l5] ∧ Row w.heap.size wr (.slice a5 d.past.length l5) d.past ∧ d.past.length + j ≤ 5 ∧ SBox wr w.heap.size 30 #[.int .i64 0, .int .i64 0, .slice none 0 0] ∧ Rd w0 r (q + 1000 - 100 * j) wr ∧ Only r w wr) (fun k _ => (intOf k).toNat)
    case atStart => exact ⟨⟨y, x, []⟩, K, none, 0, by omega, rfl, S6'.out, T6.out, by simp; omega, Z6, R6.le (by omega), O6⟩
    case round =>
      clear S6' T6 Z6 R6 O6
      obtain ⟨d, j, a5, l5, hj, rfl, S7, T7, h8, Z7, R7, O7⟩ := hrel
      have HS := Lib.hid S7
      have HT := Lib.hid T7
      have HZ := Lib.hid Z7
      have s7 := O7.size
      have hgl := S7.lt
      clear S7 T7 Z7
      by_cases hpos : 0 < j
      · have hi : (0 : Int) < (j : Int) := by omega
        have HD := Lib.hid (fun W (h : Rd w0 r (q + 1000 - 100 * j) W) => l20Deed w0 r _ W h (by omega))
        have HDo := Lib.hid (fun pv k n W (h : Ints W pv d.past) => specDid d pv k n W h (by omega))
        have hrr : r < wr.heap.size := by omega
        go_upto_region 7 with (fail)
        have y0 : wr.cell? ⟨g5, 0, none⟩ = some (.int .i64 d.b) ∧ wr.cell? ⟨g5, 1, none⟩ = some (.int .i64 d.n) ∧ wr.cell? ⟨g5, 2, none⟩ = some (.slice a5 d.past.length l5) := ⟨HS.out.cell 0, HS.out.cell 1, HS.out.cell 2⟩
        have y0A : (wr.alloc (.cells #[.int .i64 0, .int .i64 0, .slice none 0 0] 30)).cell? ⟨g5, 0, none⟩ = some (.int .i64 d.b) ∧ (wr.alloc (.cells #[.int .i64 0, .int .i64 0, .slice none 0 0] 30)).cell? ⟨g5, 1, none⟩ = some (.int .i64 d.n) ∧ (wr.alloc (.cells #[.int .i64 0, .int .i64 0, .slice none 0 0] 30)).cell? ⟨g5, 2, none⟩ = some (.slice a5 d.past.length l5) := ⟨(HS.out.alloc (.cells #[.int .i64 0, .int .i64 0, .slice none 0 0] 30)).cell 0, (HS.out.alloc (.cells #[.int .i64 0, .int .i64 0, .slice none 0 0] 30)).cell 1, (HS.out.alloc (.cells #[.int .i64 0, .int .i64 0, .slice none 0 0] 30)).cell 2⟩
        go_cut [8, 9] (fun s t wc => DrewCut w0 r (q + 1000 - 100 * j + 100) (d.past.length + 1) wr s t wc)
        case first =>
          go_region_held3 (fun w' => w'.cell? ⟨g5, 0, none⟩ = some (.int .i64 d.b) ∧ w'.cell? ⟨g5, 1, none⟩ = some (.int .i64 d.n) ∧ w'.cell? ⟨g5, 2, none⟩ = some (.slice a5 d.past.length l5))
            (first
              | with_reducible exact y0
              | with_reducible exact y0A
              | with_reducible exact y1
              | with_reducible exact y1A
              | with_reducible exact y2
              | with_reducible exact y2A
              | with_reducible exact yB
              | with_reducible exact ySa
              | with_reducible exact ySb
              | assumption)
            (first
              | (go_at_call 93; (with_reducible refine (HD.out _ (R7.kept ((Below.refl _ wr).drew))).mono ?_); rintro e v1 ⟨dk, dn, rfl, R1, o1'⟩; have o1 : Only r wr v1 := (Only.of_below ((Below.refl _ wr).drew)).trans o1'; have t1 := HT.out.onlyB hrw o1; have y1 : v1.cell? ⟨g5, 0, none⟩ = some (.int .i64 d.b) ∧ v1.cell? ⟨g5, 1, none⟩ = some (.int .i64 d.n) ∧ v1.cell? ⟨g5, 2, none⟩ = some (.slice a5 d.past.length l5) := ⟨(HS.out.only o1 hgr).cell 0, (HS.out.only o1 hgr).cell 1, (HS.out.only o1 hgr).cell 2⟩; have y1A : (v1.alloc (.cells #[.int .i64 0, .int .i64 0, .slice none 0 0] 30)).cell? ⟨g5, 0, none⟩ = some (.int .i64 d.b) ∧ (v1.alloc (.cells #[.int .i64 0, .int .i64 0, .slice none 0 0] 30)).cell? ⟨g5, 1, none⟩ = some (.int .i64 d.n) ∧ (v1.alloc (.cells #[.int .i64 0, .int .i64 0, .slice none 0 0] 30)).cell? ⟨g5, 2, none⟩ = some (.slice a5 d.past.length l5) := ⟨((HS.out.only o1 hgr).alloc (.cells #[.int .i64 0, .int .i64 0, .slice none 0 0] 30)).cell 0, ((HS.out.only o1 hgr).alloc (.cells #[.int .i64 0, .int .i64 0, .slice none 0 0] 30)).cell 1, ((HS.out.only o1 hgr).alloc (.cells #[.int .i64 0, .int .i64 0, .slice none 0 0] 30)).cell 2⟩; clear o1')
              | (go_at_call 93; (with_reducible refine (HD.out _ (R7.kept (((Below.refl _ wr).alloc (Nat.le_refl _) (.cells #[.int .i64 0, .int .i64 0, .slice none 0 0] 30)).drew))).mono ?_); rintro e v1 ⟨dk, dn, rfl, R1, o1'⟩; have o1 : Only r wr v1 := (Only.of_below (((Below.refl _ wr).alloc (Nat.le_refl _) (.cells #[.int .i64 0, .int .i64 0, .slice none 0 0] 30)).drew)).trans o1'; have t1 := HT.out.onlyB hrw o1; have y1 : v1.cell? ⟨g5, 0, none⟩ = some (.int .i64 d.b) ∧ v1.cell? ⟨g5, 1, none⟩ = some (.int .i64 d.n) ∧ v1.cell? ⟨g5, 2, none⟩ = some (.slice a5 d.past.length l5) := ⟨(HS.out.only o1 hgr).cell 0, (HS.out.only o1 hgr).cell 1, (HS.out.only o1 hgr).cell 2⟩; have y1A : (v1.alloc (.cells #[.int .i64 0, .int .i64 0, .slice none 0 0] 30)).cell? ⟨g5, 0, none⟩ = some (.int .i64 d.b) ∧ (v1.alloc (.cells #[.int .i64 0, .int .i64 0, .slice none 0 0] 30)).cell? ⟨g5, 1, none⟩ = some (.int .i64 d.n) ∧ (v1.alloc (.cells #[.int .i64 0, .int .i64 0, .slice none 0 0] 30)).cell? ⟨g5, 2, none⟩ = some (.slice a5 d.past.length l5) := ⟨((HS.out.only o1 hgr).alloc (.cells #[.int .i64 0, .int .i64 0, .slice none 0 0] 30)).cell 0, ((HS.out.only o1 hgr).alloc (.cells #[.int .i64 0, .int .i64 0, .slice none 0 0] 30)).cell 1, ((HS.out.only o1 hgr).alloc (.cells #[.int .i64 0, .int .i64 0, .slice none 0 0] 30)).cell 2⟩; have na : SBox v1 wr.heap.size 30 #[.int .i64 0, .int .i64 0, .slice none 0 0] := (o1'.block wr.heap.size (by simp) (by omega)).trans (heap_alloc_new wr _); clear o1')
              | (go_at_call 62; (with_reducible refine (HDo.out _ _ _ _ t1.ints).mono ?_); rintro e v2 ⟨D, ff, vr, rfl, hD8, o', b'⟩; have bs : Below v1.heap.size v1 v2 := b'; have o2 : Only r wr v2 := o1.trans (Only.of_below bs); have R2 := R1.kept bs; have orr : Row wr.heap.size v2 vr D.past := Row.mono o' (by first | exact o1.size | (simp; have := o1.size; omega)); obtain ⟨ar, lr, rfl, _⟩ := orr.ints; have hgl2 : g5 < v2.heap.size := Nat.lt_of_lt_of_le hgl o2.size; have y2 : v2.cell? ⟨g5, 0, none⟩ = some (.int .i64 d.b) ∧ v2.cell? ⟨g5, 1, none⟩ = some (.int .i64 d.n) ∧ v2.cell? ⟨g5, 2, none⟩ = some (.slice a5 d.past.length l5) := ⟨(HS.out.only o2 hgr).cell 0, (HS.out.only o2 hgr).cell 1, (HS.out.only o2 hgr).cell 2⟩; have y2A : (v2.alloc (.cells #[.int .i64 0, .int .i64 0, .slice none 0 0] 30)).cell? ⟨g5, 0, none⟩ = some (.int .i64 d.b) ∧ (v2.alloc (.cells #[.int .i64 0, .int .i64 0, .slice none 0 0] 30)).cell? ⟨g5, 1, none⟩ = some (.int .i64 d.n) ∧ (v2.alloc (.cells #[.int .i64 0, .int .i64 0, .slice none 0 0] 30)).cell? ⟨g5, 2, none⟩ = some (.slice a5 d.past.length l5) := ⟨((HS.out.only o2 hgr).alloc (.cells #[.int .i64 0, .int .i64 0, .slice none 0 0] 30)).cell 0, ((HS.out.only o2 hgr).alloc (.cells #[.int .i64 0, .int .i64 0, .slice none 0 0] 30)).cell 1, ((HS.out.only o2 hgr).alloc (.cells #[.int .i64 0, .int .i64 0, .slice none 0 0] 30)).cell 2⟩; (first | (have na := na.kept bs) | skip); have yB : (v2.alloc (.cells #[.int .i64 D.b, .int .i64 D.n, .slice ar D.past.length lr] 30)).cell? ⟨g5, 0, none⟩ = some (.int .i64 d.b) ∧ (v2.alloc (.cells #[.int .i64 D.b, .int .i64 D.n, .slice ar D.past.length lr] 30)).cell? ⟨g5, 1, none⟩ = some (.int .i64 d.n) ∧ (v2.alloc (.cells #[.int .i64 D.b, .int .i64 D.n, .slice ar D.past.length lr] 30)).cell? ⟨g5, 2, none⟩ = some (.slice a5 d.past.length l5) := ⟨((HS.out.only o2 hgr).alloc (.cells #[.int .i64 D.b, .int .i64 D.n, .slice ar D.past.length lr] 30)).cell 0, ((HS.out.only o2 hgr).alloc (.cells #[.int .i64 D.b, .int .i64 D.n, .slice ar D.past.length lr] 30)).cell 1, ((HS.out.only o2 hgr).alloc (.cells #[.int .i64 D.b, .int .i64 D.n, .slice ar D.past.length lr] 30)).cell 2⟩; (first | (have q0 := na.cell 0; have q1 := na.cell 1; have q2 := na.cell 2; have f0 := na.frozen 0; have f1 := na.frozen 1; have f2 := na.frozen 2; have ySa : (((v2.setCell ⟨wr.heap.size, 0, none⟩ (.int .i64 D.b)).setCell ⟨wr.heap.size, 1, none⟩ (.int .i64 D.n)).setCell ⟨wr.heap.size, 2, none⟩ (.slice ar D.past.length lr)).cell? ⟨g5, 0, none⟩ = some (.int .i64 d.b) ∧ (((v2.setCell ⟨wr.heap.size, 0, none⟩ (.int .i64 D.b)).setCell ⟨wr.heap.size, 1, none⟩ (.int .i64 D.n)).setCell ⟨wr.heap.size, 2, none⟩ (.slice ar D.past.length lr)).cell? ⟨g5, 1, none⟩ = some (.int .i64 d.n) ∧ (((v2.setCell ⟨wr.heap.size, 0, none⟩ (.int .i64 D.b)).setCell ⟨wr.heap.size, 1, none⟩ (.int .i64 D.n)).setCell ⟨wr.heap.size, 2, none⟩ (.slice ar D.past.length lr)).cell? ⟨g5, 2, none⟩ = some (.slice a5 d.past.length l5) := ⟨(SBox.far3 (HS.out.only o2 hgr) (Nat.ne_of_lt hgl) _ _ _).cell 0, (SBox.far3 (HS.out.only o2 hgr) (Nat.ne_of_lt hgl) _ _ _).cell 1, (SBox.far3 (HS.out.only o2 hgr) (Nat.ne_of_lt hgl) _ _ _).cell 2⟩) | skip); (first | (have q0 := nb.cell 0; have q1 := nb.cell 1; have q2 := nb.cell 2; have f0 := nb.frozen 0; have f1 := nb.frozen 1; have f2 := nb.frozen 2; have ySb : (((v2.setCell ⟨v1.heap.size, 0, none⟩ (.int .i64 D.b)).setCell ⟨v1.heap.size, 1, none⟩ (.int .i64 D.n)).setCell ⟨v1.heap.size, 2, none⟩ (.slice ar D.past.length lr)).cell? ⟨g5, 0, none⟩ = some (.int .i64 d.b) ∧ (((v2.setCell ⟨v1.heap.size, 0, none⟩ (.int .i64 D.b)).setCell ⟨v1.heap.size, 1, none⟩ (.int .i64 D.n)).setCell ⟨v1.heap.size, 2, none⟩ (.slice ar D.past.length lr)).cell? ⟨g5, 1, none⟩ = some (.int .i64 d.n) ∧ (((v2.setCell ⟨v1.heap.size, 0, none⟩ (.int .i64 D.b)).setCell ⟨v1.heap.size, 1, none⟩ (.int .i64 D.n)).setCell ⟨v1.heap.size, 2, none⟩ (.slice ar D.past.length lr)).cell? ⟨g5, 2, none⟩ = some (.slice a5 d.past.length l5) := ⟨(SBox.far3 (HS.out.only o2 hgr) (Nat.ne_of_lt (Nat.lt_of_lt_of_le hgl o1.size)) _ _ _).cell 0, (SBox.far3 (HS.out.only o2 hgr) (Nat.ne_of_lt (Nat.lt_of_lt_of_le hgl o1.size)) _ _ _).cell 1, (SBox.far3 (HS.out.only o2 hgr) (Nat.ne_of_lt (Nat.lt_of_lt_of_le hgl o1.size)) _ _ _).cell 2⟩) | skip); clear b' bs)
              | (go_at_call 62; (with_reducible refine (HDo.out _ _ _ _ (t1.ints.below ((Below.refl _ v1).alloc (Nat.le_refl _) (.cells #[.int .i64 0, .int .i64 0, .slice none 0 0] 30)))).mono ?_); rintro e v2 ⟨D, ff, vr, rfl, hD8, o', b'⟩; have bs : Below v1.heap.size v1 v2 := ((Below.refl _ v1).alloc (Nat.le_refl _) (.cells #[.int .i64 0, .int .i64 0, .slice none 0 0] 30)).trans (b'.mono (by simp)); have o2 : Only r wr v2 := o1.trans (Only.of_below bs); have R2 := R1.kept bs; have orr : Row wr.heap.size v2 vr D.past := Row.mono o' (by first | exact o1.size | (simp; have := o1.size; omega)); obtain ⟨ar, lr, rfl, _⟩ := orr.ints; have hgl2 : g5 < v2.heap.size := Nat.lt_of_lt_of_le hgl o2.size; have y2 : v2.cell? ⟨g5, 0, none⟩ = some (.int .i64 d.b) ∧ v2.cell? ⟨g5, 1, none⟩ = some (.int .i64 d.n) ∧ v2.cell? ⟨g5, 2, none⟩ = some (.slice a5 d.past.length l5) := ⟨(HS.out.only o2 hgr).cell 0, (HS.out.only o2 hgr).cell 1, (HS.out.only o2 hgr).cell 2⟩; have y2A : (v2.alloc (.cells #[.int .i64 0, .int .i64 0, .slice none 0 0] 30)).cell? ⟨g5, 0, none⟩ = some (.int .i64 d.b) ∧ (v2.alloc (.cells #[.int .i64 0, .int .i64 0, .slice none 0 0] 30)).cell? ⟨g5, 1, none⟩ = some (.int .i64 d.n) ∧ (v2.alloc (.cells #[.int .i64 0, .int .i64 0, .slice none 0 0] 30)).cell? ⟨g5, 2, none⟩ = some (.slice a5 d.past.length l5) := ⟨((HS.out.only o2 hgr).alloc (.cells #[.int .i64 0, .int .i64 0, .slice none 0 0] 30)).cell 0, ((HS.out.only o2 hgr).alloc (.cells #[.int .i64 0, .int .i64 0, .slice none 0 0] 30)).cell 1, ((HS.out.only o2 hgr).alloc (.cells #[.int .i64 0, .int .i64 0, .slice none 0 0] 30)).cell 2⟩; (first | (have na := na.kept bs) | skip); have nb : SBox v2 v1.heap.size 30 #[.int .i64 0, .int .i64 0, .slice none 0 0] := (b'.block v1.heap.size (by simp)).trans (heap_alloc_new v1 _); have yB : (v2.alloc (.cells #[.int .i64 D.b, .int .i64 D.n, .slice ar D.past.length lr] 30)).cell? ⟨g5, 0, none⟩ = some (.int .i64 d.b) ∧ (v2.alloc (.cells #[.int .i64 D.b, .int .i64 D.n, .slice ar D.past.length lr] 30)).cell? ⟨g5, 1, none⟩ = some (.int .i64 d.n) ∧ (v2.alloc (.cells #[.int .i64 D.b, .int .i64 D.n, .slice ar D.past.length lr] 30)).cell? ⟨g5, 2, none⟩ = some (.slice a5 d.past.length l5) := ⟨((HS.out.only o2 hgr).alloc (.cells #[.int .i64 D.b, .int .i64 D.n, .slice ar D.past.length lr] 30)).cell 0, ((HS.out.only o2 hgr).alloc (.cells #[.int .i64 D.b, .int .i64 D.n, .slice ar D.past.length lr] 30)).cell 1, ((HS.out.only o2 hgr).alloc (.cells #[.int .i64 D.b, .int .i64 D.n, .slice ar D.past.length lr] 30)).cell 2⟩; (first | (have q0 := na.cell 0; have q1 := na.cell 1; have q2 := na.cell 2; have f0 := na.frozen 0; have f1 := na.frozen 1; have f2 := na.frozen 2; have ySa : (((v2.setCell ⟨wr.heap.size, 0, none⟩ (.int .i64 D.b)).setCell ⟨wr.heap.size, 1, none⟩ (.int .i64 D.n)).setCell ⟨wr.heap.size, 2, none⟩ (.slice ar D.past.length lr)).cell? ⟨g5, 0, none⟩ = some (.int .i64 d.b) ∧ (((v2.setCell ⟨wr.heap.size, 0, none⟩ (.int .i64 D.b)).setCell ⟨wr.heap.size, 1, none⟩ (.int .i64 D.n)).setCell ⟨wr.heap.size, 2, none⟩ (.slice ar D.past.length lr)).cell? ⟨g5, 1, none⟩ = some (.int .i64 d.n) ∧ (((v2.setCell ⟨wr.heap.size, 0, none⟩ (.int .i64 D.b)).setCell ⟨wr.heap.size, 1, none⟩ (.int .i64 D.n)).setCell ⟨wr.heap.size, 2, none⟩ (.slice ar D.past.length lr)).cell? ⟨g5, 2, none⟩ = some (.slice a5 d.past.length l5) := ⟨(SBox.far3 (HS.out.only o2 hgr) (Nat.ne_of_lt hgl) _ _ _).cell 0, (SBox.far3 (HS.out.only o2 hgr) (Nat.ne_of_lt hgl) _ _ _).cell 1, (SBox.far3 (HS.out.only o2 hgr) (Nat.ne_of_lt hgl) _ _ _).cell 2⟩) | skip); (first | (have q0 := nb.cell 0; have q1 := nb.cell 1; have q2 := nb.cell 2; have f0 := nb.frozen 0; have f1 := nb.frozen 1; have f2 := nb.frozen 2; have ySb : (((v2.setCell ⟨v1.heap.size, 0, none⟩ (.int .i64 D.b)).setCell ⟨v1.heap.size, 1, none⟩ (.int .i64 D.n)).setCell ⟨v1.heap.size, 2, none⟩ (.slice ar D.past.length lr)).cell? ⟨g5, 0, none⟩ = some (.int .i64 d.b) ∧ (((v2.setCell ⟨v1.heap.size, 0, none⟩ (.int .i64 D.b)).setCell ⟨v1.heap.size, 1, none⟩ (.int .i64 D.n)).setCell ⟨v1.heap.size, 2, none⟩ (.slice ar D.past.length lr)).cell? ⟨g5, 1, none⟩ = some (.int .i64 d.n) ∧ (((v2.setCell ⟨v1.heap.size, 0, none⟩ (.int .i64 D.b)).setCell ⟨v1.heap.size, 1, none⟩ (.int .i64 D.n)).setCell ⟨v1.heap.size, 2, none⟩ (.slice ar D.past.length lr)).cell? ⟨g5, 2, none⟩ = some (.slice a5 d.past.length l5) := ⟨(SBox.far3 (HS.out.only o2 hgr) (Nat.ne_of_lt (Nat.lt_of_lt_of_le hgl o1.size)) _ _ _).cell 0, (SBox.far3 (HS.out.only o2 hgr) (Nat.ne_of_lt (Nat.lt_of_lt_of_le hgl o1.size)) _ _ _).cell 1, (SBox.far3 (HS.out.only o2 hgr) (Nat.ne_of_lt (Nat.lt_of_lt_of_le hgl o1.size)) _ _ _).cell 2⟩) | skip); clear b' bs))
          all_goals
            go_wp2_with fail
            go_meet
            first
              | exact drew_last R2 o2 orr hD8
              | exact drew_set hrr (Nat.le_refl _) R2 o2 orr hD8 na
              | exact drew_set hrr o1.size R2 o2 orr hD8 nb
        case rest =>
          obtain ⟨D, f, g8, a8, l8, rfl, rfl, hg8, S8, T8, hD8, R8, O8⟩ := hcut
          have S5c := HS.out.only O8 hgr
          have Z8 := HZ.out.only O8 hwr
          have T5 := Lib.hid (HT.out.onlyB hrw O8)
          have T8' := Lib.hid (Row.mono T8 s7)
          have O9 := O7.trans O8
          clear T8 O8 O7 R7 HS HZ HT y0 y0A HD HDo
          cases f with
          | true =>
            go_wp2_with (first | (refine desk_load rfl _ rfl rfl S8 ?_) | (refine desk_store rfl _ _ rfl rfl rfl rfl S5c ?_; intro w9 hS9 hbl9 hsz9 hO9))
            have T9 := Lib.hid (T8'.out.stored S5c (by decide) hO9)
            have R9 := R8.over (hbl9 (r + 1) (by omega))
            have Z9 : SBox w9 w.heap.size 30 #[.int .i64 0, .int .i64 0, .slice none 0 0] := (hO9 _ (by omega)).trans Z8
            have O10 : Only r w w9 := ⟨by rw [hsz9]; exact O9.size, fun i hi hir => (hO9 i (by omega)).trans (O9.block i hi hir)⟩
            have S9 := Lib.hid hS9
            clear S8 S5c R8 Z8 O9 T5 T8' hbl9 hO9 hsz9 hS9
            go_wp2_with fail
            go_roundw
            case rel => exact ⟨D, j - 1, a8, l8, by omega, by rw [show ((j - 1 : Nat) : Int) = (j : Int) - 1 from by omega], S9.out, T9.out, by omega, Z9, R9.le (by omega), O10⟩
            case measure => simp [intOf]; omega
          | false =>
            have S9 := Lib.hid S5c
            clear S8 S5c T8'
            go_wp2_with fail
            go_roundw
            case rel => exact ⟨d, j - 1, a5, l5, by omega, by rw [show ((j - 1 : Nat) : Int) = (j : Int) - 1 from by omega], S9.out, T5.out, by omega, Z8, R8.le (by omega), O9⟩
            case measure => simp [intOf]; omega
      · obtain rfl : j = 0 := by omega
        go_wp2_with fail
        refine (odd w0 r _ n wr R7 (by omega) hn hn').mono ?_
        rintro e w8 ⟨bb, rfl, R8, hO8⟩
        have S8 := HS.out.only hO8 hgr
        have Z8 := HZ.out.only hO8 hwr
        have T8 := Lib.hid (HT.out.onlyB hrw hO8)
        have O8 := O7.trans hO8
        have s8 := O8.size
        clear hO8 O7 R7 HS HZ HT
        cases bb with
        | false =>
          go_wp2_with (first | (refine desk_load rfl _ rfl rfl S8 ?_) | (refine desk_store rfl _ _ rfl rfl rfl rfl Z8 ?_; intro w9 hS9 hbl9 hsz9 hO9))
          refine bodyPost_ret (results_one rfl _ _ w.heap.size _ _ rfl hS9 rfl Tryz.underlying30 (by rw [size_desk]; rfl)) rfl ?_
          exact ⟨d, _, rfl, T8.out.stored Z8 (by decide) hO9, by omega, (R8.over (hbl9 (r + 1) (by omega))).le (by omega), ⟨by rw [hsz9]; exact O8.size, fun i hi hir => (hO9 i (by omega)).trans (O8.block i hi hir)⟩⟩
        | true =>
          go_wp2_with fail
          refine (pick w0 r _ 3 w8 (by omega) R8).mono ?_
          rintro e w9 ⟨X, rfl, X0, X1, R9, hO9⟩
          have X3 := X1 (by omega)
          have S9 := S8.only hO9 hgr
          have Z9 := Z8.only hO9 hwr
          have T9 := Lib.hid (T8.out.onlyB hrw hO9)
          have O9 := O8.trans hO9
          have s9 := O9.size
          clear hO9 O8 R8 S8 Z8 T8 X1
          by_cases hX0 : X = 0
          · subst hX0
            have c0 := S9.cell 0
            have f0 := S9.frozen 0
            have SA := Lib.hid (S9.set 0 (.int .i64 1))
            have ZA := Lib.hid (Z9.far (p := ⟨g5, 0, none⟩) (by simp; omega) (.int .i64 1))
            have TA := Lib.hid (T9.out.setBox S9 (by decide) 0 (.int .i64 1))
            have OA := Lib.hid (O9.above (o := 0) (v := .int .i64 1) (show w.heap.size ≤ g5 by omega))
            have RA := Lib.hid (R9.set (o := 0) (v := .int .i64 1) (show r < g5 by omega))
            clear S9 Z9 T9 O9 R9
            go_wp2_with (first | (refine desk_load rfl _ rfl rfl SA.out ?_) | (refine desk_store rfl _ _ rfl rfl rfl rfl ZA.out ?_; intro wz hSz hblz hszz hOz))
            refine bodyPost_ret (results_one rfl _ _ w.heap.size _ _ rfl hSz rfl Tryz.underlying30 (by rw [size_desk]; rfl)) rfl ?_
            exact ⟨⟨1, d.n, d.past⟩, _, rfl, TA.out.stored ZA.out (by decide) hOz, by show d.past.length ≤ 20; omega, (RA.out.over (hblz (r + 1) (by omega))).le (by omega), ⟨by rw [hszz]; exact OA.out.size, fun i hi hir => (hOz i (by omega)).trans (OA.out.block i hi hir)⟩⟩
          · have hX0b : (X == 0) = false := by simp [hX0]
            by_cases hX1 : X = 1
            · subst hX1
              have c2 := S9.cell 2
              have f2 := S9.frozen 2
              have hr' : w9.ownsRow w.heap.size 3 1 (.slice a5 d.past.length l5) d.past.length (d.past.map (Value.int .i64)) := T9.out
              have hneD : ∀ B, SBox w9 B 30 #[.int .i64 d.b, .int .i64 d.n, .slice a5 d.past.length l5] ∨ SBox w9 B 30 #[.int .i64 0, .int .i64 0, .slice none 0 0] → (Value.slice a5 d.past.length l5).ownBlock ≠ some B := by
                intro B hB h
                obtain ⟨_, cur, h4⟩ := OwnTail.block (.inl T9.out) h
                unfold SBox at hB
                rcases hB with hB | hB
                all_goals
                  rw [hB] at h4
                  injection h4 with h4
                  injection h4 with _ ht _
                  exact absurd ht (by decide)
              have HND := Lib.hid hneD
              clear hneD
              go_upto_region 17 with (at_builtin; refine wpList_append_own _ rfl _ _ 28 rfl w.heap.size 3 i0 (.int .i64 0) 1 8 Tryz.underlying28 hi0 hy0 hy1 hy2 rfl (by decide) _ _ _ rfl (hr'.alloc _) ⟨w9.heap.size, 0, none⟩ 1 1 [.int .i64 (-1)] rfl rfl (cell_one_new _ _ _) (by simp [Value.oneCell']) (by unfold maxLen; omega) (by omega) (by simp; omega) ?_; intro v6 w6 hown6 hgrow6 _; have hb6 : Below w.heap.size w9 w6 := ((Below.refl w.heap.size w9).alloc (by omega) _).grown hgrow6 (by simp; omega) fun k e => (hr'.lt k e).1; have S6 := (S9.alloc _).grown hgrow6 (HND.out _ (.inl S9)); have Z6 := (Z9.alloc _).grown hgrow6 (HND.out _ (.inr Z9)); have O6 := O9.then (Nat.le_refl _) hb6; have R6 := R9.over (hb6.mono (by omega)); have T6 := row_snoc hown6; obtain ⟨a6, l6, rfl⟩ : ∃ a l, v6 = .slice a (d.past.length + 1) l := (by obtain ⟨a, l, h⟩ := T6.shape; exact ⟨a, l, by rw [h]; simp⟩); have e2 := S6.cell 2; have g2 := S6.frozen 2)
              have SA := Lib.hid (S6.set 2 (.slice a6 (d.past.length + 1) l6))
              have ZA := Lib.hid (Z6.far (p := ⟨g5, 2, none⟩) (by simp; omega) (.slice a6 (d.past.length + 1) l6))
              have TA := Lib.hid (T6.setBox S6 (by decide) 2 (.slice a6 (d.past.length + 1) l6))
              have OA := Lib.hid (O6.above (o := 2) (v := .slice a6 (d.past.length + 1) l6) (show w.heap.size ≤ g5 by omega))
              have RA := Lib.hid (R6.set (o := 2) (v := .slice a6 (d.past.length + 1) l6) (show r < g5 by omega))
              clear S9 Z9 T9 O9 R9 hown6 hgrow6 hr' S6 Z6 O6 R6 T6 HND
              go_wp2_with (first | (refine desk_load rfl _ rfl rfl SA.out ?_) | (refine desk_store rfl _ _ rfl rfl rfl rfl ZA.out ?_; intro wz hSz hblz hszz hOz))
              refine bodyPost_ret (results_one rfl _ _ w.heap.size _ _ rfl hSz rfl Tryz.underlying30 (by rw [size_desk]; rfl)) rfl ?_
              exact ⟨⟨d.b, d.n, d.past ++ [-1]⟩, _, rfl, TA.out.stored ZA.out (by decide) hOz, by simp; omega, (RA.out.over (hblz (r + 1) (by omega))).le (by omega), ⟨by rw [hszz]; exact OA.out.size, fun i hi hir => (hOz i (by omega)).trans (OA.out.block i hi hir)⟩⟩
            · have hX1b : (X == 1) = false := by simp [hX1]
              go_wp2_with (refine desk_store rfl _ _ rfl rfl rfl rfl Z9 ?_; intro wz hSz hblz hszz hOz)
              refine bodyPost_ret (results_one rfl _ _ w.heap.size _ _ rfl hSz rfl Tryz.underlying30 (by rw [size_desk]; rfl)) rfl ?_
              exact ⟨⟨0, 0, []⟩, _, rfl, World.ownsRow_nil _ _ _ _, by simp, (R9.over (hblz (r + 1) (by omega))).le (by omega), ⟨by rw [hszz]; exact O9.size, fun i hi hir => (hOz i (by omega)).trans (O9.block i hi hir)⟩⟩
  | false =>
    have hP : Pl.newA x y = (⟨0, 0, []⟩, false) := by unfold Pl.newA; rw [if_neg (by rw [hok]; decide)]; rfl
    rw [hP] at HN
    simp only at HN
    clear hok hP
    go_wp2_with fail
    refine HN.out.mono ?_
    rintro e w4 ⟨rfl, b4⟩
    clear HN
    have s4 := b4.size
    have R5 := (hR3.kept b4).kept ((Below.refl _ w4).alloc (Nat.le_refl _) (.cells #[.int .i64 0, .int .i64 0, .slice none 0 0] 30))
    have O5 : Only r w (w4.alloc (.cells #[.int .i64 0, .int .i64 0, .slice none 0 0] 30)) := (O3.trans (Only.of_below b4)).trans (Only.of_below ((Below.refl _ w4).alloc (Nat.le_refl _) _))
    have Z5 := (Z3.kept b4).alloc (.cells #[.int .i64 0, .int .i64 0, .slice none 0 0] 30)
    have S5 := SBox.new w4 30 #[.int .i64 0, .int .i64 0, .slice none 0 0]
    clear hR3 O3 Z3 b4
    obtain ⟨g5, hg5⟩ : ∃ g, g = w4.heap.size := ⟨_, rfl⟩
    have hgw : w.heap.size + 1 ≤ g5 := by omega
    have hgr : g5 ≠ r := by omega
    have S5' := Lib.hid S5
    go_upto_region 3 with (fail)
    go_wp2_with (refine desk_store rfl _ _ rfl rfl rfl rfl S5'.out ?_; intro w9 hS9 hbl9 hsz9 hO9)
    have R9 := R5.over (hbl9 (r + 1) (by omega))
    have O9 : Only r w w9 := ⟨by rw [hsz9]; exact O5.size, fun i hi hir => (hO9 i (by omega)).trans (O5.block i hi hir)⟩
    have Z9 : SBox w9 w.heap.size 30 #[.int .i64 0, .int .i64 0, .slice none 0 0] := (hO9 _ (by omega)).trans Z5
    clear R5 O5 Z5 S5 S5' hbl9 hsz9 hO9
    have R5 := R9
    have O5 := O9
    have Z5 := Z9
    have S5 := hS9
    clear R9 O9 Z9 hS9
    rw [← hg5] at S5
    rw [← hg5]
    clear hg5
    refine (pick w0 r _ 6 _ (by omega) R5).mono ?_
    rintro e w6 ⟨k0, rfl, x0, x1, R6, hO6⟩
    have x6 := x1 (by omega)
    have O6 := O5.trans hO6
    have Z6 := Z5.only hO6 hwr
    have S6 := S5.only hO6 (by omega)
    obtain ⟨K, rfl⟩ := Int.eq_ofNat_of_zero_le x0
    clear R5 O5 Z5 S5 hO6 x1
    have T6 := Lib.hid (show Row w.heap.size w6 (.slice none 0 0) [] from World.ownsRow_nil _ _ _ _)
    have S6' := Lib.hid S6
    clear S6
    go_wp2_with fail
    go_loopw [7] (fun k wr => ∃ (d : Pl.Dk) (j : Nat) (a5 : Option Addr) (l5 : Nat), j ≤ 5 ∧ k = .int .i64 j ∧ SBox wr g5 30 #[.int .i64 d.b, .int .i64 d.n, .slice a5 d.past.length l5] ∧ Row w.heap.size wr (.slice a5 d.past.length l5) d.past ∧ d.past.length + j ≤ 5 ∧ SBox wr w.heap.size 30 #[.int .i64 0, .int .i64 0, .slice none 0 0] ∧ Rd w0 r (q + 1000 - 100 * j) wr ∧ Only r w wr) (fun k _ => (intOf k).toNat)
    case atStart => exact ⟨⟨10, 196, []⟩, K, none, 0, by omega, rfl, S6'.out, T6.out, by simp; omega, Z6, R6.le (by omega), O6⟩
    case round =>
      clear S6' T6 Z6 R6 O6
      obtain ⟨d, j, a5, l5, hj, rfl, S7, T7, h8, Z7, R7, O7⟩ := hrel
      have HS := Lib.hid S7
      have HT := Lib.hid T7
      have HZ := Lib.hid Z7
      have s7 := O7.size
      have hgl := S7.lt
      clear S7 T7 Z7
      by_cases hpos : 0 < j
      · have hi : (0 : Int) < (j : Int) := by omega
        have HD := Lib.hid (fun W (h : Rd w0 r (q + 1000 - 100 * j) W) => l20Deed w0 r _ W h (by omega))
        have HDo := Lib.hid (fun pv k n W (h : Ints W pv d.past) => specDid d pv k n W h (by omega))
        have hrr : r < wr.heap.size := by omega
        go_upto_region 7 with (fail)
        have y0 : wr.cell? ⟨g5, 0, none⟩ = some (.int .i64 d.b) ∧ wr.cell? ⟨g5, 1, none⟩ = some (.int .i64 d.n) ∧ wr.cell? ⟨g5, 2, none⟩ = some (.slice a5 d.past.length l5) := ⟨HS.out.cell 0, HS.out.cell 1, HS.out.cell 2⟩
        have y0A : (wr.alloc (.cells #[.int .i64 0, .int .i64 0, .slice none 0 0] 30)).cell? ⟨g5, 0, none⟩ = some (.int .i64 d.b) ∧ (wr.alloc (.cells #[.int .i64 0, .int .i64 0, .slice none 0 0] 30)).cell? ⟨g5, 1, none⟩ = some (.int .i64 d.n) ∧ (wr.alloc (.cells #[.int .i64 0, .int .i64 0, .slice none 0 0] 30)).cell? ⟨g5, 2, none⟩ = some (.slice a5 d.past.length l5) := ⟨(HS.out.alloc (.cells #[.int .i64 0, .int .i64 0, .slice none 0 0] 30)).cell 0, (HS.out.alloc (.cells #[.int .i64 0, .int .i64 0, .slice none 0 0] 30)).cell 1, (HS.out.alloc (.cells #[.int .i64 0, .int .i64 0, .slice none 0 0] 30)).cell 2⟩
        go_cut [8, 9] (fun s t wc => DrewCut w0 r (q + 1000 - 100 * j + 100) (d.past.length + 1) wr s t wc)
        case first =>
          go_region_held3 (fun w' => w'.cell? ⟨g5, 0, none⟩ = some (.int .i64 d.b) ∧ w'.cell? ⟨g5, 1, none⟩ = some (.int .i64 d.n) ∧ w'.cell? ⟨g5, 2, none⟩ = some (.slice a5 d.past.length l5))
            (first
              | with_reducible exact y0
              | with_reducible exact y0A
              | with_reducible exact y1
              | with_reducible exact y1A
              | with_reducible exact y2
              | with_reducible exact y2A
              | with_reducible exact yB
              | with_reducible exact ySa
              | with_reducible exact ySb
              | assumption)
            (first
              | (go_at_call 93; (with_reducible refine (HD.out _ (R7.kept ((Below.refl _ wr).drew))).mono ?_); rintro e v1 ⟨dk, dn, rfl, R1, o1'⟩; have o1 : Only r wr v1 := (Only.of_below ((Below.refl _ wr).drew)).trans o1'; have t1 := HT.out.onlyB hrw o1; have y1 : v1.cell? ⟨g5, 0, none⟩ = some (.int .i64 d.b) ∧ v1.cell? ⟨g5, 1, none⟩ = some (.int .i64 d.n) ∧ v1.cell? ⟨g5, 2, none⟩ = some (.slice a5 d.past.length l5) := ⟨(HS.out.only o1 hgr).cell 0, (HS.out.only o1 hgr).cell 1, (HS.out.only o1 hgr).cell 2⟩; have y1A : (v1.alloc (.cells #[.int .i64 0, .int .i64 0, .slice none 0 0] 30)).cell? ⟨g5, 0, none⟩ = some (.int .i64 d.b) ∧ (v1.alloc (.cells #[.int .i64 0, .int .i64 0, .slice none 0 0] 30)).cell? ⟨g5, 1, none⟩ = some (.int .i64 d.n) ∧ (v1.alloc (.cells #[.int .i64 0, .int .i64 0, .slice none 0 0] 30)).cell? ⟨g5, 2, none⟩ = some (.slice a5 d.past.length l5) := ⟨((HS.out.only o1 hgr).alloc (.cells #[.int .i64 0, .int .i64 0, .slice none 0 0] 30)).cell 0, ((HS.out.only o1 hgr).alloc (.cells #[.int .i64 0, .int .i64 0, .slice none 0 0] 30)).cell 1, ((HS.out.only o1 hgr).alloc (.cells #[.int .i64 0, .int .i64 0, .slice none 0 0] 30)).cell 2⟩; clear o1')
              | (go_at_call 93; (with_reducible refine (HD.out _ (R7.kept (((Below.refl _ wr).alloc (Nat.le_refl _) (.cells #[.int .i64 0, .int .i64 0, .slice none 0 0] 30)).drew))).mono ?_); rintro e v1 ⟨dk, dn, rfl, R1, o1'⟩; have o1 : Only r wr v1 := (Only.of_below (((Below.refl _ wr).alloc (Nat.le_refl _) (.cells #[.int .i64 0, .int .i64 0, .slice none 0 0] 30)).drew)).trans o1'; have t1 := HT.out.onlyB hrw o1; have y1 : v1.cell? ⟨g5, 0, none⟩ = some (.int .i64 d.b) ∧ v1.cell? ⟨g5, 1, none⟩ = some (.int .i64 d.n) ∧ v1.cell? ⟨g5, 2, none⟩ = some (.slice a5 d.past.length l5) := ⟨(HS.out.only o1 hgr).cell 0, (HS.out.only o1 hgr).cell 1, (HS.out.only o1 hgr).cell 2⟩; have y1A : (v1.alloc (.cells #[.int .i64 0, .int .i64 0, .slice none 0 0] 30)).cell? ⟨g5, 0, none⟩ = some (.int .i64 d.b) ∧ (v1.alloc (.cells #[.int .i64 0, .int .i64 0, .slice none 0 0] 30)).cell? ⟨g5, 1, none⟩ = some (.int .i64 d.n) ∧ (v1.alloc (.cells #[.int .i64 0, .int .i64 0, .slice none 0 0] 30)).cell? ⟨g5, 2, none⟩ = some (.slice a5 d.past.length l5) := ⟨((HS.out.only o1 hgr).alloc (.cells #[.int .i64 0, .int .i64 0, .slice none 0 0] 30)).cell 0, ((HS.out.only o1 hgr).alloc (.cells #[.int .i64 0, .int .i64 0, .slice none 0 0] 30)).cell 1, ((HS.out.only o1 hgr).alloc (.cells #[.int .i64 0, .int .i64 0, .slice none 0 0] 30)).cell 2⟩; have na : SBox v1 wr.heap.size 30 #[.int .i64 0, .int .i64 0, .slice none 0 0] := (o1'.block wr.heap.size (by simp) (by omega)).trans (heap_alloc_new wr _); clear o1')
              | (go_at_call 62; (with_reducible refine (HDo.out _ _ _ _ t1.ints).mono ?_); rintro e v2 ⟨D, ff, vr, rfl, hD8, o', b'⟩; have bs : Below v1.heap.size v1 v2 := b'; have o2 : Only r wr v2 := o1.trans (Only.of_below bs); have R2 := R1.kept bs; have orr : Row wr.heap.size v2 vr D.past := Row.mono o' (by first | exact o1.size | (simp; have := o1.size; omega)); obtain ⟨ar, lr, rfl, _⟩ := orr.ints; have hgl2 : g5 < v2.heap.size := Nat.lt_of_lt_of_le hgl o2.size; have y2 : v2.cell? ⟨g5, 0, none⟩ = some (.int .i64 d.b) ∧ v2.cell? ⟨g5, 1, none⟩ = some (.int .i64 d.n) ∧ v2.cell? ⟨g5, 2, none⟩ = some (.slice a5 d.past.length l5) := ⟨(HS.out.only o2 hgr).cell 0, (HS.out.only o2 hgr).cell 1, (HS.out.only o2 hgr).cell 2⟩; have y2A : (v2.alloc (.cells #[.int .i64 0, .int .i64 0, .slice none 0 0] 30)).cell? ⟨g5, 0, none⟩ = some (.int .i64 d.b) ∧ (v2.alloc (.cells #[.int .i64 0, .int .i64 0, .slice none 0 0] 30)).cell? ⟨g5, 1, none⟩ = some (.int .i64 d.n) ∧ (v2.alloc (.cells #[.int .i64 0, .int .i64 0, .slice none 0 0] 30)).cell? ⟨g5, 2, none⟩ = some (.slice a5 d.past.length l5) := ⟨((HS.out.only o2 hgr).alloc (.cells #[.int .i64 0, .int .i64 0, .slice none 0 0] 30)).cell 0, ((HS.out.only o2 hgr).alloc (.cells #[.int .i64 0, .int .i64 0, .slice none 0 0] 30)).cell 1, ((HS.out.only o2 hgr).alloc (.cells #[.int .i64 0, .int .i64 0, .slice none 0 0] 30)).cell 2⟩; (first | (have na := na.kept bs) | skip); have yB : (v2.alloc (.cells #[.int .i64 D.b, .int .i64 D.n, .slice ar D.past.length lr] 30)).cell? ⟨g5, 0, none⟩ = some (.int .i64 d.b) ∧ (v2.alloc (.cells #[.int .i64 D.b, .int .i64 D.n, .slice ar D.past.length lr] 30)).cell? ⟨g5, 1, none⟩ = some (.int .i64 d.n) ∧ (v2.alloc (.cells #[.int .i64 D.b, .int .i64 D.n, .slice ar D.past.length lr] 30)).cell? ⟨g5, 2, none⟩ = some (.slice a5 d.past.length l5) := ⟨((HS.out.only o2 hgr).alloc (.cells #[.int .i64 D.b, .int .i64 D.n, .slice ar D.past.length lr] 30)).cell 0, ((HS.out.only o2 hgr).alloc (.cells #[.int .i64 D.b, .int .i64 D.n, .slice ar D.past.length lr] 30)).cell 1, ((HS.out.only o2 hgr).alloc (.cells #[.int .i64 D.b, .int .i64 D.n, .slice ar D.past.length lr] 30)).cell 2⟩; (first | (have q0 := na.cell 0; have q1 := na.cell 1; have q2 := na.cell 2; have f0 := na.frozen 0; have f1 := na.frozen 1; have f2 := na.frozen 2; have ySa : (((v2.setCell ⟨wr.heap.size, 0, none⟩ (.int .i64 D.b)).setCell ⟨wr.heap.size, 1, none⟩ (.int .i64 D.n)).setCell ⟨wr.heap.size, 2, none⟩ (.slice ar D.past.length lr)).cell? ⟨g5, 0, none⟩ = some (.int .i64 d.b) ∧ (((v2.setCell ⟨wr.heap.size, 0, none⟩ (.int .i64 D.b)).setCell ⟨wr.heap.size, 1, none⟩ (.int .i64 D.n)).setCell ⟨wr.heap.size, 2, none⟩ (.slice ar D.past.length lr)).cell? ⟨g5, 1, none⟩ = some (.int .i64 d.n) ∧ (((v2.setCell ⟨wr.heap.size, 0, none⟩ (.int .i64 D.b)).setCell ⟨wr.heap.size, 1, none⟩ (.int .i64 D.n)).setCell ⟨wr.heap.size, 2, none⟩ (.slice ar D.past.length lr)).cell? ⟨g5, 2, none⟩ = some (.slice a5 d.past.length l5) := ⟨(SBox.far3 (HS.out.only o2 hgr) (Nat.ne_of_lt hgl) _ _ _).cell 0, (SBox.far3 (HS.out.only o2 hgr) (Nat.ne_of_lt hgl) _ _ _).cell 1, (SBox.far3 (HS.out.only o2 hgr) (Nat.ne_of_lt hgl) _ _ _).cell 2⟩) | skip); (first | (have q0 := nb.cell 0; have q1 := nb.cell 1; have q2 := nb.cell 2; have f0 := nb.frozen 0; have f1 := nb.frozen 1; have f2 := nb.frozen 2; have ySb : (((v2.setCell ⟨v1.heap.size, 0, none⟩ (.int .i64 D.b)).setCell ⟨v1.heap.size, 1, none⟩ (.int .i64 D.n)).setCell ⟨v1.heap.size, 2, none⟩ (.slice ar D.past.length lr)).cell? ⟨g5, 0, none⟩ = some (.int .i64 d.b) ∧ (((v2.setCell ⟨v1.heap.size, 0, none⟩ (.int .i64 D.b)).setCell ⟨v1.heap.size, 1, none⟩ (.int .i64 D.n)).setCell ⟨v1.heap.size, 2, none⟩ (.slice ar D.past.length lr)).cell? ⟨g5, 1, none⟩ = some (.int .i64 d.n) ∧ (((v2.setCell ⟨v1.heap.size, 0, none⟩ (.int .i64 D.b)).setCell ⟨v1.heap.size, 1, none⟩ (.int .i64 D.n)).setCell ⟨v1.heap.size, 2, none⟩ (.slice ar D.past.length lr)).cell? ⟨g5, 2, none⟩ = some (.slice a5 d.past.length l5) := ⟨(SBox.far3 (HS.out.only o2 hgr) (Nat.ne_of_lt (Nat.lt_of_lt_of_le hgl o1.size)) _ _ _).cell 0, (SBox.far3 (HS.out.only o2 hgr) (Nat.ne_of_lt (Nat.lt_of_lt_of_le hgl o1.size)) _ _ _).cell 1, (SBox.far3 (HS.out.only o2 hgr) (Nat.ne_of_lt (Nat.lt_of_lt_of_le hgl o1.size)) _ _ _).cell 2⟩) | skip); clear b' bs)
              | (go_at_call 62; (with_reducible refine (HDo.out _ _ _ _ (t1.ints.below ((Below.refl _ v1).alloc (Nat.le_refl _) (.cells #[.int .i64 0, .int .i64 0, .slice none 0 0] 30)))).mono ?_); rintro e v2 ⟨D, ff, vr, rfl, hD8, o', b'⟩; have bs : Below v1.heap.size v1 v2 := ((Below.refl _ v1).alloc (Nat.le_refl _) (.cells #[.int .i64 0, .int .i64 0, .slice none 0 0] 30)).trans (b'.mono (by simp)); have o2 : Only r wr v2 := o1.trans (Only.of_below bs); have R2 := R1.kept bs; have orr : Row wr.heap.size v2 vr D.past := Row.mono o' (by first | exact o1.size | (simp; have := o1.size; omega)); obtain ⟨ar, lr, rfl, _⟩ := orr.ints; have hgl2 : g5 < v2.heap.size := Nat.lt_of_lt_of_le hgl o2.size; have y2 : v2.cell? ⟨g5, 0, none⟩ = some (.int .i64 d.b) ∧ v2.cell? ⟨g5, 1, none⟩ = some (.int .i64 d.n) ∧ v2.cell? ⟨g5, 2, none⟩ = some (.slice a5 d.past.length l5) := ⟨(HS.out.only o2 hgr).cell 0, (HS.out.only o2 hgr).cell 1, (HS.out.only o2 hgr).cell 2⟩; have y2A : (v2.alloc (.cells #[.int .i64 0, .int .i64 0, .slice none 0 0] 30)).cell? ⟨g5, 0, none⟩ = some (.int .i64 d.b) ∧ (v2.alloc (.cells #[.int .i64 0, .int .i64 0, .slice none 0 0] 30)).cell? ⟨g5, 1, none⟩ = some (.int .i64 d.n) ∧ (v2.alloc (.cells #[.int .i64 0, .int .i64 0, .slice none 0 0] 30)).cell? ⟨g5, 2, none⟩ = some (.slice a5 d.past.length l5) := ⟨((HS.out.only o2 hgr).alloc (.cells #[.int .i64 0, .int .i64 0, .slice none 0 0] 30)).cell 0, ((HS.out.only o2 hgr).alloc (.cells #[.int .i64 0, .int .i64 0, .slice none 0 0] 30)).cell 1, ((HS.out.only o2 hgr).alloc (.cells #[.int .i64 0, .int .i64 0, .slice none 0 0] 30)).cell 2⟩; (first | (have na := na.kept bs) | skip); have nb : SBox v2 v1.heap.size 30 #[.int .i64 0, .int .i64 0, .slice none 0 0] := (b'.block v1.heap.size (by simp)).trans (heap_alloc_new v1 _); have yB : (v2.alloc (.cells #[.int .i64 D.b, .int .i64 D.n, .slice ar D.past.length lr] 30)).cell? ⟨g5, 0, none⟩ = some (.int .i64 d.b) ∧ (v2.alloc (.cells #[.int .i64 D.b, .int .i64 D.n, .slice ar D.past.length lr] 30)).cell? ⟨g5, 1, none⟩ = some (.int .i64 d.n) ∧ (v2.alloc (.cells #[.int .i64 D.b, .int .i64 D.n, .slice ar D.past.length lr] 30)).cell? ⟨g5, 2, none⟩ = some (.slice a5 d.past.length l5) := ⟨((HS.out.only o2 hgr).alloc (.cells #[.int .i64 D.b, .int .i64 D.n, .slice ar D.past.length lr] 30)).cell 0, ((HS.out.only o2 hgr).alloc (.cells #[.int .i64 D.b, .int .i64 D.n, .slice ar D.past.length lr] 30)).cell 1, ((HS.out.only o2 hgr).alloc (.cells #[.int .i64 D.b, .int .i64 D.n, .slice ar D.past.length lr] 30)).cell 2⟩; (first | (have q0 := na.cell 0; have q1 := na.cell 1; have q2 := na.cell 2; have f0 := na.frozen 0; have f1 := na.frozen 1; have f2 := na.frozen 2; have ySa : (((v2.setCell ⟨wr.heap.size, 0, none⟩ (.int .i64 D.b)).setCell ⟨wr.heap.size, 1, none⟩ (.int .i64 D.n)).setCell ⟨wr.heap.size, 2, none⟩ (.slice ar D.past.length lr)).cell? ⟨g5, 0, none⟩ = some (.int .i64 d.b) ∧ (((v2.setCell ⟨wr.heap.size, 0, none⟩ (.int .i64 D.b)).setCell ⟨wr.heap.size, 1, none⟩ (.int .i64 D.n)).setCell ⟨wr.heap.size, 2, none⟩ (.slice ar D.past.length lr)).cell? ⟨g5, 1, none⟩ = some (.int .i64 d.n) ∧ (((v2.setCell ⟨wr.heap.size, 0, none⟩ (.int .i64 D.b)).setCell ⟨wr.heap.size, 1, none⟩ (.int .i64 D.n)).setCell ⟨wr.heap.size, 2, none⟩ (.slice ar D.past.length lr)).cell? ⟨g5, 2, none⟩ = some (.slice a5 d.past.length l5) := ⟨(SBox.far3 (HS.out.only o2 hgr) (Nat.ne_of_lt hgl) _ _ _).cell 0, (SBox.far3 (HS.out.only o2 hgr) (Nat.ne_of_lt hgl) _ _ _).cell 1, (SBox.far3 (HS.out.only o2 hgr) (Nat.ne_of_lt hgl) _ _ _).cell 2⟩) | skip); (first | (have q0 := nb.cell 0; have q1 := nb.cell 1; have q2 := nb.cell 2; have f0 := nb.frozen 0; have f1 := nb.frozen 1; have f2 := nb.frozen 2; have ySb : (((v2.setCell ⟨v1.heap.size, 0, none⟩ (.int .i64 D.b)).setCell ⟨v1.heap.size, 1, none⟩ (.int .i64 D.n)).setCell ⟨v1.heap.size, 2, none⟩ (.slice ar D.past.length lr)).cell? ⟨g5, 0, none⟩ = some (.int .i64 d.b) ∧ (((v2.setCell ⟨v1.heap.size, 0, none⟩ (.int .i64 D.b)).setCell ⟨v1.heap.size, 1, none⟩ (.int .i64 D.n)).setCell ⟨v1.heap.size, 2, none⟩ (.slice ar D.past.length lr)).cell? ⟨g5, 1, none⟩ = some (.int .i64 d.n) ∧ (((v2.setCell ⟨v1.heap.size, 0, none⟩ (.int .i64 D.b)).setCell ⟨v1.heap.size, 1, none⟩ (.int .i64 D.n)).setCell ⟨v1.heap.size, 2, none⟩ (.slice ar D.past.length lr)).cell? ⟨g5, 2, none⟩ = some (.slice a5 d.past.length l5) := ⟨(SBox.far3 (HS.out.only o2 hgr) (Nat.ne_of_lt (Nat.lt_of_lt_of_le hgl o1.size)) _ _ _).cell 0, (SBox.far3 (HS.out.only o2 hgr) (Nat.ne_of_lt (Nat.lt_of_lt_of_le hgl o1.size)) _ _ _).cell 1, (SBox.far3 (HS.out.only o2 hgr) (Nat.ne_of_lt (Nat.lt_of_lt_of_le hgl o1.size)) _ _ _).cell 2⟩) | skip); clear b' bs))
          all_goals
            go_wp2_with fail
            go_meet
            first
              | exact drew_last R2 o2 orr hD8
              | exact drew_set hrr (Nat.le_refl _) R2 o2 orr hD8 na
              | exact drew_set hrr o1.size R2 o2 orr hD8 nb
        case rest =>
          obtain ⟨D, f, g8, a8, l8, rfl, rfl, hg8, S8, T8, hD8, R8, O8⟩ := hcut
          have S5c := HS.out.only O8 hgr
          have Z8 := HZ.out.only O8 hwr
          have T5 := Lib.hid (HT.out.onlyB hrw O8)
          have T8' := Lib.hid (Row.mono T8 s7)
          have O9 := O7.trans O8
          clear T8 O8 O7 R7 HS HZ HT y0 y0A HD HDo
          cases f with
          | true =>
            go_wp2_with (first | (refine desk_load rfl _ rfl rfl S8 ?_) | (refine desk_store rfl _ _ rfl rfl rfl rfl S5c ?_; intro w9 hS9 hbl9 hsz9 hO9))
            have T9 := Lib.hid (T8'.out.stored S5c (by decide) hO9)
            have R9 := R8.over (hbl9 (r + 1) (by omega))
            have Z9 : SBox w9 w.heap.size 30 #[.int .i64 0, .int .i64 0, .slice none 0 0] := (hO9 _ (by omega)).trans Z8
            have O10 : Only r w w9 := ⟨by rw [hsz9]; exact O9.size, fun i hi hir => (hO9 i (by omega)).trans (O9.block i hi hir)⟩
            have S9 := Lib.hid hS9
            clear S8 S5c R8 Z8 O9 T5 T8' hbl9 hO9 hsz9 hS9
            go_wp2_with fail
            go_roundw
            case rel => exact ⟨D, j - 1, a8, l8, by omega, by rw [show ((j - 1 : Nat) : Int) = (j : Int) - 1 from by omega], S9.out, T9.out, by omega, Z9, R9.le (by omega), O10⟩
            case measure => simp [intOf]; omega
          | false =>
            have S9 := Lib.hid S5c
            clear S8 S5c T8'
            go_wp2_with fail
            go_roundw
            case rel => exact ⟨d, j - 1, a5, l5, by omega, by rw [show ((j - 1 : Nat) : Int) = (j : Int) - 1 from by omega], S9.out, T5.out, by omega, Z8, R8.le (by omega), O9⟩
            case measure => simp [intOf]; omega
      · obtain rfl : j = 0 := by omega
        go_wp2_with fail
        refine (odd w0 r _ n wr R7 (by omega) hn hn').mono ?_
        rintro e w8 ⟨bb, rfl, R8, hO8⟩
        have S8 := HS.out.only hO8 hgr
        have Z8 := HZ.out.only hO8 hwr
        have T8 := Lib.hid (HT.out.onlyB hrw hO8)
        have O8 := O7.trans hO8
        have s8 := O8.size
        clear hO8 O7 R7 HS HZ HT
        cases bb with
        | false =>
          go_wp2_with (first | (refine desk_load rfl _ rfl rfl S8 ?_) | (refine desk_store rfl _ _ rfl rfl rfl rfl Z8 ?_; intro w9 hS9 hbl9 hsz9 hO9))
          refine bodyPost_ret (results_one rfl _ _ w.heap.size _ _ rfl hS9 rfl Tryz.underlying30 (by rw [size_desk]; rfl)) rfl ?_
          exact ⟨d, _, rfl, T8.out.stored Z8 (by decide) hO9, by omega, (R8.over (hbl9 (r + 1) (by omega))).le (by omega), ⟨by rw [hsz9]; exact O8.size, fun i hi hir => (hO9 i (by omega)).trans (O8.block i hi hir)⟩⟩
        | true =>
          go_wp2_with fail
          refine (pick w0 r _ 3 w8 (by omega) R8).mono ?_
          rintro e w9 ⟨X, rfl, X0, X1, R9, hO9⟩
          have X3 := X1 (by omega)
          have S9 := S8.only hO9 hgr
          have Z9 := Z8.only hO9 hwr
          have T9 := Lib.hid (T8.out.onlyB hrw hO9)
          have O9 := O8.trans hO9
          have s9 := O9.size
          clear hO9 O8 R8 S8 Z8 T8 X1
          by_cases hX0 : X = 0
          · subst hX0
            have c0 := S9.cell 0
            have f0 := S9.frozen 0
            have SA := Lib.hid (S9.set 0 (.int .i64 1))
            have ZA := Lib.hid (Z9.far (p := ⟨g5, 0, none⟩) (by simp; omega) (.int .i64 1))
            have TA := Lib.hid (T9.out.setBox S9 (by decide) 0 (.int .i64 1))
            have OA := Lib.hid (O9.above (o := 0) (v := .int .i64 1) (show w.heap.size ≤ g5 by omega))
            have RA := Lib.hid (R9.set (o := 0) (v := .int .i64 1) (show r < g5 by omega))
            clear S9 Z9 T9 O9 R9
            go_wp2_with (first | (refine desk_load rfl _ rfl rfl SA.out ?_) | (refine desk_store rfl _ _ rfl rfl rfl rfl ZA.out ?_; intro wz hSz hblz hszz hOz))
            refine bodyPost_ret (results_one rfl _ _ w.heap.size _ _ rfl hSz rfl Tryz.underlying30 (by rw [size_desk]; rfl)) rfl ?_
            exact ⟨⟨1, d.n, d.past⟩, _, rfl, TA.out.stored ZA.out (by decide) hOz, by show d.past.length ≤ 20; omega, (RA.out.over (hblz (r + 1) (by omega))).le (by omega), ⟨by rw [hszz]; exact OA.out.size, fun i hi hir => (hOz i (by omega)).trans (OA.out.block i hi hir)⟩⟩
          · have hX0b : (X == 0) = false := by simp [hX0]
            by_cases hX1 : X = 1
            · subst hX1
              have c2 := S9.cell 2
              have f2 := S9.frozen 2
              have hr' : w9.ownsRow w.heap.size 3 1 (.slice a5 d.past.length l5) d.past.length (d.past.map (Value.int .i64)) := T9.out
              have hneD : ∀ B, SBox w9 B 30 #[.int .i64 d.b, .int .i64 d.n, .slice a5 d.past.length l5] ∨ SBox w9 B 30 #[.int .i64 0, .int .i64 0, .slice none 0 0] → (Value.slice a5 d.past.length l5).ownBlock ≠ some B := by
                intro B hB h
                obtain ⟨_, cur, h4⟩ := OwnTail.block (.inl T9.out) h
                unfold SBox at hB
                rcases hB with hB | hB
                all_goals
                  rw [hB] at h4
                  injection h4 with h4
                  injection h4 with _ ht _
                  exact absurd ht (by decide)
              have HND := Lib.hid hneD
              clear hneD
              go_upto_region 17 with (at_builtin; refine wpList_append_own _ rfl _ _ 28 rfl w.heap.size 3 i0 (.int .i64 0) 1 8 Tryz.underlying28 hi0 hy0 hy1 hy2 rfl (by decide) _ _ _ rfl (hr'.alloc _) ⟨w9.heap.size, 0, none⟩ 1 1 [.int .i64 (-1)] rfl rfl (cell_one_new _ _ _) (by simp [Value.oneCell']) (by unfold maxLen; omega) (by omega) (by simp; omega) ?_; intro v6 w6 hown6 hgrow6 _; have hb6 : Below w.heap.size w9 w6 := ((Below.refl w.heap.size w9).alloc (by omega) _).grown hgrow6 (by simp; omega) fun k e => (hr'.lt k e).1; have S6 := (S9.alloc _).grown hgrow6 (HND.out _ (.inl S9)); have Z6 := (Z9.alloc _).grown hgrow6 (HND.out _ (.inr Z9)); have O6 := O9.then (Nat.le_refl _) hb6; have R6 := R9.over (hb6.mono (by omega)); have T6 := row_snoc hown6; obtain ⟨a6, l6, rfl⟩ : ∃ a l, v6 = .slice a (d.past.length + 1) l := (by obtain ⟨a, l, h⟩ := T6.shape; exact ⟨a, l, by rw [h]; simp⟩); have e2 := S6.cell 2; have g2 := S6.frozen 2)
              have SA := Lib.hid (S6.set 2 (.slice a6 (d.past.length + 1) l6))
              have ZA := Lib.hid (Z6.far (p := ⟨g5, 2, none⟩) (by simp; omega) (.slice a6 (d.past.length + 1) l6))
              have TA := Lib.hid (T6.setBox S6 (by decide) 2 (.slice a6 (d.past.length + 1) l6))
              have OA := Lib.hid (O6.above (o := 2) (v := .slice a6 (d.past.length + 1) l6) (show w.heap.size ≤ g5 by omega))
              have RA := Lib.hid (R6.set (o := 2) (v := .slice a6 (d.past.length + 1) l6) (show r < g5 by omega))
              clear S9 Z9 T9 O9 R9 hown6 hgrow6 hr' S6 Z6 O6 R6 T6 HND
              go_wp2_with (first | (refine desk_load rfl _ rfl rfl SA.out ?_) | (refine desk_store rfl _ _ rfl rfl rfl rfl ZA.out ?_; intro wz hSz hblz hszz hOz))
              refine bodyPost_ret (results_one rfl _ _ w.heap.size _ _ rfl hSz rfl Tryz.underlying30 (by rw [size_desk]; rfl)) rfl ?_
              exact ⟨⟨d.b, d.n, d.past ++ [-1]⟩, _, rfl, TA.out.stored ZA.out (by decide) hOz, by simp; omega, (RA.out.over (hblz (r + 1) (by omega))).le (by omega), ⟨by rw [hszz]; exact OA.out.size, fun i hi hir => (hOz i (by omega)).trans (OA.out.block i hi hir)⟩⟩
            · have hX1b : (X == 1) = false := by simp [hX1]
              go_wp2_with (refine desk_store rfl _ _ rfl rfl rfl rfl Z9 ?_; intro wz hSz hblz hszz hOz)
              refine bodyPost_ret (results_one rfl _ _ w.heap.size _ _ rfl hSz rfl Tryz.underlying30 (by rw [size_desk]; rfl)) rfl ?_
              exact ⟨⟨0, 0, []⟩, _, rfl, World.ownsRow_nil _ _ _ _, by simp, (R9.over (hblz (r + 1) (by omega))).le (by omega), ⟨by rw [hszz]; exact O9.size, fun i hi hir => (hOz i (by omega)).trans (O9.block i hi hir)⟩⟩

end Go.Proofs.YtgkkoegfmhgcjaaGreatDoor

namespace Go.Proofs.YtgkkoegfmhgcjaaGreatDoor
open Go.RowKit Go.Shelf

theorem DRow.stored {base : Nat} {w w' : World} {v : Value} {ds : List (Int × Int)} (h : DRow base w v ds) {B : Nat} {T : TypeId} {cs : Array Value} (hB : SBox w B T cs) (hT : T ≠ 38) (ho : ∀ i, i ≠ B → w'.heap[i]? = w.heap[i]?) : DRow base w' v ds := by
  rcases h with ⟨h1, h2 | ⟨g, cap, cur, hv, hg, hh, r⟩⟩
  · exact ⟨h1, .inl h2⟩
  · refine ⟨h1, .inr ⟨g, cap, cur, hv, hg, ?_, r⟩⟩
    rw [ho g ?_]
    · exact hh
    · rintro rfl
      unfold SBox at hB
      rw [hB] at hh
      injection hh with hh
      injection hh with _ ht _
      exact hT ht
theorem DRow.setBox {base : Nat} {w : World} {v : Value} {ds : List (Int × Int)} (h : DRow base w v ds) {B : Nat} {T : TypeId} {cs : Array Value} (hB : SBox w B T cs) (hT : T ≠ 38) (i : Nat) (u : Value) : DRow base (w.setCell ⟨B, i, none⟩ u) v ds :=
  h.stored hB hT fun k hk => Below.heap_setCell _ _ _ _ (by simpa using hk)

/-- How a row of deeds lies. -/
def LShape (lv : Value) (n : Nat) : Prop := ∃ la lc, lv = .slice la n lc ∧ n ≤ lc ∧ (la = none ∧ n = 0 ∨ ∃ g, la = some ⟨g, 0, none⟩)
theorem DRow.lshape {base : Nat} {w : World} {v : Value} {ds : List (Int × Int)} (h : DRow base w v ds) : LShape v ds.length := by
  rcases h.2 with ⟨rfl, h0⟩ | ⟨g, cap, cur, rfl, _, _, hc, _⟩
  · rw [h0]; exact ⟨none, 0, rfl, Nat.le_refl _, .inl ⟨rfl, rfl⟩⟩
  · exact ⟨_, cap, rfl, hc, .inr ⟨g, rfl⟩⟩

/-- A desk and deeds. -/
def DeskDeedsGot (w : World) (e : Ending) (w' : World) : Prop :=
  ∃ (d : Pl.Dk) (v lv : Value) (ds : List (Int × Int)), e = .returned (.tuple #[.agg #[.int .i64 d.b, .int .i64 d.n, v], lv]) ∧ Ints w' v d.past ∧ d.past.length ≤ 20 ∧ Deeds w' lv ds ∧ ds.length ≤ 41 ∧ LShape lv ds.length ∧ Below w.heap.size w w'

set_option maxRecDepth 100000 in
set_option maxHeartbeats 2000000 in
theorem drawDeskRun (a : Option Addr) (len cap : Nat) (z : List Int) (w : World) (h : IsRow .u8 w a len cap z) :
    Calls Tryz.prog 12 #[.slice a len cap] w (DeskDeedsGot w) := by
  obtain ⟨i0, hi0, hz0, hz1, hz2⟩ := info_parts info_deed
  have b1 : Below w.heap.size w (w.alloc (.cells #[.int .i64 0, .int .i64 0, .slice none 0 0] 30)) := (Below.refl _ _).alloc (Nat.le_refl _) _
  have h1 := h.stay b1
  have D1 := SBox.new w 30 #[.int .i64 0, .int .i64 0, .slice none 0 0]
  have z1 : w.heap.size + 1 ≤ (w.alloc (.cells #[.int .i64 0, .int .i64 0, .slice none 0 0] 30)).heap.size := by simp
  clear h
  go_enter Tryz.func12, Tryz.ntmps12
  go_upto_region 1 with (fail)
  generalize w.alloc (.cells #[.int .i64 0, .int .i64 0, .slice none 0 0] 30) = W at *
  go_wp2_with fail
  refine (l20Open _ _ _ _ _ h1).mono ?_
  rintro e w1 ⟨r, rfl, hr⟩
  have hlt := hr.lt
  have D2 := D1.kept hr.below
  clear h1 D1
  go_wp2_with fail
  refine (l20Desk W r 0 12 w1 hr (by omega) (by omega) (by omega)).mono ?_
  rintro e w2 ⟨d, v, rfl, hd, hlen, hr2, hO⟩
  obtain ⟨a2, l2, rfl⟩ := hd.shape
  have s2 := hO.size
  have hb3 : Below w2.heap.size w2 (w2.alloc (.cells #[.int .i64 d.b, .int .i64 d.n, .slice a2 d.past.length l2] 30)) := (Below.refl _ _).alloc (Nat.le_refl _) _
  have S3 := SBox.new w2 30 #[.int .i64 d.b, .int .i64 d.n, .slice a2 d.past.length l2]
  have D3 := (D2.only hO (by omega)).kept hb3
  have T3 := Lib.hid (Row.below hd hb3)
  have R3 := hr2.kept hb3
  have s3 := hb3.size
  have hgr : w2.heap.size ≠ r := by omega
  clear hr D2 hr2 hd hO hb3
  go_upto_region 3 with (fail)
  generalize w2.alloc (.cells #[.int .i64 d.b, .int .i64 d.n, .slice a2 d.past.length l2] 30) = w3 at *
  go_wp2_with fail
  refine (odd W r _ 30 w3 R3 (by omega) (by omega) (by omega)).mono ?_
  rintro e w4 ⟨bb, rfl, R4, hO4⟩
  have S4 := S3.only hO4 hgr
  have D4 := D3.only hO4 (by omega)
  have T4 := Lib.hid (T3.out.onlyB hlt.2 hO4)
  have s4 := hO4.size
  have hr4 : r < w4.heap.size := R4.lt.2
  clear S3 D3 T3 R3 hO4
  cases bb with
  | true =>
    go_upto_region 4 with (fail)
    have x0 := S4.cell 0
    have x1 := S4.cell 1
    have x2 := S4.cell 2
    have p0 := D4.cell 0
    have p1 := D4.cell 1
    have p2 := D4.cell 2
    have f0 := D4.frozen 0
    have f1 := D4.frozen 1
    have f2 := D4.frozen 2
    obtain ⟨W5, hmk, hown, hgrow⟩ := run_makeSlice_full (P := Tryz.prog) w4.drew w4.drew.heap.size 24 38 i0 (.agg #[.int .i64 0, .int .i64 0]) 2 Tryz.underlying24 hi0 hz0 hz1 .i64 .i64 41 (by decide) (by rw [hz2]; decide) (by decide) (Nat.le_refl _)
    have hmk2 : (Instr.makeSlice 24 (.int .i64 41) (.int .i64 41)).run Tryz.prog w4.drew = .ok (.slice (some ⟨w4.heap.size, 0, none⟩) 41 41) W5 := hmk
    have hb5 : Below w4.heap.size w4 W5 := ((Below.refl _ w4).drew).grown hgrow (Nat.le_refl _) (fun k e => by cases e)
    have L5 : DRow w4.heap.size W5 (.slice (some ⟨w4.heap.size, 0, none⟩) 41 41) (List.replicate 41 (0, 0)) := by
      have e : (madeCells (Value.agg #[.int .i64 0, .int .i64 0]).cells (41 * 2)).toList = Pl.deedCells (List.replicate 41 (0, 0)) := by
        rw [show (Value.agg #[.int .i64 0, .int .i64 0]).cells = #[.int .i64 0, .int .i64 0] from rfl, toList_madeCells_two, Pl.deedCells_zero]
      rw [e] at hown
      exact hown
    have HSH := Lib.hid L5.lshape
    have S5 := S4.kept hb5
    have D5 := D4.kept hb5
    have T5 := T4.out.below hb5
    have y0 := S5.cell 0
    have y1 := S5.cell 1
    have y2 := S5.cell 2
    have q0 := D5.cell 0
    have q1 := D5.cell 1
    have q2 := D5.cell 2
    have g0 := D5.frozen 0
    have g1 := D5.frozen 1
    have g2 := D5.frozen 2
    have DA := D5.three (.int .i64 d.b) (.int .i64 d.n) (.slice a2 d.past.length l2)
    have TA := Lib.hid (((T5.setBox D5 (by decide) 0 (.int .i64 d.b)).setBox (D5.set 0 _) (by decide) 1 (.int .i64 d.n)).setBox ((D5.set 0 _).set 1 _) (by decide) 2 (.slice a2 d.past.length l2)).ints
    have LA := Lib.hid (((L5.setBox D5 (by decide) 0 (.int .i64 d.b)).setBox (D5.set 0 _) (by decide) 1 (.int .i64 d.n)).setBox ((D5.set 0 _).set 1 _) (by decide) 2 (.slice a2 d.past.length l2)).deeds
    have c4 := b1.trans ((R4.below.trans (hb5.mono R4.below.size)).mono b1.size)
    have cB := below_three c4 (Nat.le_refl _) (.int .i64 d.b) (.int .i64 d.n) (.slice a2 d.past.length l2)
    have DV := D4.three (.int .i64 d.b) (.int .i64 d.n) (.slice a2 d.past.length l2)
    have TV := ((T4.out.setBox D4 (by decide) 0 (.int .i64 d.b)).setBox (D4.set 0 _) (by decide) 1 (.int .i64 d.n)).setBox ((D4.set 0 _).set 1 _) (by decide) 2 (.slice a2 d.past.length l2)
    have cV := below_three (b1.trans (R4.below.mono b1.size)) (Nat.le_refl _) (.int .i64 d.b) (.int .i64 d.n) (.slice a2 d.past.length l2)
    have hVs : (((w4.setCell ⟨w.heap.size, 0, none⟩ (.int .i64 d.b)).setCell ⟨w.heap.size, 1, none⟩ (.int .i64 d.n)).setCell ⟨w.heap.size, 2, none⟩ (.slice a2 d.past.length l2)).heap.size = w4.heap.size := by simp
    obtain ⟨W6, hmkV, hownV, hgrowV⟩ := run_makeSlice_full (P := Tryz.prog) (((w4.setCell ⟨w.heap.size, 0, none⟩ (.int .i64 d.b)).setCell ⟨w.heap.size, 1, none⟩ (.int .i64 d.n)).setCell ⟨w.heap.size, 2, none⟩ (.slice a2 d.past.length l2)).drew (((w4.setCell ⟨w.heap.size, 0, none⟩ (.int .i64 d.b)).setCell ⟨w.heap.size, 1, none⟩ (.int .i64 d.n)).setCell ⟨w.heap.size, 2, none⟩ (.slice a2 d.past.length l2)).drew.heap.size 24 38 i0 (.agg #[.int .i64 0, .int .i64 0]) 2 Tryz.underlying24 hi0 hz0 hz1 .i64 .i64 41 (by decide) (by rw [hz2]; decide) (by decide) (Nat.le_refl _)
    rw [show (((w4.setCell ⟨w.heap.size, 0, none⟩ (.int .i64 d.b)).setCell ⟨w.heap.size, 1, none⟩ (.int .i64 d.n)).setCell ⟨w.heap.size, 2, none⟩ (.slice a2 d.past.length l2)).drew.heap.size = w4.heap.size by simp] at hmkV hownV
    have hmk3 : (Instr.makeSlice 24 (.int .i64 41) (.int .i64 41)).run Tryz.prog (((w4.setCell ⟨w.heap.size, 0, none⟩ (.int .i64 d.b)).setCell ⟨w.heap.size, 1, none⟩ (.int .i64 d.n)).setCell ⟨w.heap.size, 2, none⟩ (.slice a2 d.past.length l2)).drew = .ok (.slice (some ⟨w4.heap.size, 0, none⟩) 41 41) W6 := hmkV
    have hb6 : Below (((w4.setCell ⟨w.heap.size, 0, none⟩ (.int .i64 d.b)).setCell ⟨w.heap.size, 1, none⟩ (.int .i64 d.n)).setCell ⟨w.heap.size, 2, none⟩ (.slice a2 d.past.length l2)).heap.size (((w4.setCell ⟨w.heap.size, 0, none⟩ (.int .i64 d.b)).setCell ⟨w.heap.size, 1, none⟩ (.int .i64 d.n)).setCell ⟨w.heap.size, 2, none⟩ (.slice a2 d.past.length l2)) W6 := ((Below.refl _ (((w4.setCell ⟨w.heap.size, 0, none⟩ (.int .i64 d.b)).setCell ⟨w.heap.size, 1, none⟩ (.int .i64 d.n)).setCell ⟨w.heap.size, 2, none⟩ (.slice a2 d.past.length l2))).drew).grown hgrowV (Nat.le_refl _) (fun k e => by cases e)
    have L6 := Lib.hid (show Deeds W6 (.slice (some ⟨w4.heap.size, 0, none⟩) 41 41) (List.replicate 41 (0, 0)) from by
      have e : (madeCells (Value.agg #[.int .i64 0, .int .i64 0]).cells (41 * 2)).toList = Pl.deedCells (List.replicate 41 (0, 0)) := by
        rw [show (Value.agg #[.int .i64 0, .int .i64 0]).cells = #[.int .i64 0, .int .i64 0] from rfl, toList_madeCells_two, Pl.deedCells_zero]
      rw [e] at hownV
      exact DRow.deeds (show DRow w4.heap.size W6 (.slice (some ⟨w4.heap.size, 0, none⟩) 41 41) (List.replicate 41 (0, 0)) from hownV))
    have DW := DV.kept hb6
    have TW := Lib.hid (TV.below hb6).ints
    have cW := cV.trans (hb6.mono cV.size)
    clear hmk hown hgrow hb5 L5 S5 D5 T5 c4 S4 D4 T4 R4 DV TV cV hVs hmkV hownV hgrowV hb6
    go_region
    all_goals
      go_wp2_with fail
      first
        | (refine bodyPost_ret (results_cell_tmp rfl _ _ w.heap.size #[.int .i64 d.b, .int .i64 d.n, .slice a2 d.past.length l2] _ (.slice (some ⟨w4.heap.size, 0, none⟩) 41 41) rfl rfl DA rfl Tryz.underlying30 (by rw [size_desk]; rfl)) rfl ?_
           exact ⟨d, _, _, List.replicate 41 (0, 0), rfl, TA.out, hlen, LA.out, by simp, HSH.out, cB⟩)
        | (refine bodyPost_ret (results_cell_tmp rfl _ _ w.heap.size #[.int .i64 d.b, .int .i64 d.n, .slice a2 d.past.length l2] _ (.slice (some ⟨w4.heap.size, 0, none⟩) 41 41) rfl rfl DW rfl Tryz.underlying30 (by rw [size_desk]; rfl)) rfl ?_
           exact ⟨d, _, _, List.replicate 41 (0, 0), rfl, TW.out, hlen, L6.out, by simp, HSH.out, cW⟩)
  | false =>
    go_upto_region 5 with (fail)
    have HD := Lib.hid (fun U (h : Rd W r (0 + 2000 + 1) U) => l20Deeds W r _ U h (by omega))
    have na : w2.heap.size ≠ w.heap.size := (by omega)
    have y0 : w4.cell? ⟨w2.heap.size, 0, none⟩ = some (.int .i64 d.b) ∧ w4.cell? ⟨w2.heap.size, 1, none⟩ = some (.int .i64 d.n) ∧ w4.cell? ⟨w2.heap.size, 2, none⟩ = some (.slice a2 d.past.length l2) := ⟨S4.cell 0, S4.cell 1, S4.cell 2⟩
    go_region_held3 (fun w' => w'.cell? ⟨w2.heap.size, 0, none⟩ = some (.int .i64 d.b) ∧ w'.cell? ⟨w2.heap.size, 1, none⟩ = some (.int .i64 d.n) ∧ w'.cell? ⟨w2.heap.size, 2, none⟩ = some (.slice a2 d.past.length l2))
      (first
        | with_reducible exact y0
        | with_reducible exact y1
        | with_reducible exact y2
        | assumption)
      (first
        | (go_at_call 48; (with_reducible refine (HD.out _ (R4.kept ((Below.refl _ w4).drew))).mono ?_); rintro e v1 ⟨lv, ls, rfl, L5, hls, R5, o1'⟩; have o1 : Only r w4 v1 := (Only.of_below ((Below.refl _ w4).drew)).trans o1'; have y1 : v1.cell? ⟨w2.heap.size, 0, none⟩ = some (.int .i64 d.b) ∧ v1.cell? ⟨w2.heap.size, 1, none⟩ = some (.int .i64 d.n) ∧ v1.cell? ⟨w2.heap.size, 2, none⟩ = some (.slice a2 d.past.length l2) := ⟨(S4.only o1 hgr).cell 0, (S4.only o1 hgr).cell 1, (S4.only o1 hgr).cell 2⟩; have D5 := D4.only o1 (by omega); have p0 := D5.cell 0; have p1 := D5.cell 1; have p2 := D5.cell 2; have f0 := D5.frozen 0; have f1 := D5.frozen 1; have f2 := D5.frozen 2; have y2 : (((v1.setCell ⟨w.heap.size, 0, none⟩ (.int .i64 d.b)).setCell ⟨w.heap.size, 1, none⟩ (.int .i64 d.n)).setCell ⟨w.heap.size, 2, none⟩ (.slice a2 d.past.length l2)).cell? ⟨w2.heap.size, 0, none⟩ = some (.int .i64 d.b) ∧ (((v1.setCell ⟨w.heap.size, 0, none⟩ (.int .i64 d.b)).setCell ⟨w.heap.size, 1, none⟩ (.int .i64 d.n)).setCell ⟨w.heap.size, 2, none⟩ (.slice a2 d.past.length l2)).cell? ⟨w2.heap.size, 1, none⟩ = some (.int .i64 d.n) ∧ (((v1.setCell ⟨w.heap.size, 0, none⟩ (.int .i64 d.b)).setCell ⟨w.heap.size, 1, none⟩ (.int .i64 d.n)).setCell ⟨w.heap.size, 2, none⟩ (.slice a2 d.past.length l2)).cell? ⟨w2.heap.size, 2, none⟩ = some (.slice a2 d.past.length l2) := ⟨(SBox.far3 (S4.only o1 hgr) na _ _ _).cell 0, (SBox.far3 (S4.only o1 hgr) na _ _ _).cell 1, (SBox.far3 (S4.only o1 hgr) na _ _ _).cell 2⟩; clear o1'))
    clear y0 y1 y2 p0 p1 p2 f0 f1 f2 na HD
    have DA := D5.three (.int .i64 d.b) (.int .i64 d.n) (.slice a2 d.past.length l2)
    have HSH := Lib.hid L5.lshape
    have T5 := T4.out.onlyB hlt.2 o1
    have TA := Lib.hid (((T5.setBox D5 (by decide) 0 (.int .i64 d.b)).setBox (D5.set 0 _) (by decide) 1 (.int .i64 d.n)).setBox ((D5.set 0 _).set 1 _) (by decide) 2 (.slice a2 d.past.length l2)).ints
    have LA := Lib.hid (((L5.setBox D5 (by decide) 0 (.int .i64 d.b)).setBox (D5.set 0 _) (by decide) 1 (.int .i64 d.n)).setBox ((D5.set 0 _).set 1 _) (by decide) 2 (.slice a2 d.past.length l2)).deeds
    have c4 := b1.trans (R5.below.mono b1.size)
    have cB := below_three c4 (Nat.le_refl _) (.int .i64 d.b) (.int .i64 d.n) (.slice a2 d.past.length l2)
    clear T5 c4 D5 D4 S4 T4 R4 R5 L5
    go_wp2_with fail
    refine bodyPost_ret (results_cell_tmp rfl _ _ w.heap.size #[.int .i64 d.b, .int .i64 d.n, .slice a2 d.past.length l2] _ lv rfl rfl DA rfl Tryz.underlying30 (by rw [size_desk]; rfl)) rfl ?_
    exact ⟨d, _, lv, ls, rfl, TA.out, hlen, LA.out, by omega, HSH.out, cB⟩

end Go.Proofs.YtgkkoegfmhgcjaaGreatDoor
