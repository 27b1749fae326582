/-
  The walk of the exact law of DeskRun.
-/
import Derived.Test.YtakkjlcnfkklpaaDeskRunI
import Derived.Test.YtakkjlcnfkklpaaWXDeskOk
import Derived.Test.YtakkjlcnfkklpaaXCut
import Derived.Test.YtakkjlcnfkklpaaArgs
import Derived.Deep.RegionHeld3
import Derived.Deep.DeepCutAuto
namespace Go.Proofs.Ytakkjlcnfkklpaa
open Go.RowKit Go.Shelf

set_option maxRecDepth 100000 in
set_option maxHeartbeats 4000000 in
theorem FnExactDeskRun_walk (b0 n0 : Int) (a0 : Option Addr) (len0 cap0 : Nat) (z0 : List Int) (a1 : Option Addr) (len1 cap1 : Nat) (ds : List (Int × Int)) (w : World) (_wb0 : (Lit.int .i64 b0).wf = true) (_wn0 : (Lit.int .i64 n0).wf = true) (w0 : IsRow .i64 w a0 len0 cap0 z0) (hL : Deeds w (.slice a1 len1 cap1) ds) (hds : ds.length = len1) (hmax1 : len1 ≤ maxLen) :
    Calls Try.prog 10 #[.agg #[.int .i64 b0, .int .i64 n0, .slice a0 len0 cap0], .slice a1 len1 cap1] w fun e w' => e = .returned (.bool true) ∧ Below w.heap.size w w' := by
  have hmax := w0.len_le
  by_cases hl : 1048576 < len0
  · have HZ := Lib.hid (fun W => szDesk_no b0 n0 a0 len0 cap0 1048576 W (by omega) (by omega) (by unfold maxLen at hmax; omega))
    go_enter Try.func10, Try.ntmps10
    go_wp2_with fail
    refine (HZ.out _).mono ?_
    rintro e w1 ⟨rfl, b1⟩
    have c1 := ((Below.refl _ w).alloc (Nat.le_refl _) (.cells #[.int .i64 b0, .int .i64 n0, .slice a0 len0 cap0] 46)).trans (b1.mono (by simp))
    clear b1
    go_wp2
    go_ret
    exact ⟨rfl, c1⟩
  have HZ := Lib.hid (fun W => szDesk_yes b0 n0 a0 len0 cap0 1048576 W (by omega) (by omega))
  obtain ⟨hI, hlen⟩ := w0.ints
  have hneg : ¬ (1048576 : Int) - (len0 : Int) < 0 := by omega
  have hub : (1048576 : Int) - (len0 : Int) ≤ 1048576 := by omega
  have hdx : (z0.take len0).length ≤ 1048576 := by omega
  generalize (1048576 : Int) - (len0 : Int) = LEFT at *
  by_cases hl1 : LEFT < (len1 : Int)
  · have HY := Lib.hid (fun W => szDeedS_no a1 len1 cap1 LEFT W hl1 (by omega) (by unfold maxLen at hmax1; omega))
    go_enter Try.func10, Try.ntmps10
    go_wp2_with fail
    refine (HZ.out _).mono ?_
    rintro e w1 ⟨rfl, b1⟩
    have c1 := ((Below.refl _ w).alloc (Nat.le_refl _) (.cells #[.int .i64 b0, .int .i64 n0, .slice a0 len0 cap0] 46)).trans (b1.mono (by simp))
    clear b1
    go_wp2_with fail
    refine (HY.out _).mono ?_
    rintro e w' ⟨rfl, rfl⟩
    go_wp2
    go_ret
    exact ⟨rfl, c1⟩
  have HY := Lib.hid (fun W => szDeedS_yes a1 len1 cap1 LEFT W (by omega) (by omega))
  have hneg1 : ¬ LEFT - (len1 : Int) < 0 := by omega
  have hdsx : ds.length ≤ 1048576 := by omega
  generalize LEFT - (len1 : Int) = LEFT1 at *
  obtain ⟨d, hd⟩ : ∃ d : Pl.Dk, d = ⟨b0, n0, z0.take len0⟩ := ⟨_, rfl⟩
  have hb : d.b = b0 := by rw [hd]
  have hn : d.n = n0 := by rw [hd]
  have hp : d.past = z0.take len0 := by rw [hd]
  rw [← hp] at hI hlen hdx
  subst hb hn
  clear hd hp
  have hx : d.past.length ≤ 1000000000 := by omega
  have hx2 : d.past.length ≤ 100000000 := by omega
  have hdy : ds.length ≤ 1000000000 := by omega
  have hI0 := hI
  have HT := Lib.hid (fun W (h : Ints W (.slice a0 len0 cap0) d.past) => toDesk d (.slice a0 len0 cap0) W h hx)
  have HE := Lib.hid (fun W (h : Deeds W (.slice a1 len1 cap1) ds) => toDeedS (.slice a1 len1 cap1) ds W h hdy)
  have HSP := Lib.hid (fun pv lv W (h : Ints W pv d.past) (g : Deeds W lv ds) => specDeskRun d pv lv ds W h hx2 g)
  have HIM := Lib.hid (fun pv lv W (h : Ints W pv d.past) (g : Deeds W lv ds) => implDeskRun d pv lv ds W h hx2 g)
  have hDl := Pl.runA_few d ds
  generalize Pl.runA d ds = R at *
  obtain ⟨D, B⟩ := R
  simp only at hDl
  have hDx : D.past.length ≤ 1000000000 := by omega
  have hnx : ¬ (1 : Int) + (d.past.length : Int) + 2 * (ds.length : Int) < 0 := by omega
  have hny : ¬ (1 : Int) + (D.past.length : Int) < 0 := by omega
  clear w0 hl hlen hmax hl1 hmax1 hub
  go_enter Try.func10, Try.ntmps10
  go_wp2_with fail
  refine (HZ.out _).mono ?_
  rintro e w1 ⟨rfl, b1⟩
  have c1 := ((Below.refl _ w).alloc (Nat.le_refl _) (.cells #[.int .i64 d.b, .int .i64 d.n, .slice a0 len0 cap0] 46)).trans (b1.mono (by simp))
  have A1 := (SBox.new w 46 #[.int .i64 d.b, .int .i64 d.n, .slice a0 len0 cap0]).kept b1
  have I1 := Lib.hid (hI.below c1)
  have iL1 := hL.below c1
  have hI := I1
  have hL0 := hL
  have zc := c1.size
  clear b1 hL hds
  go_wp2_with fail
  refine (HY.out _).mono ?_
  rintro e w' ⟨rfl, rfl⟩
  have Ac0 := A1.cell 0
  have Ac1 := A1.cell 1
  have Ac2 := A1.cell 2
  go_wp2_with fail
  refine (HT.out w1 hI.out).mono ?_
  rintro e w2 ⟨v2, rfl, r2, b2⟩
  clear Ac0 Ac1 Ac2
  have A2 := A1.kept b2
  have iL2 := iL1.below b2
  have c2 := c1.trans (b2.mono c1.size)
  have z2 := b2.size
  replace hI := Lib.hid (hI.out.below b2)
  clear A1 iL1 c1
  have iD2 := r2.ints
  clear r2 b2
  go_wp2_with fail
  refine (HE.out w2 iL2).mono ?_
  rintro e w3 ⟨v3, rfl, r3, b3⟩
  have A3 := A2.kept b3
  have iL3 := iL2.below b3
  have iD3 := iD2.below b3
  have c3 := c2.trans (b3.mono c2.size)
  have z3 := b3.size
  replace hI := Lib.hid (hI.out.below b3)
  clear A2 iL2 iD2 c2
  have iE3 := r3.deeds
  clear r3 b3
  go_wp2_with fail
  refine (HSP.out _ _ w3 iD3 iE3).mono ?_
  rintro e w4 ⟨v4, rfl, oS4, b4⟩
  have A4 := A3.kept b4
  have iL4 := iL3.below b4
  have c4 := c3.trans (b4.mono c3.size)
  have z4 := b4.size
  replace hI := Lib.hid (hI.out.below b4)
  clear A3 iL3 c3
  clear b4 iD3 iE3
  obtain ⟨a4, l4, rfl, _⟩ := oS4.ints
  have hS4 := Lib.hid oS4
  have hal : Below w4.heap.size w4 (w4.alloc (.cells #[.int .i64 D.b, .int .i64 D.n, .slice a4 D.past.length l4] 25)) := (Below.refl _ w4).alloc (Nat.le_refl _) _
  have S5 := SBox.new w4 25 #[.int .i64 D.b, .int .i64 D.n, .slice a4 D.past.length l4]
  have A5 := A4.kept hal
  have iL5 := iL4.below hal
  have oS5 := oS4.below hal
  have c5 := c4.trans (hal.mono c4.size)
  have z5 := hal.size
  replace hI := Lib.hid (hI.out.below hal)
  clear hal
  clear A4 iL4 oS4 c4
  go_upto_region 9 with (fail)
  generalize w4.alloc (.cells #[.int .i64 D.b, .int .i64 D.n, .slice a4 D.past.length l4] 25) = w5 at *
  have Ac0 := A5.cell 0
  have Ac1 := A5.cell 1
  have Ac2 := A5.cell 2
  go_wp2_with fail
  refine (HT.out w5 hI.out).mono ?_
  rintro e w6 ⟨v6, rfl, r6, b6⟩
  clear Ac0 Ac1 Ac2
  have A6 := A5.kept b6
  have iL6 := iL5.below b6
  have oS6 := oS5.below b6
  have S6 := S5.kept b6
  have c6 := c5.trans (b6.mono c5.size)
  have z6 := b6.size
  replace hI := Lib.hid (hI.out.below b6)
  clear A5 iL5 oS5 S5 c5
  obtain ⟨a6, l6, rfl⟩ := r6.shape
  have oX6 : OwnTail w5.heap.size w6 _ d.past := .inl r6
  have hX6 := Lib.hid oX6
  clear r6 b6
  have hal : Below w6.heap.size w6 (w6.alloc (.cells #[.int .i64 d.b, .int .i64 d.n, .slice a6 d.past.length l6] 25)) := (Below.refl _ w6).alloc (Nat.le_refl _) _
  have X7 := SBox.new w6 25 #[.int .i64 d.b, .int .i64 d.n, .slice a6 d.past.length l6]
  have A7 := A6.kept hal
  have iL7 := iL6.below hal
  have oS7 := oS6.below hal
  have S7 := S6.kept hal
  have oX7 := oX6.below hal
  have c7 := c6.trans (hal.mono c6.size)
  have z7 := hal.size
  replace hI := Lib.hid (hI.out.below hal)
  clear hal
  clear A6 iL6 oS6 S6 oX6 c6
  go_upto_region 10 with (fail)
  generalize w6.alloc (.cells #[.int .i64 d.b, .int .i64 d.n, .slice a6 d.past.length l6] 25) = w7 at *
  go_wp2_with fail
  refine (HE.out w7 iL7).mono ?_
  rintro e w8 ⟨v8, rfl, dY8, b8⟩
  have A8 := A7.kept b8
  have iL8 := iL7.below b8
  have oS8 := oS7.below b8
  have S8 := S7.kept b8
  have oX8 := oX7.below b8
  have X8 := X7.kept b8
  have c8 := c7.trans (b8.mono c7.size)
  have z8 := b8.size
  replace hI := Lib.hid (hI.out.below b8)
  clear A7 iL7 oS7 S7 oX7 X7 c7
  clear b8
  have Xc0 := X8.cell 0
  have Xc1 := X8.cell 1
  have Xc2 := X8.cell 2
  have iX8 := oX8.ints
  have iY8 := dY8.deeds
  go_wp2_with fail
  refine (HIM.out _ _ w8 iX8 iY8).mono ?_
  rintro e w9 ⟨v9, rfl, oG9, b9⟩
  clear Xc0 Xc1 Xc2
  have A9 := A8.kept b9
  have iL9 := iL8.below b9
  have oS9 := oS8.below b9
  have S9 := S8.kept b9
  have oX9 := oX8.below b9
  have X9 := X8.kept b9
  have dY9 := dY8.below b9
  have c9 := c8.trans (b9.mono c8.size)
  have z9 := b9.size
  replace hI := Lib.hid (hI.out.below b9)
  have hX8 := Lib.hid oX8
  clear A8 iL8 oS8 S8 oX8 X8 dY8 c8
  clear b9 iX8 iY8
  obtain ⟨a9, l9, rfl, _⟩ := oG9.ints
  have hG9 := Lib.hid oG9
  have hal : Below w9.heap.size w9 (w9.alloc (.cells #[.int .i64 D.b, .int .i64 D.n, .slice a9 D.past.length l9] 25)) := (Below.refl _ w9).alloc (Nat.le_refl _) _
  have G10 := SBox.new w9 25 #[.int .i64 D.b, .int .i64 D.n, .slice a9 D.past.length l9]
  have A10 := A9.kept hal
  have iL10 := iL9.below hal
  have oS10 := oS9.below hal
  have S10 := S9.kept hal
  have oX10 := oX9.below hal
  have X10 := X9.kept hal
  have dY10 := dY9.below hal
  have oG10 := oG9.below hal
  have c10 := c9.trans (hal.mono c9.size)
  have z10 := hal.size
  replace hI := Lib.hid (hI.out.below hal)
  clear hal
  clear A9 iL9 oS9 S9 oX9 X9 dY9 oG9 c9
  go_upto_region 12 with (fail)
  generalize w9.alloc (.cells #[.int .i64 D.b, .int .i64 D.n, .slice a9 D.past.length l9] 25) = w10 at *
  have nSX := OwnTail.near hS4.out hX6.out (by omega)
  have nGX := OwnTail.far hG9.out hX8.out (by omega)
  have nSG := OwnTail.near hS4.out hG9.out (by omega)
  clear hS4 hX6 hX8 hG9
  have Gc0 := G10.cell 0
  have Gc1 := G10.cell 1
  have Gc2 := G10.cell 2
  have Sc0 := S10.cell 0
  have Sc1 := S10.cell 1
  have Sc2 := S10.cell 2
  go_wp2_with fail
  refine (eqDesk D _ _ w10 oG10.ints oS10.ints hDx).mono ?_
  rintro e w11 ⟨rfl, b11⟩
  clear Gc0 Gc1 Gc2 Sc0 Sc1 Sc2
  have A11 := A10.kept b11
  have iL11 := iL10.below b11
  have oS11 := oS10.below b11
  have S11 := S10.kept b11
  have oX11 := oX10.below b11
  have X11 := X10.kept b11
  have dY11 := dY10.below b11
  have oG11 := oG10.below b11
  have G11 := G10.kept b11
  have c11 := c10.trans (b11.mono c10.size)
  have z11 := b11.size
  replace hI := Lib.hid (hI.out.below b11)
  clear A10 iL10 oS10 S10 oX10 X10 dY10 oG10 G10 c10
  clear b11
  go_upto_region 14 with (fail)
  have y0 : w11.cell? ⟨w6.heap.size, 0, none⟩ = some (.int .i64 d.b) ∧ w11.cell? ⟨w6.heap.size, 1, none⟩ = some (.int .i64 d.n) ∧ w11.cell? ⟨w6.heap.size, 2, none⟩ = some (.slice a6 d.past.length l6) ∧ w11.cell? ⟨w.heap.size, 0, none⟩ = some (.int .i64 d.b) ∧ w11.cell? ⟨w.heap.size, 1, none⟩ = some (.int .i64 d.n) ∧ w11.cell? ⟨w.heap.size, 2, none⟩ = some (.slice a0 len0 cap0) := ⟨X11.cell 0, X11.cell 1, X11.cell 2, A11.cell 0, A11.cell 1, A11.cell 2⟩
  go_region_held3 (fun w' => w'.cell? ⟨w6.heap.size, 0, none⟩ = some (.int .i64 d.b) ∧ w'.cell? ⟨w6.heap.size, 1, none⟩ = some (.int .i64 d.n) ∧ w'.cell? ⟨w6.heap.size, 2, none⟩ = some (.slice a6 d.past.length l6) ∧ w'.cell? ⟨w.heap.size, 0, none⟩ = some (.int .i64 d.b) ∧ w'.cell? ⟨w.heap.size, 1, none⟩ = some (.int .i64 d.n) ∧ w'.cell? ⟨w.heap.size, 2, none⟩ = some (.slice a0 len0 cap0))
    (first
      | with_reducible exact y0
      | with_reducible exact y1
      | with_reducible exact y2
      | assumption)
    (first
      | (go_at_call 28; ((with_reducible refine (HT.out w11.drew (hI.out.below ((Below.refl _ _).drew))).mono ?_); rintro e v1 ⟨vd, rfl, rd, b'⟩; have bb1 : Below w11.heap.size w11 v1 := ((Below.refl _ w11).drew).trans b'; have iD := Lib.hid rd.ints; have iX := Lib.hid ((oX11.ints).below bb1); have y1 : v1.cell? ⟨w6.heap.size, 0, none⟩ = some (.int .i64 d.b) ∧ v1.cell? ⟨w6.heap.size, 1, none⟩ = some (.int .i64 d.n) ∧ v1.cell? ⟨w6.heap.size, 2, none⟩ = some (.slice a6 d.past.length l6) ∧ v1.cell? ⟨w.heap.size, 0, none⟩ = some (.int .i64 d.b) ∧ v1.cell? ⟨w.heap.size, 1, none⟩ = some (.int .i64 d.n) ∧ v1.cell? ⟨w.heap.size, 2, none⟩ = some (.slice a0 len0 cap0) := ⟨(X11.kept bb1).cell 0, (X11.kept bb1).cell 1, (X11.kept bb1).cell 2, (A11.kept bb1).cell 0, (A11.kept bb1).cell 1, (A11.kept bb1).cell 2⟩; clear rd b'))
      | (go_at_call 29; ((with_reducible refine (eqDesk d _ _ v1 iX.out iD.out hx).mono ?_); rintro e v2 ⟨rfl, b'⟩; have bb2 := bb1.trans (b'.mono bb1.size); have y2 : v2.cell? ⟨w6.heap.size, 0, none⟩ = some (.int .i64 d.b) ∧ v2.cell? ⟨w6.heap.size, 1, none⟩ = some (.int .i64 d.n) ∧ v2.cell? ⟨w6.heap.size, 2, none⟩ = some (.slice a6 d.past.length l6) ∧ v2.cell? ⟨w.heap.size, 0, none⟩ = some (.int .i64 d.b) ∧ v2.cell? ⟨w.heap.size, 1, none⟩ = some (.int .i64 d.n) ∧ v2.cell? ⟨w.heap.size, 2, none⟩ = some (.slice a0 len0 cap0) := ⟨(X11.kept bb2).cell 0, (X11.kept bb2).cell 1, (X11.kept bb2).cell 2, (A11.kept bb2).cell 0, (A11.kept bb2).cell 1, (A11.kept bb2).cell 2⟩; clear b')))
  obtain ⟨w13, hw⟩ : ∃ u, u = v2 := ⟨_, rfl⟩
  subst hw
  have A13 := A11.kept bb2
  have iL13 := iL11.below bb2
  have oS13 := oS11.below bb2
  have S13 := S11.kept bb2
  have oX13 := oX11.below bb2
  have X13 := X11.kept bb2
  have dY13 := dY11.below bb2
  have oG13 := oG11.below bb2
  have G13 := G11.kept bb2
  have c13 := c11.trans (bb2.mono c11.size)
  have z13 := bb2.size
  replace hI := Lib.hid (hI.out.below bb2)
  clear y0 y1 y2 bb1 bb2 iD iX
  clear A11 iL11 oS11 S11 oX11 X11 dY11 oG11 G11 c11
  go_wp2_with fail
  refine (HE.out w13 iL13).mono ?_
  rintro e w14 ⟨v14, rfl, r14, b14⟩
  have A14 := A13.kept b14
  have iL14 := iL13.below b14
  have oS14 := oS13.below b14
  have S14 := S13.kept b14
  have oX14 := oX13.below b14
  have X14 := X13.kept b14
  have dY14 := dY13.below b14
  have oG14 := oG13.below b14
  have G14 := G13.kept b14
  have c14 := c13.trans (b14.mono c13.size)
  have z14 := b14.size
  replace hI := Lib.hid (hI.out.below b14)
  clear A13 iL13 oS13 S13 oX13 X13 dY13 oG13 G13 c13
  have iE14 := r14.deeds
  clear r14 b14
  go_wp2_with fail
  refine (eqDeedS _ _ ds w14 dY14.deeds iE14 hdy).mono ?_
  rintro e w15 ⟨rfl, b15⟩
  have A15 := A14.kept b15
  have iL15 := iL14.below b15
  have oS15 := oS14.below b15
  have S15 := S14.kept b15
  have oX15 := oX14.below b15
  have X15 := X14.kept b15
  have dY15 := dY14.below b15
  have oG15 := oG14.below b15
  have G15 := G14.kept b15
  have iE15 := iE14.below b15
  have c15 := c14.trans (b15.mono c14.size)
  have z15 := b15.size
  replace hI := Lib.hid (hI.out.below b15)
  clear A14 iL14 oS14 S14 oX14 X14 dY14 oG14 G14 iE14 c14
  clear b15 iE15
  have Xc0 := X15.cell 0
  have Xc1 := X15.cell 1
  have Xc2 := X15.cell 2
  go_wp2_with fail
  clear Xc0 Xc1 Xc2
  have dYk := dY15
  have oXk := oX15
  refine (markDeskK w.heap.size d.b d.n _ d.past 1 w15 (oX15.mono (by omega)) (by omega) hx (by omega) (by omega)).mono ?_
  rintro e w16 ⟨rfl, om16, bm, el⟩
  have A16 := A15.marked oX15 el (by decide)
  have S16 := S15.marked oX15 el (by decide)
  have X16 := X15.marked oX15 el (by decide)
  have G16 := G15.marked oX15 el (by decide)
  have oS16 := oS15.marked el nSX
  have oG16 := oG15.marked el nGX
  have dY16 := dYk.markedI oXk el
  have c16 := c15.trans bm
  have z16 := bm.size
  replace hI : Hid (Ints w16 (.slice a0 len0 cap0) d.past) := Lib.hid (hI0.below c16)
  clear bm el A15 S15 X15 G15 oS15 oG15 oX15 c15 dYk oXk dY15 iL15
  clear om16 X16
  go_wp2_with fail
  refine (markDeedK w.heap.size _ ds (1 + (d.past.length : Int)) w16 (DRow.mono dY16 (by omega)) hdy (by omega) (by omega)).mono ?_
  rintro e w17 ⟨rfl, dm, bm, el⟩
  have A17 := A16.apart el (SBox.notDeeds dY16 A16 (by decide))
  have S17 := S16.apart el (SBox.notDeeds dY16 S16 (by decide))
  have G17 := G16.apart el (SBox.notDeeds dY16 G16 (by decide))
  have oS17 := oS16.apartD dY16 el
  have oG17 := oG16.apartD dY16 el
  have c17 := c16.trans bm
  have z17 := bm.size
  replace hI : Hid (Ints w17 (.slice a0 len0 cap0) d.past) := Lib.hid (hI0.below c17)
  have iL17 := hL0.below c17
  clear dm bm el A16 S16 G16 oS16 oG16 dY16 c16
  have Gc0 := G17.cell 0
  have Gc1 := G17.cell 1
  have Gc2 := G17.cell 2
  have Sc0 := S17.cell 0
  have Sc1 := S17.cell 1
  have Sc2 := S17.cell 2
  go_wp2_with fail
  refine (eqDesk D _ _ w17 oG17.ints oS17.ints hDx).mono ?_
  rintro e w18 ⟨rfl, b18⟩
  clear Gc0 Gc1 Gc2 Sc0 Sc1 Sc2
  have A18 := A17.kept b18
  have iL18 := iL17.below b18
  have S18 := S17.kept b18
  have G18 := G17.kept b18
  have oS18 := oS17.below b18
  have oG18 := oG17.below b18
  have c18 := c17.trans (b18.mono c17.size)
  have z18 := b18.size
  replace hI := Lib.hid (hI.out.below b18)
  clear A17 iL17 S17 G17 oS17 oG17 c17
  clear b18
  have Gc0 := G18.cell 0
  have Gc1 := G18.cell 1
  have Gc2 := G18.cell 2
  go_wp2_with fail
  clear Gc0 Gc1 Gc2
  refine (markDeskK w.heap.size D.b D.n _ D.past 1 w18 (oG18.mono (by omega)) (by omega) hDx (by omega) (by omega)).mono ?_
  rintro e w19 ⟨rfl, om19, bm, el⟩
  have A19 := A18.marked oG18 el (by decide)
  have S19 := S18.marked oG18 el (by decide)
  have G19 := G18.marked oG18 el (by decide)
  have oS19 := oS18.marked el nSG
  have c19 := c18.trans bm
  have z19 := bm.size
  replace hI : Hid (Ints w19 (.slice a0 len0 cap0) d.past) := Lib.hid (hI0.below c19)
  clear bm el A18 S18 G18 oS18 oG18 c18 iL18
  have iL19 := hL0.below c19
  have oM19 := om19
  clear om19
  have Gc0 := G19.cell 0
  have Gc1 := G19.cell 1
  have Gc2 := G19.cell 2
  go_wp2_with fail
  refine (heldDesk D.b D.n _ 1 D.past.length w19 oM19.ints hDx (by omega) (by omega)).mono ?_
  rintro e w20 ⟨rfl, b20⟩
  clear Gc0 Gc1 Gc2
  have A20 := A19.kept b20
  have iL20 := iL19.below b20
  have S20 := S19.kept b20
  have G20 := G19.kept b20
  have oS20 := oS19.below b20
  have oM20 := oM19.below b20
  have c20 := c19.trans (b20.mono c19.size)
  have z20 := b20.size
  replace hI := Lib.hid (hI.out.below b20)
  clear A19 iL19 S19 G19 oS19 oM19 c19
  clear b20
  have Ac0 := A20.cell 0
  have Ac1 := A20.cell 1
  have Ac2 := A20.cell 2
  go_wp2_with fail
  refine (HT.out w20 hI.out).mono ?_
  rintro e w21 ⟨v21, rfl, r21, b21⟩
  clear Ac0 Ac1 Ac2
  have A21 := A20.kept b21
  have iL21 := iL20.below b21
  have S21 := S20.kept b21
  have G21 := G20.kept b21
  have oS21 := oS20.below b21
  have oM21 := oM20.below b21
  have c21 := c20.trans (b21.mono c20.size)
  have z21 := b21.size
  replace hI := Lib.hid (hI.out.below b21)
  clear A20 iL20 S20 G20 oS20 oM20 c20
  have iD21 := r21.ints
  clear r21 b21
  go_wp2_with fail
  refine (HE.out w21 iL21).mono ?_
  rintro e w22 ⟨v22, rfl, r22, b22⟩
  have A22 := A21.kept b22
  have iL22 := iL21.below b22
  have S22 := S21.kept b22
  have G22 := G21.kept b22
  have oS22 := oS21.below b22
  have oM22 := oM21.below b22
  have iD22 := iD21.below b22
  have c22 := c21.trans (b22.mono c21.size)
  have z22 := b22.size
  replace hI := Lib.hid (hI.out.below b22)
  clear A21 iL21 S21 G21 oS21 oM21 iD21 c21
  have iE22 := r22.deeds
  clear r22 b22
  go_wp2_with fail
  refine (HIM.out _ _ w22 iD22 iE22).mono ?_
  rintro e w23 ⟨v23, rfl, oH23, b23⟩
  have A23 := A22.kept b23
  have iL23 := iL22.below b23
  have S23 := S22.kept b23
  have G23 := G22.kept b23
  have oS23 := oS22.below b23
  have oM23 := oM22.below b23
  have c23 := c22.trans (b23.mono c22.size)
  have z23 := b23.size
  replace hI := Lib.hid (hI.out.below b23)
  clear A22 iL22 S22 G22 oS22 oM22 c22
  clear b23 iD22 iE22
  obtain ⟨a23, l23, rfl, _⟩ := oH23.ints
  have hal : Below w23.heap.size w23 (w23.alloc (.cells #[.int .i64 D.b, .int .i64 D.n, .slice a23 D.past.length l23] 25)) := (Below.refl _ w23).alloc (Nat.le_refl _) _
  have H24 := SBox.new w23 25 #[.int .i64 D.b, .int .i64 D.n, .slice a23 D.past.length l23]
  have A24 := A23.kept hal
  have iL24 := iL23.below hal
  have S24 := S23.kept hal
  have G24 := G23.kept hal
  have oS24 := oS23.below hal
  have oM24 := oM23.below hal
  have oH24 := oH23.below hal
  have c24 := c23.trans (hal.mono c23.size)
  have z24 := hal.size
  replace hI := Lib.hid (hI.out.below hal)
  clear hal
  clear A23 iL23 S23 G23 oS23 oM23 oH23 c23
  go_upto_region 32 with (fail)
  generalize w23.alloc (.cells #[.int .i64 D.b, .int .i64 D.n, .slice a23 D.past.length l23] 25) = w24 at *
  clear A24 iL24
  have Hc0 := H24.cell 0
  have Hc1 := H24.cell 1
  have Hc2 := H24.cell 2
  have Sc0 := S24.cell 0
  have Sc1 := S24.cell 1
  have Sc2 := S24.cell 2
  go_wp2_with fail
  refine (eqDesk D _ _ w24 oH24.ints oS24.ints hDx).mono ?_
  rintro e w25 ⟨rfl, b25⟩
  clear Hc0 Hc1 Hc2 Sc0 Sc1 Sc2
  have G25 := G24.kept b25
  have S25 := S24.kept b25
  have H25 := H24.kept b25
  have oS25 := oS24.below b25
  have oM25 := oM24.below b25
  have oH25 := oH24.below b25
  have c25 := c24.trans (b25.mono c24.size)
  have z25 := b25.size
  replace hI := Lib.hid (hI.out.below b25)
  clear G24 S24 H24 oS24 oM24 oH24 c24
  clear b25
  have Gc0 := G25.cell 0
  have Gc1 := G25.cell 1
  have Gc2 := G25.cell 2
  go_wp2_with fail
  refine (heldDesk D.b D.n _ 1 D.past.length w25 oM25.ints hDx (by omega) (by omega)).mono ?_
  rintro e w26 ⟨rfl, b26⟩
  clear Gc0 Gc1 Gc2
  have G26 := G25.kept b26
  have oM26 := oM25.below b26
  have c26 := c25.trans (b26.mono c25.size)
  have z26 := b26.size
  replace hI := Lib.hid (hI.out.below b26)
  clear G25 oM25 c25
  go_wp2
  go_ret
  exact ⟨rfl, c26⟩

end Go.Proofs.Ytakkjlcnfkklpaa
