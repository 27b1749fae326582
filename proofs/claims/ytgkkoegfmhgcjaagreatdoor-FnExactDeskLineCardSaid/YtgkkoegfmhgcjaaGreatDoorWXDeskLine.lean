/-
  The walk of the exact law of DeskLine.
-/
import Derived.Test.YtgkkoegfmhgcjaaGreatDoorLineD
import Derived.Test.YtgkkoegfmhgcjaaGreatDoorXCut
import Derived.Test.YtgkkoegfmhgcjaaGreatDoorGDeskX
import Derived.Test.YtgkkoegfmhgcjaaGreatDoorWXDeskOk
import Derived.Deep.RegionHeld3
import Derived.Deep.DeepCutAuto
namespace Go.Proofs.YtgkkoegfmhgcjaaGreatDoor
open Go.RowKit Go.Shelf

theorem Pl.lineA_few (d : Pl.Dk) (line : List UInt8) : (Pl.lineA d line).1.past.length ≤ 8 := by
  by_cases h : Pl.dkB d = true
  · cases hr : Pl.readL line with
    | some a => rw [Pl.lineA_deed h hr]; exact Pl.doA_few d a.1 a.2
    | none => rw [Pl.lineA_ask h hr]; exact ((Pl.dkB_iff _).1 h).2.2
  · rw [Pl.lineA_no h]; exact Nat.zero_le _

theorem FnExactDeskLine_lib {W : World} (h : laidMetH Tryz.prog Rows.fnExactDeskLineRow.laid W) : LibOk W := by
  rw [MakeChecks.laidMetH_plain _ _ _ (by kernel_rfl)] at h
  exact lib_of_laid h

set_option maxRecDepth 100000 in
set_option maxHeartbeats 4000000 in
theorem FnExactDeskLine_walk (b0 n0 : Int) (a0 : Option Addr) (len0 cap0 : Nat) (z0 : List Int) (s1 : ByteArray) (w : World) (_wb0 : (Lit.int .i64 b0).wf = true) (_wn0 : (Lit.int .i64 n0).wf = true) (w0 : IsRow .i64 w a0 len0 cap0 z0) (_w1 : s1.size ≤ maxLen) (hL : LibOk w) :
    Calls Tryz.prog 6 #[.agg #[.int .i64 b0, .int .i64 n0, .slice a0 len0 cap0], .string s1] w fun e w' => e = .returned (.bool true) ∧ Below w.heap.size w w' := by
  have hmax := w0.len_le
  have HLib := Lib.hid hL
  clear hL
  by_cases hls : 1048576 < s1.size
  · have c1 := (Below.refl _ w).alloc (Nat.le_refl _) (.cells #[.int .i64 b0, .int .i64 n0, .slice a0 len0 cap0] 52)
    go_enter Tryz.func6, Tryz.ntmps6
    go_wp2
    go_ret
    exact ⟨rfl, c1⟩
  by_cases hl : 1048576 < len0
  · have HZ := Lib.hid (fun W => szDesk_no b0 n0 a0 len0 cap0 1048576 W (by omega) (by omega) (by unfold maxLen at hmax; omega))
    go_enter Tryz.func6, Tryz.ntmps6
    go_wp2_with fail
    refine (HZ.out _).mono ?_
    rintro e w1 ⟨rfl, b1⟩
    have c1 := ((Below.refl _ w).alloc (Nat.le_refl _) (.cells #[.int .i64 b0, .int .i64 n0, .slice a0 len0 cap0] 52)).trans (b1.mono (by simp))
    clear b1
    go_wp2
    go_ret
    exact ⟨rfl, c1⟩
  have HZ := Lib.hid (fun W => szDesk_yes b0 n0 a0 len0 cap0 1048576 W (by omega) (by omega))
  obtain ⟨hI, hlen⟩ := w0.ints
  have hneg : ¬ (1048576 : Int) - (len0 : Int) < 0 := by omega
  generalize (1048576 : Int) - (len0 : Int) = LEFT at *
  obtain ⟨d, hd⟩ : ∃ d : Pl.Dk, d = ⟨b0, n0, z0.take len0⟩ := ⟨_, rfl⟩
  have hb : d.b = b0 := by rw [hd]
  have hn : d.n = n0 := by rw [hd]
  have hp : d.past = z0.take len0 := by rw [hd]
  rw [← hp] at hI hlen
  subst hb hn
  clear hd hp
  have hx : d.past.length ≤ 1000000000 := by omega
  have hx2 : d.past.length ≤ 100000000 := by omega
  have hI0 := hI
  have HT := Lib.hid (fun W (h : Ints W (.slice a0 len0 cap0) d.past) => toDesk d (.slice a0 len0 cap0) W h hx)
  have HSP := Lib.hid (fun pv W (h : Ints W pv d.past) => specDeskLine d pv s1 W h hx2 (by omega))
  have HIM := Lib.hid (fun pv W (h : Ints W pv d.past) (g : LibOk W) => implDeskLine d pv s1 W h hx2 (by omega) g)
  have hDl := Pl.lineA_few d s1.data.toList
  generalize Pl.lineA d s1.data.toList = R at *
  obtain ⟨D, ans⟩ := R
  simp only at hDl
  unfold LinePost at HSP HIM
  simp only at HSP HIM
  generalize Pl.str ans = T at *
  have hDx : D.past.length ≤ 1000000000 := by omega
  have hnx : ¬ (1 : Int) + (d.past.length : Int) < 0 := by omega
  have hny : ¬ (1 : Int) + (D.past.length : Int) < 0 := by omega
  have hTT : (T.toList == T.toList) = true := beq_self_eq_true _
  clear w0 hl hlen hmax
  go_enter Tryz.func6, Tryz.ntmps6
  go_wp2_with fail
  refine (HZ.out _).mono ?_
  rintro e w1 ⟨rfl, b1⟩
  have c1 := ((Below.refl _ w).alloc (Nat.le_refl _) (.cells #[.int .i64 d.b, .int .i64 d.n, .slice a0 len0 cap0] 52)).trans (b1.mono (by simp))
  have A1 := (SBox.new w 52 #[.int .i64 d.b, .int .i64 d.n, .slice a0 len0 cap0]).kept b1
  have I1 := Lib.hid (hI.below c1)
  have hI := I1
  have zc := c1.size
  clear b1
  have Ac0 := A1.cell 0
  have Ac1 := A1.cell 1
  have Ac2 := A1.cell 2
  go_wp2_with fail
  refine (HT.out w1 hI.out).mono ?_
  rintro e w2 ⟨v2, rfl, r2, b2⟩
  clear Ac0 Ac1 Ac2
  have A2 := A1.kept b2
  have c2 := c1.trans (b2.mono c1.size)
  have z2 := b2.size
  replace hI := Lib.hid (hI.out.below b2)
  clear A1 c1
  have iD2 := r2.ints
  clear r2 b2
  go_wp2_with fail
  refine (HSP.out _ w2 iD2).mono ?_
  rintro e w3 ⟨v3, rfl, oS3, b3⟩
  have A3 := A2.kept b3
  have c3 := c2.trans (b3.mono c2.size)
  have z3 := b3.size
  replace hI := Lib.hid (hI.out.below b3)
  clear A2 c2
  clear b3 iD2
  obtain ⟨a3, l3, rfl, _⟩ := oS3.ints
  have hS3 := Lib.hid oS3
  have hal : Below w3.heap.size w3 (w3.alloc (.cells #[.int .i64 D.b, .int .i64 D.n, .slice a3 D.past.length l3] 30)) := (Below.refl _ w3).alloc (Nat.le_refl _) _
  have S4 := SBox.new w3 30 #[.int .i64 D.b, .int .i64 D.n, .slice a3 D.past.length l3]
  have A4 := A3.kept hal
  have oS4 := oS3.below hal
  have c4 := c3.trans (hal.mono c3.size)
  have z4 := hal.size
  replace hI := Lib.hid (hI.out.below hal)
  clear hal
  clear A3 oS3 c3
  go_upto_region 8 with (fail)
  generalize w3.alloc (.cells #[.int .i64 D.b, .int .i64 D.n, .slice a3 D.past.length l3] 30) = w4 at *
  have Ac0 := A4.cell 0
  have Ac1 := A4.cell 1
  have Ac2 := A4.cell 2
  go_wp2_with fail
  refine (HT.out w4 hI.out).mono ?_
  rintro e w5 ⟨v5, rfl, r5, b5⟩
  clear Ac0 Ac1 Ac2
  have A5 := A4.kept b5
  have oS5 := oS4.below b5
  have S5 := S4.kept b5
  have c5 := c4.trans (b5.mono c4.size)
  have z5 := b5.size
  replace hI := Lib.hid (hI.out.below b5)
  clear A4 oS4 S4 c4
  obtain ⟨a5, l5, rfl⟩ := r5.shape
  have oX5 : OwnTail w4.heap.size w5 _ d.past := .inl r5
  have hX5 := Lib.hid oX5
  clear r5 b5
  have hal : Below w5.heap.size w5 (w5.alloc (.cells #[.int .i64 d.b, .int .i64 d.n, .slice a5 d.past.length l5] 30)) := (Below.refl _ w5).alloc (Nat.le_refl _) _
  have X6 := SBox.new w5 30 #[.int .i64 d.b, .int .i64 d.n, .slice a5 d.past.length l5]
  have A6 := A5.kept hal
  have oS6 := oS5.below hal
  have S6 := S5.kept hal
  have oX6 := oX5.below hal
  have c6 := c5.trans (hal.mono c5.size)
  have z6 := hal.size
  replace hI := Lib.hid (hI.out.below hal)
  clear hal
  clear A5 oS5 S5 oX5 c5
  go_upto_region 9 with (fail)
  generalize w5.alloc (.cells #[.int .i64 d.b, .int .i64 d.n, .slice a5 d.past.length l5] 30) = w6 at *
  have Xc0 := X6.cell 0
  have Xc1 := X6.cell 1
  have Xc2 := X6.cell 2
  have iX6 := oX6.ints
  have hlb := HLib.out.below c6
  go_wp2_with fail
  refine (HIM.out _ w6 iX6 hlb).mono ?_
  rintro e w7 ⟨v7, rfl, oG7, b7⟩
  clear Xc0 Xc1 Xc2
  have A7 := A6.kept b7
  have oS7 := oS6.below b7
  have S7 := S6.kept b7
  have oX7 := oX6.below b7
  have X7 := X6.kept b7
  have c7 := c6.trans (b7.mono c6.size)
  have z7 := b7.size
  replace hI := Lib.hid (hI.out.below b7)
  have hX6 := Lib.hid oX6
  clear A6 oS6 S6 oX6 X6 c6
  clear b7 iX6 hlb
  obtain ⟨a7, l7, rfl, _⟩ := oG7.ints
  have hG7 := Lib.hid oG7
  have hal : Below w7.heap.size w7 (w7.alloc (.cells #[.int .i64 D.b, .int .i64 D.n, .slice a7 D.past.length l7] 30)) := (Below.refl _ w7).alloc (Nat.le_refl _) _
  have G8 := SBox.new w7 30 #[.int .i64 D.b, .int .i64 D.n, .slice a7 D.past.length l7]
  have A8 := A7.kept hal
  have oS8 := oS7.below hal
  have S8 := S7.kept hal
  have oX8 := oX7.below hal
  have X8 := X7.kept hal
  have oG8 := oG7.below hal
  have c8 := c7.trans (hal.mono c7.size)
  have z8 := hal.size
  replace hI := Lib.hid (hI.out.below hal)
  clear hal
  clear A7 oS7 S7 oX7 X7 oG7 c7
  go_upto_region 10 with (fail)
  generalize w7.alloc (.cells #[.int .i64 D.b, .int .i64 D.n, .slice a7 D.past.length l7] 30) = w8 at *
  have nSX := OwnTail.near hS3.out hX5.out (by omega)
  have nGX := OwnTail.far hG7.out hX6.out (by omega)
  have nSG := OwnTail.near hS3.out hG7.out (by omega)
  clear hS3 hX5 hX6 hG7
  have Gc0 := G8.cell 0
  have Gc1 := G8.cell 1
  have Gc2 := G8.cell 2
  have Sc0 := S8.cell 0
  have Sc1 := S8.cell 1
  have Sc2 := S8.cell 2
  go_wp2_with fail
  refine (eqDesk D _ _ w8 oG8.ints oS8.ints hDx).mono ?_
  rintro e w9 ⟨rfl, b9⟩
  clear Gc0 Gc1 Gc2 Sc0 Sc1 Sc2
  have A9 := A8.kept b9
  have oS9 := oS8.below b9
  have S9 := S8.kept b9
  have oX9 := oX8.below b9
  have X9 := X8.kept b9
  have oG9 := oG8.below b9
  have G9 := G8.kept b9
  have c9 := c8.trans (b9.mono c8.size)
  have z9 := b9.size
  replace hI := Lib.hid (hI.out.below b9)
  clear A8 oS8 S8 oX8 X8 oG8 G8 c8
  clear b9
  go_upto_region 12 with (fail)
  have y0 : w9.cell? ⟨w5.heap.size, 0, none⟩ = some (.int .i64 d.b) ∧ w9.cell? ⟨w5.heap.size, 1, none⟩ = some (.int .i64 d.n) ∧ w9.cell? ⟨w5.heap.size, 2, none⟩ = some (.slice a5 d.past.length l5) ∧ w9.cell? ⟨w.heap.size, 0, none⟩ = some (.int .i64 d.b) ∧ w9.cell? ⟨w.heap.size, 1, none⟩ = some (.int .i64 d.n) ∧ w9.cell? ⟨w.heap.size, 2, none⟩ = some (.slice a0 len0 cap0) := ⟨X9.cell 0, X9.cell 1, X9.cell 2, A9.cell 0, A9.cell 1, A9.cell 2⟩
  go_region_held3 (fun w' => w'.cell? ⟨w5.heap.size, 0, none⟩ = some (.int .i64 d.b) ∧ w'.cell? ⟨w5.heap.size, 1, none⟩ = some (.int .i64 d.n) ∧ w'.cell? ⟨w5.heap.size, 2, none⟩ = some (.slice a5 d.past.length l5) ∧ w'.cell? ⟨w.heap.size, 0, none⟩ = some (.int .i64 d.b) ∧ w'.cell? ⟨w.heap.size, 1, none⟩ = some (.int .i64 d.n) ∧ w'.cell? ⟨w.heap.size, 2, none⟩ = some (.slice a0 len0 cap0))
    (first
      | with_reducible exact y0
      | with_reducible exact y1
      | with_reducible exact y2
      | assumption)
    (first
      | (go_at_call 29; ((with_reducible refine (HT.out w9.drew (hI.out.below ((Below.refl _ _).drew))).mono ?_); rintro e v1 ⟨vd, rfl, rd, b'⟩; have bb1 : Below w9.heap.size w9 v1 := ((Below.refl _ w9).drew).trans b'; have iD := Lib.hid rd.ints; have iX := Lib.hid ((oX9.ints).below bb1); have y1 : v1.cell? ⟨w5.heap.size, 0, none⟩ = some (.int .i64 d.b) ∧ v1.cell? ⟨w5.heap.size, 1, none⟩ = some (.int .i64 d.n) ∧ v1.cell? ⟨w5.heap.size, 2, none⟩ = some (.slice a5 d.past.length l5) ∧ v1.cell? ⟨w.heap.size, 0, none⟩ = some (.int .i64 d.b) ∧ v1.cell? ⟨w.heap.size, 1, none⟩ = some (.int .i64 d.n) ∧ v1.cell? ⟨w.heap.size, 2, none⟩ = some (.slice a0 len0 cap0) := ⟨(X9.kept bb1).cell 0, (X9.kept bb1).cell 1, (X9.kept bb1).cell 2, (A9.kept bb1).cell 0, (A9.kept bb1).cell 1, (A9.kept bb1).cell 2⟩; clear rd b'))
      | (go_at_call 30; ((with_reducible refine (eqDesk d _ _ v1 iX.out iD.out hx).mono ?_); rintro e v2 ⟨rfl, b'⟩; have bb2 := bb1.trans (b'.mono bb1.size); have y2 : v2.cell? ⟨w5.heap.size, 0, none⟩ = some (.int .i64 d.b) ∧ v2.cell? ⟨w5.heap.size, 1, none⟩ = some (.int .i64 d.n) ∧ v2.cell? ⟨w5.heap.size, 2, none⟩ = some (.slice a5 d.past.length l5) ∧ v2.cell? ⟨w.heap.size, 0, none⟩ = some (.int .i64 d.b) ∧ v2.cell? ⟨w.heap.size, 1, none⟩ = some (.int .i64 d.n) ∧ v2.cell? ⟨w.heap.size, 2, none⟩ = some (.slice a0 len0 cap0) := ⟨(X9.kept bb2).cell 0, (X9.kept bb2).cell 1, (X9.kept bb2).cell 2, (A9.kept bb2).cell 0, (A9.kept bb2).cell 1, (A9.kept bb2).cell 2⟩; clear b')))
  obtain ⟨w11, hw⟩ : ∃ u, u = v2 := ⟨_, rfl⟩
  subst hw
  have A11 := A9.kept bb2
  have oS11 := oS9.below bb2
  have S11 := S9.kept bb2
  have oX11 := oX9.below bb2
  have X11 := X9.kept bb2
  have oG11 := oG9.below bb2
  have G11 := G9.kept bb2
  have c11 := c9.trans (bb2.mono c9.size)
  have z11 := bb2.size
  replace hI := Lib.hid (hI.out.below bb2)
  clear y0 y1 y2 bb1 bb2 iD iX
  clear A9 oS9 S9 oX9 X9 oG9 G9 c9
  have Xc0 := X11.cell 0
  have Xc1 := X11.cell 1
  have Xc2 := X11.cell 2
  go_wp2_with fail
  clear Xc0 Xc1 Xc2
  refine (markDeskK w.heap.size d.b d.n _ d.past 1 w11 (oX11.mono (by omega)) (by omega) hx (by omega) (by omega)).mono ?_
  rintro e w12 ⟨rfl, om12, bm, el⟩
  have A12 := A11.marked oX11 el (by decide)
  have S12 := S11.marked oX11 el (by decide)
  have X12 := X11.marked oX11 el (by decide)
  have G12 := G11.marked oX11 el (by decide)
  have oS12 := oS11.marked el nSX
  have oG12 := oG11.marked el nGX
  have c12 := c11.trans bm
  have z12 := bm.size
  replace hI : Hid (Ints w12 (.slice a0 len0 cap0) d.past) := Lib.hid (hI0.below c12)
  clear bm el A11 S11 X11 G11 oS11 oG11 oX11 c11
  clear om12 X12
  have Gc0 := G12.cell 0
  have Gc1 := G12.cell 1
  have Gc2 := G12.cell 2
  have Sc0 := S12.cell 0
  have Sc1 := S12.cell 1
  have Sc2 := S12.cell 2
  go_wp2_with fail
  refine (eqDesk D _ _ w12 oG12.ints oS12.ints hDx).mono ?_
  rintro e w13 ⟨rfl, b13⟩
  clear Gc0 Gc1 Gc2 Sc0 Sc1 Sc2
  have A13 := A12.kept b13
  have S13 := S12.kept b13
  have G13 := G12.kept b13
  have oS13 := oS12.below b13
  have oG13 := oG12.below b13
  have c13 := c12.trans (b13.mono c12.size)
  have z13 := b13.size
  replace hI := Lib.hid (hI.out.below b13)
  clear A12 S12 G12 oS12 oG12 c12
  clear b13
  have Gc0 := G13.cell 0
  have Gc1 := G13.cell 1
  have Gc2 := G13.cell 2
  go_wp2_with fail
  clear Gc0 Gc1 Gc2
  refine (markDeskK w.heap.size D.b D.n _ D.past 1 w13 (oG13.mono (by omega)) (by omega) hDx (by omega) (by omega)).mono ?_
  rintro e w14 ⟨rfl, om14, bm, el⟩
  have A14 := A13.marked oG13 el (by decide)
  have S14 := S13.marked oG13 el (by decide)
  have G14 := G13.marked oG13 el (by decide)
  have oS14 := oS13.marked el nSG
  have c14 := c13.trans bm
  have z14 := bm.size
  replace hI : Hid (Ints w14 (.slice a0 len0 cap0) d.past) := Lib.hid (hI0.below c14)
  clear bm el A13 S13 G13 oS13 oG13 c13
  have oM14 := om14
  clear om14
  have Gc0 := G14.cell 0
  have Gc1 := G14.cell 1
  have Gc2 := G14.cell 2
  go_wp2_with fail
  refine (heldDesk D.b D.n _ 1 D.past.length w14 oM14.ints hDx (by omega) (by omega)).mono ?_
  rintro e w15 ⟨rfl, b15⟩
  clear Gc0 Gc1 Gc2
  have A15 := A14.kept b15
  have S15 := S14.kept b15
  have G15 := G14.kept b15
  have oS15 := oS14.below b15
  have oM15 := oM14.below b15
  have c15 := c14.trans (b15.mono c14.size)
  have z15 := b15.size
  replace hI := Lib.hid (hI.out.below b15)
  clear A14 S14 G14 oS14 oM14 c14
  clear b15
  have Ac0 := A15.cell 0
  have Ac1 := A15.cell 1
  have Ac2 := A15.cell 2
  go_wp2_with fail
  refine (HT.out w15 hI.out).mono ?_
  rintro e w16 ⟨v16, rfl, r16, b16⟩
  clear Ac0 Ac1 Ac2
  have A16 := A15.kept b16
  have S16 := S15.kept b16
  have G16 := G15.kept b16
  have oS16 := oS15.below b16
  have oM16 := oM15.below b16
  have c16 := c15.trans (b16.mono c15.size)
  have z16 := b16.size
  replace hI := Lib.hid (hI.out.below b16)
  clear A15 S15 G15 oS15 oM15 c15
  have iD16 := r16.ints
  clear r16 b16
  have hlb := HLib.out.below c16
  go_wp2_with fail
  refine (HIM.out _ w16 iD16 hlb).mono ?_
  rintro e w17 ⟨v17, rfl, oH17, b17⟩
  have A17 := A16.kept b17
  have S17 := S16.kept b17
  have G17 := G16.kept b17
  have oS17 := oS16.below b17
  have oM17 := oM16.below b17
  have c17 := c16.trans (b17.mono c16.size)
  have z17 := b17.size
  replace hI := Lib.hid (hI.out.below b17)
  clear A16 S16 G16 oS16 oM16 c16
  clear b17 iD16 hlb
  obtain ⟨a17, l17, rfl, _⟩ := oH17.ints
  have hal : Below w17.heap.size w17 (w17.alloc (.cells #[.int .i64 D.b, .int .i64 D.n, .slice a17 D.past.length l17] 30)) := (Below.refl _ w17).alloc (Nat.le_refl _) _
  have H18 := SBox.new w17 30 #[.int .i64 D.b, .int .i64 D.n, .slice a17 D.past.length l17]
  have A18 := A17.kept hal
  have S18 := S17.kept hal
  have G18 := G17.kept hal
  have oS18 := oS17.below hal
  have oM18 := oM17.below hal
  have oH18 := oH17.below hal
  have c18 := c17.trans (hal.mono c17.size)
  have z18 := hal.size
  replace hI := Lib.hid (hI.out.below hal)
  clear hal
  clear A17 S17 G17 oS17 oM17 oH17 c17
  go_upto_region 27 with (fail)
  generalize w17.alloc (.cells #[.int .i64 D.b, .int .i64 D.n, .slice a17 D.past.length l17] 30) = w18 at *
  clear A18
  have Hc0 := H18.cell 0
  have Hc1 := H18.cell 1
  have Hc2 := H18.cell 2
  have Sc0 := S18.cell 0
  have Sc1 := S18.cell 1
  have Sc2 := S18.cell 2
  go_wp2_with fail
  refine (eqDesk D _ _ w18 oH18.ints oS18.ints hDx).mono ?_
  rintro e w19 ⟨rfl, b19⟩
  clear Hc0 Hc1 Hc2 Sc0 Sc1 Sc2
  have G19 := G18.kept b19
  have S19 := S18.kept b19
  have H19 := H18.kept b19
  have oS19 := oS18.below b19
  have oM19 := oM18.below b19
  have oH19 := oH18.below b19
  have c19 := c18.trans (b19.mono c18.size)
  have z19 := b19.size
  replace hI := Lib.hid (hI.out.below b19)
  clear G18 S18 H18 oS18 oM18 oH18 c18
  clear b19
  have Gc0 := G19.cell 0
  have Gc1 := G19.cell 1
  have Gc2 := G19.cell 2
  go_wp2_with fail
  refine (heldDesk D.b D.n _ 1 D.past.length w19 oM19.ints hDx (by omega) (by omega)).mono ?_
  rintro e w20 ⟨rfl, b20⟩
  clear Gc0 Gc1 Gc2
  have G20 := G19.kept b20
  have oM20 := oM19.below b20
  have c20 := c19.trans (b20.mono c19.size)
  have z20 := b20.size
  replace hI := Lib.hid (hI.out.below b20)
  clear G19 oM19 c19
  go_wp2
  go_ret
  exact ⟨rfl, c20⟩

end Go.Proofs.YtgkkoegfmhgcjaaGreatDoor
