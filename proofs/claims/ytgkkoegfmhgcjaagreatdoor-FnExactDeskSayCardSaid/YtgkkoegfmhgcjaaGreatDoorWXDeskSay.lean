/-
  The walk of the exact law of DeskSay.
-/
import Derived.Test.YtgkkoegfmhgcjaaGreatDoorSayI
import Derived.Test.YtgkkoegfmhgcjaaGreatDoorSayExact
import Derived.Test.YtgkkoegfmhgcjaaGreatDoorXCut
import Derived.Test.YtgkkoegfmhgcjaaGreatDoorGDeskX
import Derived.Test.YtgkkoegfmhgcjaaGreatDoorWXDeskOk
import Derived.Deep.RegionHeld3
import Derived.Deep.DeepCutAuto
namespace Go.Proofs.YtgkkoegfmhgcjaaGreatDoor
open Go.RowKit Go.Shelf

theorem FnExactDeskSay_lib {W : World} (h : laidMetH Tryz.prog Rows.fnExactDeskSayRow.laid W) : LibOk W := by
  rw [MakeChecks.laidMetH_plain _ _ _ (by kernel_rfl)] at h
  exact lib_of_laid h

set_option maxRecDepth 100000 in
set_option maxHeartbeats 8000000 in
theorem FnExactDeskSay_walk (b0 n0 : Int) (a0 : Option Addr) (len0 cap0 : Nat) (z0 : List Int) (a1 : Option Addr) (len1 cap1 : Nat) (t1 : List ByteArray) (w : World) (_wb0 : (Lit.int .i64 b0).wf = true) (_wn0 : (Lit.int .i64 n0).wf = true) (w0 : IsRow .i64 w a0 len0 cap0 z0) (hT1 : Texts w (.slice a1 len1 cap1) t1) (e1 : t1.length = len1) (l1 : len1 ≤ maxLen) (y1 : ∀ s ∈ t1, s.size ≤ maxLen) (hL : LibOk w) :
    Calls Tryz.prog 7 #[.agg #[.int .i64 b0, .int .i64 n0, .slice a0 len0 cap0], .slice a1 len1 cap1] w fun e w' => e = .returned (.bool true) ∧ Below w.heap.size w w' := by
  have hmax := w0.len_le
  have HLib := Lib.hid hL
  have HYS := Lib.hid y1
  clear hL y1
  by_cases hl : 1048576 < len0
  · have HZ := Lib.hid (fun W => szDesk_no b0 n0 a0 len0 cap0 1048576 W (by omega) (by omega) (by unfold maxLen at hmax; omega))
    go_enter Tryz.func7, Tryz.ntmps7
    go_wp2_with fail
    refine (HZ.out _).mono ?_
    rintro e w1 ⟨rfl, b1⟩
    have c1 := ((Below.refl _ w).alloc (Nat.le_refl _) (.cells #[.int .i64 b0, .int .i64 n0, .slice a0 len0 cap0] 52)).trans (b1.mono (by simp))
    clear b1
    go_wp2
    go_ret
    exact ⟨rfl, c1⟩
  have HZ := Lib.hid (fun W => szDesk_yes b0 n0 a0 len0 cap0 1048576 W (by omega) (by omega))
  obtain ⟨hI, hlen⟩ := w0.ints
  have hneg : ¬ (1048576 : Int) - (len0 : Int) < 0 := by omega
  have hub : (1048576 : Int) - (len0 : Int) ≤ 1048576 := by omega
  have hdx : (z0.take len0).length ≤ 1048576 := by omega
  generalize (1048576 : Int) - (len0 : Int) = LEFT at *
  have HY := Lib.hid (fun W (h : Texts W (.slice a1 len1 cap1) t1) => szStringS a1 len1 cap1 t1 LEFT W h e1 l1 HYS.out (by omega) hub)
  obtain ⟨d, hd⟩ : ∃ d : Pl.Dk, d = ⟨b0, n0, z0.take len0⟩ := ⟨_, rfl⟩
  have hb : d.b = b0 := by rw [hd]
  have hn : d.n = n0 := by rw [hd]
  have hp : d.past = z0.take len0 := by rw [hd]
  rw [← hp] at hI hlen hdx
  subst hb hn
  clear hd hp
  have hx : d.past.length ≤ 1000000000 := by omega
  have hx2 : d.past.length ≤ 100000000 := by omega
  have hI0 := hI
  have HT := Lib.hid (fun W (h : Ints W (.slice a0 len0 cap0) d.past) => toDesk d (.slice a0 len0 cap0) W h hx)
  clear w0 hl hlen hmax l1 hub HYS
  go_enter Tryz.func7, Tryz.ntmps7
  go_wp2_with fail
  refine (HZ.out _).mono ?_
  rintro e w1 ⟨rfl, b1⟩
  have c1 := ((Below.refl _ w).alloc (Nat.le_refl _) (.cells #[.int .i64 d.b, .int .i64 d.n, .slice a0 len0 cap0] 52)).trans (b1.mono (by simp))
  have A1 := (SBox.new w 52 #[.int .i64 d.b, .int .i64 d.n, .slice a0 len0 cap0]).kept b1
  have I1 := Lib.hid (hI.below c1)
  have iL1 := hT1.below c1
  have hI := I1
  have hL0 := Lib.hid hT1
  have zc := c1.size
  clear b1 hT1
  go_wp2_with fail
  refine (HY.out _ iL1).mono ?_
  rintro e w' ⟨⟨q, rfl, hq⟩, rfl⟩
  have HQ := Lib.hid hq
  clear hq
  rcases HQ.out with rfl | ⟨hq0, htl, htz⟩
  · go_wp2
    go_ret
    exact ⟨rfl, c1⟩
  have hqn : ¬ q < 0 := by omega
  have HTZ : Hid (∀ s ∈ t1, s.size ≤ 1000000000) := Lib.hid (fun s hs => Nat.le_trans (htz s hs) (by decide))
  have htx : t1.length ≤ 1000000000 := by omega
  clear HQ htz
  have HE := Lib.hid (fun W (h : Texts W (.slice a1 len1 cap1) t1) => toStringS (.slice a1 len1 cap1) t1 W h htx)
  have HSP := Lib.hid (fun pv lv W (h : Ints W pv d.past) (g : Texts W lv ((listed t1).map Pl.str)) => specDeskSay d pv lv t1 W h hx2 (by rwa [str_listed] at g) HTZ.out)
  have HIM := Lib.hid (fun pv lv W (h : Ints W pv d.past) (g : Texts W lv ((listed t1).map Pl.str)) (k : LibOk W) => implDeskSay d pv lv t1 W h hx2 (by rwa [str_listed] at g) HTZ.out k)
  have hDl := Pl.sayA_few d (listed t1)
  have hll : (listed t1).length = t1.length := listed_len t1
  have hly : ((listed t1).map Pl.str).length ≤ 1000000000 := by rw [List.length_map, hll]; exact htx
  obtain ⟨R, hR⟩ : ∃ R, Pl.sayA d (listed t1) = R := ⟨_, rfl⟩
  rw [hR] at HSP HIM hDl
  obtain ⟨D, ANS⟩ := R
  unfold SayPost at HSP HIM
  simp only at hDl HSP HIM
  have hDx : D.past.length ≤ 1000000000 := by omega
  have hAx : (ANS.map Pl.str).length ≤ 1000000000 := by rw [List.length_map]; omega
  have hny : ¬ (1 : Int) + (D.past.length : Int) < 0 := by omega
  obtain ⟨MM, hMM⟩ : ∃ z : Int, ((1 + d.past.length + (listed t1).length : Nat) : Int) = z := ⟨_, rfl⟩
  obtain ⟨NN, hNN⟩ : ∃ z : Int, ((1 + D.past.length + ANS.length : Nat) : Int) = z := ⟨_, rfl⟩
  have hm0 : ¬ MM < 0 := by omega
  have hn0 : ¬ NN < 0 := by omega
  have HMY : Hid (∀ v W, TRow w.heap.size W v (listed t1) → w.heap.size ≤ W.heap.size → Calls Tryz.prog 36 #[v, .int .i64 (1 + (d.past.length : Int))] W fun e w' => e = .returned (.int .i64 MM) ∧ TRow w.heap.size w' v (Pl.tmarks (1 + d.past.length) (listed t1).length) ∧ Below w.heap.size W w' ∧ ElseB v W w') := Lib.hid (fun v W h hb => by
    have := markStringS w.heap.size v (listed t1) (1 + d.past.length) W h hb (by omega) (by omega) (by omega)
    rw [hMM, show ((1 + d.past.length : Nat) : Int) = 1 + (d.past.length : Int) by omega] at this
    exact this)
  have HMG : Hid (∀ v W, TRow w.heap.size W v ANS → w.heap.size ≤ W.heap.size → Calls Tryz.prog 36 #[v, .int .i64 (1 + (D.past.length : Int))] W fun e w' => e = .returned (.int .i64 NN) ∧ TRow w.heap.size w' v (Pl.tmarks (1 + D.past.length) ANS.length) ∧ Below w.heap.size W w' ∧ ElseB v W w') := Lib.hid (fun v W h hb => by
    have := markStringS w.heap.size v ANS (1 + D.past.length) W h hb (by omega) (by omega) (by omega)
    rw [hNN, show ((1 + D.past.length : Nat) : Int) = 1 + (D.past.length : Int) by omega] at this
    exact this)
  have HHG : Hid (∀ v W, Texts W v ((Pl.tmarks (1 + D.past.length) ANS.length).map Pl.str) → Calls Tryz.prog 37 #[v, .int .i64 (1 + (D.past.length : Int))] W fun e w' => e = .returned (.int .i64 NN) ∧ Below W.heap.size W w') := Lib.hid (fun v W h => by
    have := heldStringS v (1 + D.past.length) ANS.length W h (by omega) (by omega) (by omega)
    rw [hNN, show ((1 + D.past.length : Nat) : Int) = 1 + (D.past.length : Int) by omega] at this
    exact this)
  clear hMM hNN hR hDl hll htl hq0
  have Ac0 := A1.cell 0
  have Ac1 := A1.cell 1
  have Ac2 := A1.cell 2
  go_wp2_with fail
  refine (HT.out w1 hI.out).mono ?_
  rintro e w2 ⟨v2, rfl, r2, b2⟩
  clear Ac0 Ac1 Ac2
  have A2 := A1.kept b2
  have iL2 := iL1.below b2
  have c2 := c1.trans (b2.mono c1.size)
  have z2 := b2.size
  replace hI := Lib.hid (hI.out.below b2)
  clear A1 iL1 c1
  have iD2 := r2.ints
  clear r2 b2
  go_wp2_with fail
  refine (HE.out w2 iL2).mono ?_
  rintro e w3 ⟨v3, rfl, r3, b3⟩
  have A3 := A2.kept b3
  have iL3 := iL2.below b3
  have iD3 := iD2.below b3
  have c3 := c2.trans (b3.mono c2.size)
  have z3 := b3.size
  replace hI := Lib.hid (hI.out.below b3)
  clear A2 iL2 iD2 c2
  have iE3 := r3.texts
  clear r3 b3
  go_wp2_with fail
  refine (HSP.out _ _ w3 iD3 iE3).mono ?_
  rintro e w4 ⟨v4, t4, rfl, oS4, sA4, b4⟩
  have A4 := A3.kept b4
  have iL4 := iL3.below b4
  have c4 := c3.trans (b4.mono c3.size)
  have z4 := b4.size
  replace hI := Lib.hid (hI.out.below b4)
  clear A3 iL3 c3
  clear b4 iD3 iE3
  obtain ⟨a4, l4, rfl, _⟩ := oS4.ints
  have hS4 := Lib.hid oS4
  have hSA4 := Lib.hid sA4
  have hal : Below w4.heap.size w4 (w4.alloc (.cells #[.int .i64 D.b, .int .i64 D.n, .slice a4 D.past.length l4] 30)) := (Below.refl _ w4).alloc (Nat.le_refl _) _
  have S5 := SBox.new w4 30 #[.int .i64 D.b, .int .i64 D.n, .slice a4 D.past.length l4]
  have A5 := A4.kept hal
  have iL5 := iL4.below hal
  have oS5 := oS4.below hal
  have sA5 := sA4.below hal
  have c5 := c4.trans (hal.mono c4.size)
  have z5 := hal.size
  replace hI := Lib.hid (hI.out.below hal)
  clear hal
  clear A4 iL4 oS4 sA4 c4
  go_upto_region 9 with (fail)
  generalize w4.alloc (.cells #[.int .i64 D.b, .int .i64 D.n, .slice a4 D.past.length l4] 30) = w5 at *
  have Ac0 := A5.cell 0
  have Ac1 := A5.cell 1
  have Ac2 := A5.cell 2
  go_wp2_with fail
  refine (HT.out w5 hI.out).mono ?_
  rintro e w6 ⟨v6, rfl, r6, b6⟩
  clear Ac0 Ac1 Ac2
  have A6 := A5.kept b6
  have iL6 := iL5.below b6
  have oS6 := oS5.below b6
  have sA6 := sA5.below b6
  have S6 := S5.kept b6
  have c6 := c5.trans (b6.mono c5.size)
  have z6 := b6.size
  replace hI := Lib.hid (hI.out.below b6)
  clear A5 iL5 oS5 sA5 S5 c5
  obtain ⟨a6, l6, rfl⟩ := r6.shape
  have oX6 : OwnTail w5.heap.size w6 _ d.past := .inl r6
  have hX6 := Lib.hid oX6
  clear r6 b6
  have hal : Below w6.heap.size w6 (w6.alloc (.cells #[.int .i64 d.b, .int .i64 d.n, .slice a6 d.past.length l6] 30)) := (Below.refl _ w6).alloc (Nat.le_refl _) _
  have X7 := SBox.new w6 30 #[.int .i64 d.b, .int .i64 d.n, .slice a6 d.past.length l6]
  have A7 := A6.kept hal
  have iL7 := iL6.below hal
  have oS7 := oS6.below hal
  have sA7 := sA6.below hal
  have S7 := S6.kept hal
  have oX7 := oX6.below hal
  have c7 := c6.trans (hal.mono c6.size)
  have z7 := hal.size
  replace hI := Lib.hid (hI.out.below hal)
  clear hal
  clear A6 iL6 oS6 sA6 S6 oX6 c6
  go_upto_region 10 with (fail)
  generalize w6.alloc (.cells #[.int .i64 d.b, .int .i64 d.n, .slice a6 d.past.length l6] 30) = w7 at *
  go_wp2_with fail
  refine (HE.out w7 iL7).mono ?_
  rintro e w8 ⟨v8, rfl, dY8, b8⟩
  have A8 := A7.kept b8
  have iL8 := iL7.below b8
  have oS8 := oS7.below b8
  have sA8 := sA7.below b8
  have S8 := S7.kept b8
  have oX8 := oX7.below b8
  have X8 := X7.kept b8
  have c8 := c7.trans (b8.mono c7.size)
  have z8 := b8.size
  replace hI := Lib.hid (hI.out.below b8)
  clear A7 iL7 oS7 sA7 S7 oX7 X7 c7
  clear b8
  have hY8 := Lib.hid dY8
  have Xc0 := X8.cell 0
  have Xc1 := X8.cell 1
  have Xc2 := X8.cell 2
  have iX8 := oX8.ints
  have iY8 := dY8.texts
  have hlb := HLib.out.below c8
  go_wp2_with fail
  refine (HIM.out _ _ w8 iX8 iY8 hlb).mono ?_
  rintro e w9 ⟨v9, t9, rfl, oG9, gA9, b9⟩
  clear Xc0 Xc1 Xc2
  have A9 := A8.kept b9
  have iL9 := iL8.below b9
  have oS9 := oS8.below b9
  have sA9 := sA8.below b9
  have S9 := S8.kept b9
  have oX9 := oX8.below b9
  have X9 := X8.kept b9
  have dY9 := dY8.below b9
  have c9 := c8.trans (b9.mono c8.size)
  have z9 := b9.size
  replace hI := Lib.hid (hI.out.below b9)
  have hX8 := Lib.hid oX8
  clear A8 iL8 oS8 sA8 S8 oX8 X8 dY8 c8
  clear b9 iX8 iY8 hlb
  obtain ⟨a9, l9, rfl, _⟩ := oG9.ints
  have hG9 := Lib.hid oG9
  have hGA9 := Lib.hid gA9
  have hal : Below w9.heap.size w9 (w9.alloc (.cells #[.int .i64 D.b, .int .i64 D.n, .slice a9 D.past.length l9] 30)) := (Below.refl _ w9).alloc (Nat.le_refl _) _
  have G10 := SBox.new w9 30 #[.int .i64 D.b, .int .i64 D.n, .slice a9 D.past.length l9]
  have A10 := A9.kept hal
  have iL10 := iL9.below hal
  have oS10 := oS9.below hal
  have sA10 := sA9.below hal
  have S10 := S9.kept hal
  have oX10 := oX9.below hal
  have X10 := X9.kept hal
  have dY10 := dY9.below hal
  have oG10 := oG9.below hal
  have gA10 := gA9.below hal
  have c10 := c9.trans (hal.mono c9.size)
  have z10 := hal.size
  replace hI := Lib.hid (hI.out.below hal)
  clear hal
  clear A9 iL9 oS9 sA9 S9 oX9 X9 dY9 oG9 gA9 c9
  go_upto_region 12 with (fail)
  generalize w9.alloc (.cells #[.int .i64 D.b, .int .i64 D.n, .slice a9 D.past.length l9] 30) = w10 at *
  have nSX := OwnTail.near hS4.out hX6.out (by omega)
  have nGX := OwnTail.far hG9.out hX8.out (by omega)
  have nSG := OwnTail.near hS4.out hG9.out (by omega)
  have nAY := TRow.near hSA4.out hY8.out (by omega)
  have nBY := TRow.far hGA9.out hY8.out (by omega)
  have nAB := TRow.near hSA4.out hGA9.out (by omega)
  have hNs := Lib.hid (And.intro nAY (And.intro nBY nAB))
  clear hS4 hX6 hX8 hG9 hSA4 hY8 hGA9 nAY nBY nAB
  have Gc0 := G10.cell 0
  have Gc1 := G10.cell 1
  have Gc2 := G10.cell 2
  have Sc0 := S10.cell 0
  have Sc1 := S10.cell 1
  have Sc2 := S10.cell 2
  go_wp2_with fail
  refine (eqDesk D _ _ w10 oG10.ints oS10.ints hDx).mono ?_
  rintro e w11 ⟨rfl, b11⟩
  clear Gc0 Gc1 Gc2 Sc0 Sc1 Sc2
  have A11 := A10.kept b11
  have iL11 := iL10.below b11
  have oS11 := oS10.below b11
  have sA11 := sA10.below b11
  have S11 := S10.kept b11
  have oX11 := oX10.below b11
  have X11 := X10.kept b11
  have dY11 := dY10.below b11
  have oG11 := oG10.below b11
  have gA11 := gA10.below b11
  have G11 := G10.kept b11
  have c11 := c10.trans (b11.mono c10.size)
  have z11 := b11.size
  replace hI := Lib.hid (hI.out.below b11)
  clear A10 iL10 oS10 sA10 S10 oX10 X10 dY10 oG10 gA10 G10 c10
  clear b11
  go_wp2_with fail
  refine (eqStringS _ _ _ w11 gA11.texts sA11.texts hAx).mono ?_
  rintro e w12 ⟨rfl, b12⟩
  have A12 := A11.kept b12
  have iL12 := iL11.below b12
  have oS12 := oS11.below b12
  have sA12 := sA11.below b12
  have S12 := S11.kept b12
  have oX12 := oX11.below b12
  have X12 := X11.kept b12
  have dY12 := dY11.below b12
  have oG12 := oG11.below b12
  have gA12 := gA11.below b12
  have G12 := G11.kept b12
  have c12 := c11.trans (b12.mono c11.size)
  have z12 := b12.size
  replace hI := Lib.hid (hI.out.below b12)
  clear A11 iL11 oS11 sA11 S11 oX11 X11 dY11 oG11 gA11 G11 c11
  clear b12
  go_upto_region 14 with (fail)
  have y0 : w12.cell? ⟨w6.heap.size, 0, none⟩ = some (.int .i64 d.b) ∧ w12.cell? ⟨w6.heap.size, 1, none⟩ = some (.int .i64 d.n) ∧ w12.cell? ⟨w6.heap.size, 2, none⟩ = some (.slice a6 d.past.length l6) ∧ w12.cell? ⟨w.heap.size, 0, none⟩ = some (.int .i64 d.b) ∧ w12.cell? ⟨w.heap.size, 1, none⟩ = some (.int .i64 d.n) ∧ w12.cell? ⟨w.heap.size, 2, none⟩ = some (.slice a0 len0 cap0) := ⟨X12.cell 0, X12.cell 1, X12.cell 2, A12.cell 0, A12.cell 1, A12.cell 2⟩
  go_region_held3 (fun w' => w'.cell? ⟨w6.heap.size, 0, none⟩ = some (.int .i64 d.b) ∧ w'.cell? ⟨w6.heap.size, 1, none⟩ = some (.int .i64 d.n) ∧ w'.cell? ⟨w6.heap.size, 2, none⟩ = some (.slice a6 d.past.length l6) ∧ w'.cell? ⟨w.heap.size, 0, none⟩ = some (.int .i64 d.b) ∧ w'.cell? ⟨w.heap.size, 1, none⟩ = some (.int .i64 d.n) ∧ w'.cell? ⟨w.heap.size, 2, none⟩ = some (.slice a0 len0 cap0))
    (first
      | with_reducible exact y0
      | with_reducible exact y1
      | with_reducible exact y2
      | assumption)
    (first
      | (go_at_call 29; ((with_reducible refine (HT.out w12.drew (hI.out.below ((Below.refl _ _).drew))).mono ?_); rintro e v1 ⟨vd, rfl, rd, b'⟩; have bb1 : Below w12.heap.size w12 v1 := ((Below.refl _ w12).drew).trans b'; have iD := Lib.hid rd.ints; have iX := Lib.hid ((oX12.ints).below bb1); have y1 : v1.cell? ⟨w6.heap.size, 0, none⟩ = some (.int .i64 d.b) ∧ v1.cell? ⟨w6.heap.size, 1, none⟩ = some (.int .i64 d.n) ∧ v1.cell? ⟨w6.heap.size, 2, none⟩ = some (.slice a6 d.past.length l6) ∧ v1.cell? ⟨w.heap.size, 0, none⟩ = some (.int .i64 d.b) ∧ v1.cell? ⟨w.heap.size, 1, none⟩ = some (.int .i64 d.n) ∧ v1.cell? ⟨w.heap.size, 2, none⟩ = some (.slice a0 len0 cap0) := ⟨(X12.kept bb1).cell 0, (X12.kept bb1).cell 1, (X12.kept bb1).cell 2, (A12.kept bb1).cell 0, (A12.kept bb1).cell 1, (A12.kept bb1).cell 2⟩; clear rd b'))
      | (go_at_call 30; ((with_reducible refine (eqDesk d _ _ v1 iX.out iD.out hx).mono ?_); rintro e v2 ⟨rfl, b'⟩; have bb2 := bb1.trans (b'.mono bb1.size); have y2 : v2.cell? ⟨w6.heap.size, 0, none⟩ = some (.int .i64 d.b) ∧ v2.cell? ⟨w6.heap.size, 1, none⟩ = some (.int .i64 d.n) ∧ v2.cell? ⟨w6.heap.size, 2, none⟩ = some (.slice a6 d.past.length l6) ∧ v2.cell? ⟨w.heap.size, 0, none⟩ = some (.int .i64 d.b) ∧ v2.cell? ⟨w.heap.size, 1, none⟩ = some (.int .i64 d.n) ∧ v2.cell? ⟨w.heap.size, 2, none⟩ = some (.slice a0 len0 cap0) := ⟨(X12.kept bb2).cell 0, (X12.kept bb2).cell 1, (X12.kept bb2).cell 2, (A12.kept bb2).cell 0, (A12.kept bb2).cell 1, (A12.kept bb2).cell 2⟩; clear b')))
  obtain ⟨w14, hw⟩ : ∃ u, u = v2 := ⟨_, rfl⟩
  subst hw
  have A14 := A12.kept bb2
  have iL14 := iL12.below bb2
  have oS14 := oS12.below bb2
  have sA14 := sA12.below bb2
  have S14 := S12.kept bb2
  have oX14 := oX12.below bb2
  have X14 := X12.kept bb2
  have dY14 := dY12.below bb2
  have oG14 := oG12.below bb2
  have gA14 := gA12.below bb2
  have G14 := G12.kept bb2
  have c14 := c12.trans (bb2.mono c12.size)
  have z14 := bb2.size
  replace hI := Lib.hid (hI.out.below bb2)
  clear y0 y1 y2 bb1 bb2 iD iX
  clear A12 iL12 oS12 sA12 S12 oX12 X12 dY12 oG12 gA12 G12 c12
  go_wp2_with fail
  refine (HE.out w14 iL14).mono ?_
  rintro e w15 ⟨v15, rfl, r15, b15⟩
  have A15 := A14.kept b15
  have iL15 := iL14.below b15
  have oS15 := oS14.below b15
  have sA15 := sA14.below b15
  have S15 := S14.kept b15
  have oX15 := oX14.below b15
  have X15 := X14.kept b15
  have dY15 := dY14.below b15
  have oG15 := oG14.below b15
  have gA15 := gA14.below b15
  have G15 := G14.kept b15
  have c15 := c14.trans (b15.mono c14.size)
  have z15 := b15.size
  replace hI := Lib.hid (hI.out.below b15)
  clear A14 iL14 oS14 sA14 S14 oX14 X14 dY14 oG14 gA14 G14 c14
  have iE15 := r15.texts
  clear r15 b15
  go_wp2_with fail
  refine (eqStringS _ _ _ w15 dY15.texts iE15 hly).mono ?_
  rintro e w16 ⟨rfl, b16⟩
  have A16 := A15.kept b16
  have iL16 := iL15.below b16
  have oS16 := oS15.below b16
  have sA16 := sA15.below b16
  have S16 := S15.kept b16
  have oX16 := oX15.below b16
  have X16 := X15.kept b16
  have dY16 := dY15.below b16
  have oG16 := oG15.below b16
  have gA16 := gA15.below b16
  have G16 := G15.kept b16
  have iE16 := iE15.below b16
  have c16 := c15.trans (b16.mono c15.size)
  have z16 := b16.size
  replace hI := Lib.hid (hI.out.below b16)
  clear A15 iL15 oS15 sA15 S15 oX15 X15 dY15 oG15 gA15 G15 iE15 c15
  clear b16 iE16
  have Xc0 := X16.cell 0
  have Xc1 := X16.cell 1
  have Xc2 := X16.cell 2
  go_wp2_with fail
  clear Xc0 Xc1 Xc2
  refine (markDeskK w.heap.size d.b d.n _ d.past 1 w16 (oX16.mono (by omega)) (by omega) hx (by omega) (by omega)).mono ?_
  rintro e w17 ⟨rfl, om17, bm, el⟩
  have A17 := A16.marked oX16 el (by decide)
  have S17 := S16.marked oX16 el (by decide)
  have X17 := X16.marked oX16 el (by decide)
  have G17 := G16.marked oX16 el (by decide)
  have oS17 := oS16.marked el nSX
  have oG17 := oG16.marked el nGX
  have dY17 := dY16.markedI oX16 el
  have sA17 := sA16.markedI oX16 el
  have gA17 := gA16.markedI oX16 el
  have c17 := c16.trans bm
  have z17 := bm.size
  replace hI : Hid (Ints w17 (.slice a0 len0 cap0) d.past) := Lib.hid (hI0.below c17)
  clear bm el A16 S16 X16 G16 oS16 oG16 oX16 c16 dY16 sA16 gA16 iL16
  clear om17 X17
  go_wp2_with fail
  refine (HMY.out _ w17 (TRow.mono dY17 (by omega)) (by omega)).mono ?_
  rintro e w18 ⟨rfl, tm18, bm, el⟩
  have A18 := A17.markedT dY17 el (by decide)
  have S18 := S17.markedT dY17 el (by decide)
  have G18 := G17.markedT dY17 el (by decide)
  have oS18 := oS17.markedT dY17 el
  have oG18 := oG17.markedT dY17 el
  have sA18 := sA17.apartB el hNs.out.1
  have gA18 := gA17.apartB el hNs.out.2.1
  have c18 := c17.trans bm
  have z18 := bm.size
  replace hI : Hid (Ints w18 (.slice a0 len0 cap0) d.past) := Lib.hid (hI0.below c18)
  clear bm el A17 S17 G17 oS17 oG17 sA17 gA17 dY17 c17
  clear tm18
  have Gc0 := G18.cell 0
  have Gc1 := G18.cell 1
  have Gc2 := G18.cell 2
  have Sc0 := S18.cell 0
  have Sc1 := S18.cell 1
  have Sc2 := S18.cell 2
  go_wp2_with fail
  refine (eqDesk D _ _ w18 oG18.ints oS18.ints hDx).mono ?_
  rintro e w19 ⟨rfl, b19⟩
  clear Gc0 Gc1 Gc2 Sc0 Sc1 Sc2
  have A19 := A18.kept b19
  have S19 := S18.kept b19
  have G19 := G18.kept b19
  have oS19 := oS18.below b19
  have oG19 := oG18.below b19
  have sA19 := sA18.below b19
  have gA19 := gA18.below b19
  have c19 := c18.trans (b19.mono c18.size)
  have z19 := b19.size
  replace hI := Lib.hid (hI.out.below b19)
  clear A18 S18 G18 oS18 oG18 sA18 gA18 c18
  clear b19
  go_wp2_with fail
  refine (eqStringS _ _ _ w19 gA19.texts sA19.texts hAx).mono ?_
  rintro e w20 ⟨rfl, b20⟩
  have A20 := A19.kept b20
  have S20 := S19.kept b20
  have G20 := G19.kept b20
  have oS20 := oS19.below b20
  have oG20 := oG19.below b20
  have sA20 := sA19.below b20
  have gA20 := gA19.below b20
  have c20 := c19.trans (b20.mono c19.size)
  have z20 := b20.size
  replace hI := Lib.hid (hI.out.below b20)
  clear A19 S19 G19 oS19 oG19 sA19 gA19 c19
  clear b20
  have Gc0 := G20.cell 0
  have Gc1 := G20.cell 1
  have Gc2 := G20.cell 2
  go_wp2_with fail
  clear Gc0 Gc1 Gc2
  refine (markDeskK w.heap.size D.b D.n _ D.past 1 w20 (oG20.mono (by omega)) (by omega) hDx (by omega) (by omega)).mono ?_
  rintro e w21 ⟨rfl, om21, bm, el⟩
  have A21 := A20.marked oG20 el (by decide)
  have S21 := S20.marked oG20 el (by decide)
  have G21 := G20.marked oG20 el (by decide)
  have oS21 := oS20.marked el nSG
  have sA21 := sA20.markedI oG20 el
  have gA21 := gA20.markedI oG20 el
  have c21 := c20.trans bm
  have z21 := bm.size
  replace hI : Hid (Ints w21 (.slice a0 len0 cap0) d.past) := Lib.hid (hI0.below c21)
  clear bm el A20 S20 G20 oS20 oG20 c20 sA20 gA20
  have oM21 := om21
  clear om21
  go_wp2_with fail
  refine (HMG.out _ w21 (TRow.mono gA21 (by omega)) (by omega)).mono ?_
  rintro e w22 ⟨rfl, tm22, bm, el⟩
  have A22 := A21.markedT gA21 el (by decide)
  have S22 := S21.markedT gA21 el (by decide)
  have G22 := G21.markedT gA21 el (by decide)
  have oS22 := oS21.markedT gA21 el
  have oM22 := oM21.markedT gA21 el
  have sA22 := sA21.apartB el hNs.out.2.2
  have c22 := c21.trans bm
  have z22 := bm.size
  replace hI : Hid (Ints w22 (.slice a0 len0 cap0) d.past) := Lib.hid (hI0.below c22)
  clear bm el A21 S21 G21 oS21 oM21 sA21 gA21 c21
  have gM22 := tm22
  have iL22 := hL0.out.below c22
  clear tm22
  have Gc0 := G22.cell 0
  have Gc1 := G22.cell 1
  have Gc2 := G22.cell 2
  go_wp2_with fail
  refine (heldDesk D.b D.n _ 1 D.past.length w22 oM22.ints hDx (by omega) (by omega)).mono ?_
  rintro e w23 ⟨rfl, b23⟩
  clear Gc0 Gc1 Gc2
  have A23 := A22.kept b23
  have iL23 := iL22.below b23
  have S23 := S22.kept b23
  have G23 := G22.kept b23
  have oS23 := oS22.below b23
  have oM23 := oM22.below b23
  have sA23 := sA22.below b23
  have gM23 := gM22.below b23
  have c23 := c22.trans (b23.mono c22.size)
  have z23 := b23.size
  replace hI := Lib.hid (hI.out.below b23)
  clear A22 iL22 S22 G22 oS22 oM22 sA22 gM22 c22
  clear b23
  go_wp2_with fail
  refine (HHG.out _ w23 gM23.texts).mono ?_
  rintro e w24 ⟨rfl, b24⟩
  have A24 := A23.kept b24
  have iL24 := iL23.below b24
  have S24 := S23.kept b24
  have G24 := G23.kept b24
  have oS24 := oS23.below b24
  have oM24 := oM23.below b24
  have sA24 := sA23.below b24
  have gM24 := gM23.below b24
  have c24 := c23.trans (b24.mono c23.size)
  have z24 := b24.size
  replace hI := Lib.hid (hI.out.below b24)
  clear A23 iL23 S23 G23 oS23 oM23 sA23 gM23 c23
  clear b24
  have Ac0 := A24.cell 0
  have Ac1 := A24.cell 1
  have Ac2 := A24.cell 2
  go_wp2_with fail
  refine (HT.out w24 hI.out).mono ?_
  rintro e w25 ⟨v25, rfl, r25, b25⟩
  clear Ac0 Ac1 Ac2
  have A25 := A24.kept b25
  have iL25 := iL24.below b25
  have S25 := S24.kept b25
  have G25 := G24.kept b25
  have oS25 := oS24.below b25
  have oM25 := oM24.below b25
  have sA25 := sA24.below b25
  have gM25 := gM24.below b25
  have c25 := c24.trans (b25.mono c24.size)
  have z25 := b25.size
  replace hI := Lib.hid (hI.out.below b25)
  clear A24 iL24 S24 G24 oS24 oM24 sA24 gM24 c24
  have iD25 := r25.ints
  clear r25 b25
  go_wp2_with fail
  refine (HE.out w25 iL25).mono ?_
  rintro e w26 ⟨v26, rfl, r26, b26⟩
  have A26 := A25.kept b26
  have iL26 := iL25.below b26
  have S26 := S25.kept b26
  have G26 := G25.kept b26
  have oS26 := oS25.below b26
  have oM26 := oM25.below b26
  have sA26 := sA25.below b26
  have gM26 := gM25.below b26
  have iD26 := iD25.below b26
  have c26 := c25.trans (b26.mono c25.size)
  have z26 := b26.size
  replace hI := Lib.hid (hI.out.below b26)
  clear A25 iL25 S25 G25 oS25 oM25 sA25 gM25 iD25 c25
  have iE26 := r26.texts
  clear r26 b26
  have hlb := HLib.out.below c26
  go_wp2_with fail
  refine (HIM.out _ _ w26 iD26 iE26 hlb).mono ?_
  rintro e w27 ⟨v27, t27, rfl, oH27, hA27, b27⟩
  have A27 := A26.kept b27
  have iL27 := iL26.below b27
  have S27 := S26.kept b27
  have G27 := G26.kept b27
  have oS27 := oS26.below b27
  have oM27 := oM26.below b27
  have sA27 := sA26.below b27
  have gM27 := gM26.below b27
  have c27 := c26.trans (b27.mono c26.size)
  have z27 := b27.size
  replace hI := Lib.hid (hI.out.below b27)
  clear A26 iL26 S26 G26 oS26 oM26 sA26 gM26 c26
  clear b27 iD26 iE26 hlb
  obtain ⟨a27, l27, rfl, _⟩ := oH27.ints
  have hal : Below w27.heap.size w27 (w27.alloc (.cells #[.int .i64 D.b, .int .i64 D.n, .slice a27 D.past.length l27] 30)) := (Below.refl _ w27).alloc (Nat.le_refl _) _
  have H28 := SBox.new w27 30 #[.int .i64 D.b, .int .i64 D.n, .slice a27 D.past.length l27]
  have A28 := A27.kept hal
  have iL28 := iL27.below hal
  have S28 := S27.kept hal
  have G28 := G27.kept hal
  have oS28 := oS27.below hal
  have oM28 := oM27.below hal
  have sA28 := sA27.below hal
  have gM28 := gM27.below hal
  have oH28 := oH27.below hal
  have hA28 := hA27.below hal
  have c28 := c27.trans (hal.mono c27.size)
  have z28 := hal.size
  replace hI := Lib.hid (hI.out.below hal)
  clear hal
  clear A27 iL27 S27 G27 oS27 oM27 sA27 gM27 oH27 hA27 c27
  go_upto_region 36 with (fail)
  generalize w27.alloc (.cells #[.int .i64 D.b, .int .i64 D.n, .slice a27 D.past.length l27] 30) = w28 at *
  clear A28 iL28
  have Hc0 := H28.cell 0
  have Hc1 := H28.cell 1
  have Hc2 := H28.cell 2
  have Sc0 := S28.cell 0
  have Sc1 := S28.cell 1
  have Sc2 := S28.cell 2
  go_wp2_with fail
  refine (eqDesk D _ _ w28 oH28.ints oS28.ints hDx).mono ?_
  rintro e w29 ⟨rfl, b29⟩
  clear Hc0 Hc1 Hc2 Sc0 Sc1 Sc2
  have G29 := G28.kept b29
  have S29 := S28.kept b29
  have H29 := H28.kept b29
  have oS29 := oS28.below b29
  have oM29 := oM28.below b29
  have oH29 := oH28.below b29
  have sA29 := sA28.below b29
  have gM29 := gM28.below b29
  have hA29 := hA28.below b29
  have c29 := c28.trans (b29.mono c28.size)
  have z29 := b29.size
  replace hI := Lib.hid (hI.out.below b29)
  clear G28 S28 H28 oS28 oM28 oH28 sA28 gM28 hA28 c28
  clear b29
  go_wp2_with fail
  refine (eqStringS _ _ _ w29 hA29.texts sA29.texts hAx).mono ?_
  rintro e w30 ⟨rfl, b30⟩
  have G30 := G29.kept b30
  have S30 := S29.kept b30
  have H30 := H29.kept b30
  have oS30 := oS29.below b30
  have oM30 := oM29.below b30
  have oH30 := oH29.below b30
  have sA30 := sA29.below b30
  have gM30 := gM29.below b30
  have hA30 := hA29.below b30
  have c30 := c29.trans (b30.mono c29.size)
  have z30 := b30.size
  replace hI := Lib.hid (hI.out.below b30)
  clear G29 S29 H29 oS29 oM29 oH29 sA29 gM29 hA29 c29
  clear b30
  have Gc0 := G30.cell 0
  have Gc1 := G30.cell 1
  have Gc2 := G30.cell 2
  go_wp2_with fail
  refine (heldDesk D.b D.n _ 1 D.past.length w30 oM30.ints hDx (by omega) (by omega)).mono ?_
  rintro e w31 ⟨rfl, b31⟩
  clear Gc0 Gc1 Gc2
  have G31 := G30.kept b31
  have oM31 := oM30.below b31
  have gM31 := gM30.below b31
  have c31 := c30.trans (b31.mono c30.size)
  have z31 := b31.size
  replace hI := Lib.hid (hI.out.below b31)
  clear G30 oM30 gM30 c30
  clear b31
  go_wp2_with fail
  refine (HHG.out _ w31 gM31.texts).mono ?_
  rintro e w32 ⟨rfl, b32⟩
  have G32 := G31.kept b32
  have c32 := c31.trans (b32.mono c31.size)
  have z32 := b32.size
  replace hI := Lib.hid (hI.out.below b32)
  clear G31 c31
  go_wp2
  go_ret
  exact ⟨rfl, c32⟩

end Go.Proofs.YtgkkoegfmhgcjaaGreatDoor
