/-
  Chapter 12: the walk of the law of DeskLine, its inputs drawn.
-/
import Derived.Test.YtgkkoegfmhgcjaaGreatDoorLineD
import Derived.Test.YtgkkoegfmhgcjaaGreatDoorDrawLine
import Derived.Test.YtgkkoegfmhgcjaaGreatDoorGDeskX
import Derived.Test.YtgkkoegfmhgcjaaGreatDoorXCut
namespace Go.Proofs.YtgkkoegfmhgcjaaGreatDoor
open Go.RowKit Go.Shelf

theorem Pl.sameA_self (d : Pl.Dk) : Pl.sameA d d = true := by simp [Pl.sameA, eqL]
theorem Pl.lineA_dk {d : Pl.Dk} (h : Pl.dkB d = true) (line : List UInt8) : Pl.dkB (Pl.lineA d line).1 = true := by
  cases hr : Pl.readL line with
  | some a => rw [Pl.lineA_deed h hr]; exact (Pl.doA_desk h).1
  | none => rw [Pl.lineA_ask h hr]; exact h
theorem Pl.lineA_same {d : Pl.Dk} (h : Pl.dkB d = true) {line : List UInt8} (hn : (Pl.lineA d line).2 ≠ Pl.okW) : (Pl.lineA d line).1 = d := by
  cases hr : Pl.readL line with
  | some a =>
    rw [Pl.lineA_deed h hr] at hn ⊢
    cases h2 : (Pl.doA d a.1 a.2).2 with
    | true => exact absurd (by simp only [h2, if_true]) hn
    | false => exact Pl.doA_not_same h h2
  | none => rw [Pl.lineA_ask h hr]
theorem Pl.lineA_nil {d : Pl.Dk} (h : Pl.dkB d = true) : Pl.lineA d [] = (d, Pl.whatW) := by
  rw [Pl.lineA_ask h Pl.read_nil, Pl.ansL_rest d (by decide)]; rfl
theorem Pl.lineA_few2 (d : Pl.Dk) (line : List UInt8) : (Pl.lineA d line).1.past.length ≤ 8 := by
  by_cases h : Pl.dkB d = true
  · exact ((Pl.dkB_iff _).1 (Pl.lineA_dk h line)).2.2
  · rw [Pl.lineA_no h]; exact Nat.zero_le _

theorem FnDeskLine_lib {W : World} (h : laidMetH Tryz.prog Rows.fnDeskLineRow.laid W) : LibOk W := by
  rw [MakeChecks.laidMetH_plain _ _ _ (by kernel_rfl)] at h
  exact lib_of_laid h

set_option maxRecDepth 100000 in
set_option maxHeartbeats 4000000 in
theorem FnDeskLine_walk (a0 : Option Addr) (len0 cap0 : Nat) (z0 : List Int) (w : World) (w0 : IsRow .u8 w a0 len0 cap0 z0) (hL : LibOk w) :
    Calls Tryz.prog 4 #[.slice a0 len0 cap0] w fun e w' => e = .returned (.bool true) ∧ Below w.heap.size w w' := by
  have HLib := Lib.hid hL
  clear hL
  by_cases hl : 1048576 < len0
  · go_enter Tryz.func4, Tryz.ntmps4
    go_wp2
    go_ret
    exact ⟨rfl, Below.refl _ _⟩
  go_enter Tryz.func4, Tryz.ntmps4
  go_wp2_with fail
  refine (drawDeskLine _ _ _ _ _ w0).mono ?_
  rintro e w1 ⟨d, v, t, rfl, iD1, hdl, htl, c1⟩
  clear w0
  have iD1' := iD1
  obtain ⟨a1, l1, rfl, _⟩ := iD1'
  have hx2 : d.past.length ≤ 100000000 := by omega
  have HIM := Lib.hid (fun pv W (h : Ints W pv d.past) (g : LibOk W) => implDeskLine d pv t W h hx2 (by omega) g)
  have HSP := Lib.hid (fun pv W (h : Ints W pv d.past) => specDeskLine d pv t W h hx2 (by omega))
  have HNI : Hid (∀ pv W, Ints W pv d.past → LibOk W → Pl.dkB d = true → Calls Tryz.prog 14 #[.agg #[.int .i64 d.b, .int .i64 d.n, pv], .string ⟨#[]⟩] W (LinePost W (d, Pl.whatW))) := Lib.hid (fun pv W h g hd => by
    have := implDeskLine d pv ⟨#[]⟩ W h hx2 (by decide) g
    rwa [show (⟨#[]⟩ : ByteArray).data.toList = [] from rfl, Pl.lineA_nil hd] at this)
  have HOK := Lib.hid (fun pv W (h : Ints W pv d.past) => specDeskOk d pv W h (Nat.le_trans hx2 (by omega)))
  have hcase : (Pl.dkB d = false ∧ Pl.lineA d t.data.toList = (Pl.dk0, [])) ∨ (Pl.dkB d = true ∧ Pl.dkB (Pl.lineA d t.data.toList).1 = true ∧ ((Pl.lineA d t.data.toList).2 = Pl.okW ∨ ((Pl.lineA d t.data.toList).2 ≠ Pl.okW ∧ (Pl.lineA d t.data.toList).1 = d))) := by
    by_cases h : Pl.dkB d = true
    · refine .inr ⟨h, Pl.lineA_dk h _, ?_⟩
      by_cases ho : (Pl.lineA d t.data.toList).2 = Pl.okW
      · exact .inl ho
      · exact .inr ⟨ho, Pl.lineA_same h ho⟩
    · exact .inl ⟨by simpa using h, Pl.lineA_no h _⟩
  have hrl := Pl.lineA_few2 d t.data.toList
  generalize Pl.lineA d t.data.toList = R at *
  obtain ⟨r, ans⟩ := R
  unfold LinePost at HIM HSP
  simp only at HIM HSP hcase hrl
  have hrx : r.past.length ≤ 100000000 := by omega
  generalize hT : Pl.str ans = T at *
  have hTT : (T.toList == T.toList) = true := beq_self_eq_true _
  have hsame := Pl.sameA_self r
  have hal : Below w1.heap.size w1 (w1.alloc (.cells #[.int .i64 d.b, .int .i64 d.n, .slice a1 d.past.length l1] 30)) := (Below.refl _ w1).alloc (Nat.le_refl _) _
  have D2 := SBox.new w1 30 #[.int .i64 d.b, .int .i64 d.n, .slice a1 d.past.length l1]
  have iD2 := iD1.below hal
  have c2 := c1.trans (hal.mono c1.size)
  have z2 := hal.size
  clear iD1 c1 hal
  go_upto_region 4 with (fail)
  generalize w1.alloc (.cells #[.int .i64 d.b, .int .i64 d.n, .slice a1 d.past.length l1] 30) = w2 at *
  have hlb := HLib.out.below c2
  have iDx := iD2
  have Dc0 := D2.cell 0
  have Dc1 := D2.cell 1
  have Dc2 := D2.cell 2
  go_wp2_with fail
  refine (HIM.out _ w2 iDx hlb).mono ?_
  rintro e w3 ⟨v3, rfl, oX3, b3⟩
  clear Dc0 Dc1 Dc2
  have iD3 := iD2.below b3
  have D3 := D2.kept b3
  have c3 := c2.trans (b3.mono c2.size)
  have z3 := b3.size
  clear iD2 D2 c2 b3
  clear iDx hlb
  obtain ⟨a3, l3, rfl, _⟩ := oX3.ints
  have hal : Below w3.heap.size w3 (w3.alloc (.cells #[.int .i64 r.b, .int .i64 r.n, .slice a3 r.past.length l3] 30)) := (Below.refl _ w3).alloc (Nat.le_refl _) _
  have X4 := SBox.new w3 30 #[.int .i64 r.b, .int .i64 r.n, .slice a3 r.past.length l3]
  have iD4 := iD3.below hal
  have D4 := D3.kept hal
  have oX4 := oX3.below hal
  have c4 := c3.trans (hal.mono c3.size)
  have z4 := hal.size
  clear iD3 D3 oX3 c3 hal
  go_upto_region 5 with (fail)
  generalize w3.alloc (.cells #[.int .i64 r.b, .int .i64 r.n, .slice a3 r.past.length l3] 30) = w4 at *
  have iDx := iD4
  have Dc0 := D4.cell 0
  have Dc1 := D4.cell 1
  have Dc2 := D4.cell 2
  go_wp2_with fail
  refine (HSP.out _ w4 iDx).mono ?_
  rintro e w5 ⟨v5, rfl, oY5, b5⟩
  clear Dc0 Dc1 Dc2
  have iD5 := iD4.below b5
  have D5 := D4.kept b5
  have oX5 := oX4.below b5
  have X5 := X4.kept b5
  have c5 := c4.trans (b5.mono c4.size)
  have z5 := b5.size
  clear iD4 D4 oX4 X4 c4 b5
  clear iDx
  obtain ⟨a5, l5, rfl, _⟩ := oY5.ints
  have hal : Below w5.heap.size w5 (w5.alloc (.cells #[.int .i64 r.b, .int .i64 r.n, .slice a5 r.past.length l5] 30)) := (Below.refl _ w5).alloc (Nat.le_refl _) _
  have Y6 := SBox.new w5 30 #[.int .i64 r.b, .int .i64 r.n, .slice a5 r.past.length l5]
  have iD6 := iD5.below hal
  have D6 := D5.kept hal
  have oX6 := oX5.below hal
  have X6 := X5.kept hal
  have oY6 := oY5.below hal
  have c6 := c5.trans (hal.mono c5.size)
  have z6 := hal.size
  clear iD5 D5 oX5 X5 oY5 c5 hal
  go_upto_region 6 with (fail)
  generalize w5.alloc (.cells #[.int .i64 r.b, .int .i64 r.n, .slice a5 r.past.length l5] 30) = w6 at *
  have iX := oX6.ints
  have iY := oY6.ints
  have Xc0 := X6.cell 0
  have Xc1 := X6.cell 1
  have Xc2 := X6.cell 2
  have Yc0 := Y6.cell 0
  have Yc1 := Y6.cell 1
  have Yc2 := Y6.cell 2
  go_wp2_with fail
  refine (sameDesk r r _ _ w6 iX iY (by omega)).mono ?_
  rintro e w7 ⟨rfl, b7⟩
  clear Xc0 Xc1 Xc2 Yc0 Yc1 Yc2
  have iD7 := iD6.below b7
  have D7 := D6.kept b7
  have oX7 := oX6.below b7
  have X7 := X6.kept b7
  have oY7 := oY6.below b7
  have Y7 := Y6.kept b7
  have c7 := c6.trans (b7.mono c6.size)
  have z7 := b7.size
  clear iD6 D6 oX6 X6 oY6 Y6 c6 b7
  rw [hsame]
  clear iX iY
  clear oY7 Y7
  have iDx := iD7
  have Dc0 := D7.cell 0
  have Dc1 := D7.cell 1
  have Dc2 := D7.cell 2
  go_wp2_with fail
  refine (HOK.out _ w7 iDx).mono ?_
  rintro e w8 ⟨rfl, b8⟩
  clear Dc0 Dc1 Dc2
  have iD8 := iD7.below b8
  have D8 := D7.kept b8
  have oX8 := oX7.below b8
  have X8 := X7.kept b8
  have c8 := c7.trans (b8.mono c7.size)
  have z8 := b8.size
  clear iD7 D7 oX7 X7 c7 b8
  clear iDx
  rcases hcase with ⟨hd, hr⟩ | ⟨hd, hrd, hans⟩
  · rw [hd]
    injection hr with hr1 hr2
    have hE0 : T.toList = [] := by rw [← hT, hr2, Lib.toList_data]; rfl
    have hE1 : T.toList.isEmpty = true := by rw [hE0]; rfl
    have hS0 : Pl.sameA r ⟨0, 0, []⟩ = true := by rw [hr1]; decide
    clear hr1 hr2
    have iX := oX8.ints
    have Xc0 := X8.cell 0
    have Xc1 := X8.cell 1
    have Xc2 := X8.cell 2
    go_wp2_with fail
    refine (noDesk r _ w8 iX (by omega)).mono ?_
    rintro e w9 ⟨rfl, b9⟩
    clear Xc0 Xc1 Xc2
    have iD9 := iD8.below b9
    have D9 := D8.kept b9
    have oX9 := oX8.below b9
    have X9 := X8.kept b9
    have c9 := c8.trans (b9.mono c8.size)
    have z9 := b9.size
    clear iD8 D8 oX8 X8 c8 b9
    rw [hS0]
    go_wp2_with (go_at_call 19; refine (alive _).mono ?_; rintro e w' ⟨rfl, rfl⟩)
    go_ret
    exact ⟨rfl, c9⟩
  · rw [hd]
    have hsd := Pl.sameA_self d
    have hlb := HLib.out.below c8
    have iDx := iD8
    have Dc0 := D8.cell 0
    have Dc1 := D8.cell 1
    have Dc2 := D8.cell 2
    go_wp2_with fail
    refine (HNI.out _ w8 iDx hlb hd).mono ?_
    rintro e w9 ⟨v9, rfl, oZ9, b9⟩
    clear Dc0 Dc1 Dc2
    have iD9 := iD8.below b9
    have D9 := D8.kept b9
    have oX9 := oX8.below b9
    have X9 := X8.kept b9
    have c9 := c8.trans (b9.mono c8.size)
    have z9 := b9.size
    clear iD8 D8 oX8 X8 c8 b9
    clear iDx hlb
    obtain ⟨az, lz, rfl, _⟩ := oZ9.ints
    have hal : Below w9.heap.size w9 (w9.alloc (.cells #[.int .i64 d.b, .int .i64 d.n, .slice az d.past.length lz] 30)) := (Below.refl _ w9).alloc (Nat.le_refl _) _
    have Z10 := SBox.new w9 30 #[.int .i64 d.b, .int .i64 d.n, .slice az d.past.length lz]
    have iD10 := iD9.below hal
    have D10 := D9.kept hal
    have oX10 := oX9.below hal
    have X10 := X9.kept hal
    have oZ10 := oZ9.below hal
    have c10 := c9.trans (hal.mono c9.size)
    have z10 := hal.size
    clear iD9 D9 oX9 X9 oZ9 c9 hal
    go_upto_region 11 with (fail)
    generalize w9.alloc (.cells #[.int .i64 d.b, .int .i64 d.n, .slice az d.past.length lz] 30) = w10 at *
    have iX := oX10.ints
    have Xc0 := X10.cell 0
    have Xc1 := X10.cell 1
    have Xc2 := X10.cell 2
    go_wp2_with fail
    refine (implDeskOk r _ w10 iX hrx).mono ?_
    rintro e w11 ⟨rfl, b11⟩
    clear Xc0 Xc1 Xc2
    have iD11 := iD10.below b11
    have D11 := D10.kept b11
    have oX11 := oX10.below b11
    have X11 := X10.kept b11
    have oZ11 := oZ10.below b11
    have Z11 := Z10.kept b11
    have c11 := c10.trans (b11.mono c10.size)
    have z11 := b11.size
    clear iD10 D10 oX10 X10 oZ10 Z10 c10 b11
    clear iX
    rw [hrd]
    have hW : ((Pl.str Pl.whatW).toList == ([119, 104, 97, 116] : List UInt8)) = true := by rw [Lib.toList_data]; rfl
    generalize Pl.str Pl.whatW = WT at *
    rcases hans with ho | ⟨ho, hrd2⟩
    · have hTo : (T.toList == ([111, 107] : List UInt8)) = true := by rw [← hT, ho, Lib.toList_data]; rfl
      have iZ := oZ11.ints
      have iDx := iD11
      have Zc0 := Z11.cell 0
      have Zc1 := Z11.cell 1
      have Zc2 := Z11.cell 2
      have Dc0 := D11.cell 0
      have Dc1 := D11.cell 1
      have Dc2 := D11.cell 2
      go_wp2_with fail
      refine (sameDesk d d _ _ w11 iZ iDx (by omega)).mono ?_
      rintro e w12 ⟨rfl, b12⟩
      clear Zc0 Zc1 Zc2 Dc0 Dc1 Dc2
      have iD12 := iD11.below b12
      have D12 := D11.kept b12
      have oX12 := oX11.below b12
      have X12 := X11.kept b12
      have oZ12 := oZ11.below b12
      have Z12 := Z11.kept b12
      have c12 := c11.trans (b12.mono c11.size)
      have z12 := b12.size
      clear iD11 D11 oX11 X11 oZ11 Z11 c11 b12
      rw [hsd]
      go_wp2
      go_ret
      exact ⟨rfl, c12⟩
    · have hTo : (T.toList == ([111, 107] : List UInt8)) = false := by rw [← hT, Lib.toList_data, Pl.str_data]; exact beq_eq_false_iff_ne.2 ho
      have hrd3 : r = d := hrd2
      subst hrd3
      have iX := oX11.ints
      have iDx := iD11
      have Xc0 := X11.cell 0
      have Xc1 := X11.cell 1
      have Xc2 := X11.cell 2
      have Dc0 := D11.cell 0
      have Dc1 := D11.cell 1
      have Dc2 := D11.cell 2
      go_wp2_with fail
      refine (sameDesk r r _ _ w11 iX iDx (by omega)).mono ?_
      rintro e w12 ⟨rfl, b12⟩
      clear Xc0 Xc1 Xc2 Dc0 Dc1 Dc2
      have iD12 := iD11.below b12
      have D12 := D11.kept b12
      have oX12 := oX11.below b12
      have X12 := X11.kept b12
      have oZ12 := oZ11.below b12
      have Z12 := Z11.kept b12
      have c12 := c11.trans (b12.mono c11.size)
      have z12 := b12.size
      clear iD11 D11 oX11 X11 oZ11 Z11 c11 b12
      rw [hsame]
      clear iX iDx
      have iZ := oZ12.ints
      have iDx := iD12
      have Zc0 := Z12.cell 0
      have Zc1 := Z12.cell 1
      have Zc2 := Z12.cell 2
      have Dc0 := D12.cell 0
      have Dc1 := D12.cell 1
      have Dc2 := D12.cell 2
      go_wp2_with fail
      refine (sameDesk r r _ _ w12 iZ iDx (by omega)).mono ?_
      rintro e w13 ⟨rfl, b13⟩
      clear Zc0 Zc1 Zc2 Dc0 Dc1 Dc2
      have iD13 := iD12.below b13
      have D13 := D12.kept b13
      have oX13 := oX12.below b13
      have X13 := X12.kept b13
      have oZ13 := oZ12.below b13
      have Z13 := Z12.kept b13
      have c13 := c12.trans (b13.mono c12.size)
      have z13 := b13.size
      clear iD12 D12 oX12 X12 oZ12 Z12 c12 b13
      rw [hsame]
      go_wp2
      go_ret
      exact ⟨rfl, c13⟩

end Go.Proofs.YtgkkoegfmhgcjaaGreatDoor
