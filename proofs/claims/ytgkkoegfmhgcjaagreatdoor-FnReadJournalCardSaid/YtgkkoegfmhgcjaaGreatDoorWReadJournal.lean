/-
  Chapter 12: the walk of the law of ReadJournal, its inputs drawn.
-/
import Derived.Test.YtgkkoegfmhgcjaaGreatDoorDrawJournal
import Derived.Test.YtgkkoegfmhgcjaaGreatDoorGLib
import Derived.Test.YtgkkoegfmhgcjaaGreatDoorLineD
import Derived.Test.YtgkkoegfmhgcjaaGreatDoorGDeskI
import Derived.Test.YtgkkoegfmhgcjaaGreatDoorDeskParts
import Derived.Test.YtgkkoegfmhgcjaaGreatDoorGDeskX
import Derived.Test.YtgkkoegfmhgcjaaGreatDoorBoxReg
import Derived.Test.YtgkkoegfmhgcjaaGreatDoorXCut
import Derived.Test.YtgkkoegfmhgcjaaGreatDoorSayLaws
namespace Go.Proofs.YtgkkoegfmhgcjaaGreatDoor
open Go.RowKit Go.Shelf

theorem FnReadJournal_lib {W : World} (h : laidMetH Tryz.prog Rows.fnReadJournalRow.laid W) : LibOk W := by
  rw [MakeChecks.laidMetH_plain _ _ _ (by kernel_rfl)] at h
  exact lib_of_laid h

theorem Pl.rjA_few (s acc : List UInt8) : (Pl.rjA acc s).1.length ≤ s.length := by
  induction s generalizing acc with
  | nil => simp [Pl.rjA]
  | cons c t ih =>
    rw [Pl.rjA]
    split
    · split
      · simp
      · have := ih []; simp; omega
    · have := ih (acc ++ [c]); simp; omega
theorem Deeds.at_cell {w : World} {a : Option Addr} {n cap : Nat} {ds : List (Int × Int)} (h : Deeds w (.slice a n cap) ds) {k : Nat} (hk : k < ds.length) : ∃ b off, a = some ⟨b, off, none⟩ ∧ w.cell? ⟨b, off + k * 2, none⟩ = some (.int .i64 (ds[k]?.getD (0, 0)).1) ∧ w.cell? ⟨b, off + (k * 2 + 1), none⟩ = some (.int .i64 (ds[k]?.getD (0, 0)).2) := by
  obtain ⟨a', c, hv, hc⟩ := h
  cases hv
  exact hc k hk
theorem extract_take (s : ByteArray) (k : Nat) : (s.extract 0 k).data.toList = s.data.toList.take k := by
  rw [Pl.extract_piece]
  show Pl.pieceL s.data.toList 0 k = _
  unfold Pl.pieceL
  rw [List.drop_zero, Nat.sub_zero]

/-- A deed that has a text, said as a line, is done. -/
theorem Pl.line_did {d : Pl.Dk} {ds : List (Int × Int)} {k : Nat} (hd : Pl.dkB d = true) (hk : k < ds.length) (ht : Pl.toldB ds = true) :
    ∃ r : Pl.Dk × List UInt8, Pl.lineA (Pl.runD d (ds.take k)).1 (Pl.deedL (ds[k]?.getD (0, 0)).1 (ds[k]?.getD (0, 0)).2) = r ∧ (Pl.runD d (ds.take (k + 1))).1 = r.1 ∧ (r.2 = Pl.okW ∨ r.2 = Pl.notW) := by
  have hE := (Pl.runD_desk hd (ds.take k)).1
  have ha : ds[k]?.getD (0, 0) = ds[k] := by rw [List.getElem?_eq_getElem hk]; rfl
  have hne : Pl.deedL (ds[k]?.getD (0, 0)).1 (ds[k]?.getD (0, 0)).2 ≠ [] := by
    unfold Pl.toldB at ht
    rw [List.all_eq_true] at ht
    have := ht ds[k] (List.getElem_mem _)
    rw [ha]
    simpa using this
  have htk : ds.take (k + 1) = ds.take k ++ [ds[k]] := List.take_succ_eq_append_getElem hk
  refine ⟨_, rfl, ?_, ?_⟩
  · rw [Pl.lineA_deed hE (Pl.readL_deed hne), htk, Pl.runD_snoc, ha]
    split
    · rfl
    · rename_i h2
      exact (Pl.doA_not_same hE (by simpa using h2)).symm
  · rw [Pl.lineA_deed hE (Pl.readL_deed hne)]
    simp only
    split
    · exact .inl rfl
    · exact .inr rfl

section
variable {o : Oper} {a : Act} {W : World} {Q : Exit → Act → World → Prop}
theorem bq_atD {x ix : Operand} {b off n cap k : Nat} (ho : o.op = .indexAddr 24 x ix) (hx : a.eval x = .slice (some ⟨b, off, none⟩) n cap) (hi : a.eval ix = .int .i64 k) (hk : k < n) :
    o.wp Tryz.prog a W (TnPost (Bq.is (.pointer (some ⟨b, off + k * 2, none⟩))).ok o a W) Q := by
  have e1 : (0 : Int) ≤ (k : Int) := by omega
  have e2 : (k : Int) < (n : Int) := by omega
  unfold Oper.wp
  simp only [execOp, ho]
  rw [hx, hi]
  simp [go_sem, e1, e2]
  exact ⟨_, rfl, rfl, Below.refl _ _⟩
theorem bq_loadD {x : Operand} {b j : Nat} {k n : Int} (ho : o.op = .load 38 x) (hx : a.eval x = .pointer (some ⟨b, j, none⟩)) (hc : W.cell? ⟨b, j, none⟩ = some (.int .i64 k)) (hc2 : W.cell? ⟨b, j + 1, none⟩ = some (.int .i64 n)) :
    o.wp Tryz.prog a W (TnPost (Bq.is (.agg #[.int .i64 k, .int .i64 n])).ok o a W) Q := by
  unfold Oper.wp
  simp only [execOp, ho]
  rw [hx]
  simp [go_sem, hc, hc2]
  exact ⟨_, rfl, rfl, Below.refl _ _⟩
end

set_option maxRecDepth 100000 in
set_option maxHeartbeats 8000000 in
theorem FnReadJournal_walk (a0 : Option Addr) (len0 cap0 : Nat) (z0 : List Int) (a1 : Option Addr) (len1 cap1 : Nat) (z1 : List Int) (w : World) (w0 : IsRow .u8 w a0 len0 cap0 z0) (w1 : IsRow .u8 w a1 len1 cap1 z1) (hL : LibOk w) :
    Calls Tryz.prog 3 #[.slice a0 len0 cap0, .slice a1 len1 cap1] w fun e w' => e = .returned (.bool true) ∧ Below w.heap.size w w' := by
  have HLib := Lib.hid hL
  clear hL
  by_cases hl : 1048576 < len0
  · go_enter Tryz.func3, Tryz.ntmps3
    go_wp2
    go_ret
    exact ⟨rfl, Below.refl _ _⟩
  by_cases hl1 : 1048576 < len1
  · go_enter Tryz.func3, Tryz.ntmps3
    go_wp2
    go_ret
    exact ⟨rfl, Below.refl _ _⟩
  have HY := Lib.hid w1
  clear w1
  go_enter Tryz.func3, Tryz.ntmps3
  go_wp2_with fail
  refine (drawReadJournal _ _ _ _ _ w0).mono ?_
  rintro e w1 ⟨s, rfl, hs, c1⟩
  clear w0
  have HI := Lib.hid (fun W (h : LibOk W) => implReadJournal s (by omega) W h)
  have HS := Lib.hid (fun W => specReadJournal s (by omega) W)
  have hpart : ∀ k, k ≤ s.size → ∃ (m n : Nat), Pl.rjA [] (s.extract 0 k).data.toList = ((Pl.rjA [] s.data.toList).1.take m, n) ∧ m ≤ (Pl.rjA [] s.data.toList).1.length ∧ n ≤ k := fun k hk => by
    rw [extract_take]
    obtain ⟨h1, h2⟩ := Pl.rjA_take [] s.data.toList k
    refine ⟨(Pl.rjA [] (s.data.toList.take k)).1.length, (Pl.rjA [] (s.data.toList.take k)).2, ?_, h1.length_le, by simpa using h2⟩
    rw [← List.prefix_iff_eq_take.1 h1]
  have HP : Hid (∀ k, k ≤ s.size → ∀ W, LibOk W → ∃ m n : Nat, m ≤ (Pl.rjA [] s.data.toList).1.length ∧ n ≤ k ∧ Calls Tryz.prog 9 #[.string (s.extract 0 k)] W (JPost W ((Pl.rjA [] s.data.toList).1.take m, n))) := Lib.hid (fun k hk W hW => by
    obtain ⟨m, n, h1, h2, h3⟩ := hpart k hk
    refine ⟨m, n, h2, h3, ?_⟩
    rw [← h1]
    exact implReadJournal (s.extract 0 k) (by rw [ByteArray.size_extract]; omega) W hW)
  have htold := Pl.rjA_told [] s.data.toList
  have hfew := Pl.rjA_few s.data.toList []
  rw [List.nil_append, Pl.data_len] at htold
  rw [Pl.data_len] at hfew
  clear hpart
  generalize Pl.rjA [] s.data.toList = R at *
  obtain ⟨ds, U⟩ := R
  unfold JPost at HI HS HP
  simp only at HI HS HP htold hfew
  obtain ⟨ht1, ht2, ht3⟩ := htold
  rw [List.length_nil, Nat.zero_add] at ht2
  have hdx : ds.length ≤ 1000000 := by omega
  go_wp2_with fail
  refine (HI.out w1 (HLib.out.below c1)).mono ?_
  rintro e w2 ⟨v2, rfl, r2, b2⟩
  have c2 := c1.trans (b2.mono c1.size)
  have D2 := r2.deeds
  obtain ⟨la, lc, hsh⟩ := r2.shape
  have hcap : ds.length ≤ lc := by
    rcases r2.2 with ⟨h0, h1⟩ | ⟨g', cap', cur', hv', _, _, hc', _⟩
    · omega
    · rw [hsh] at hv'; cases hv'; exact hc'
  subst hsh
  clear c1 b2 r2
  go_wp2_with fail
  refine (HS.out w2).mono ?_
  rintro e w3 ⟨v3, rfl, r3, b3⟩
  have c3 := c2.trans (b3.mono c2.size)
  have D3 := D2.below b3
  have E3 := r3.deeds
  clear c2 b3 r3 D2
  go_wp2_with fail
  refine (sameDeedsYes _ _ ds w3 D3 E3 (by omega)).mono ?_
  rintro e w4 ⟨rfl, b4⟩
  have c4 := c3.trans (b4.mono c3.size)
  have D4 := D3.below b4
  clear c3 b4 D3 E3
  have HH := Lib.hid (And.intro ht1 ht3)
  have HFEW := Lib.hid hfew
  clear ht1 ht3 hfew HI HS
  go_wp2_with fail
  go_loopw [10] (fun kv wr => ∃ k : Nat, k ≤ s.size + 1 ∧ kv = .int .i64 k ∧ Below w4.heap.size w4 wr) (fun kv _ => s.size + 1 - (intOf kv).toNat)
  case atStart => exact ⟨0, Nat.zero_le _, rfl, Below.refl _ _⟩
  case round =>
    obtain ⟨k, hk, rfl, br⟩ := hrel
    have cr := c4.trans (br.mono c4.size)
    have Dr := D4.below br
    by_cases hlt : k ≤ s.size
    · have hi : (k : Int) ≤ (s.size : Int) := by omega
      obtain ⟨m, n, hm, hn, HC⟩ := HP.out k hlt wr (HLib.out.below cr)
      have HCC := Lib.hid HC
      clear HC
      go_wp2_with fail
      refine HCC.out.mono ?_
      rintro e w5 ⟨v5, rfl, r5, b5⟩
      have hml : (ds.take m).length = m := by rw [List.length_take]; omega
      have c5 := cr.trans (b5.mono cr.size)
      have D5 := Dr.below b5
      have P5 := r5.deeds
      have bb := br.trans (b5.mono br.size)
      obtain ⟨pa, pc, hsh⟩ := r5.shape
      rw [hml] at hsh
      subst hsh
      have hgt : ¬ (ds.length : Int) < (m : Int) := by omega
      have hgt2 : ¬ ds.length < m := by omega
      have hnk : ¬ (k : Int) < (n : Int) := by omega
      have hnk2 : ¬ k < n := by omega
      have hmc : m ≤ lc := by omega
      have hmci : (m : Int) ≤ (lc : Int) := by omega
      have hmin : min m ds.length = m := by omega
      have hmini : min (m : Int) (ds.length : Int) = (m : Int) := by omega
      have hmn : (m : Int) ≤ (ds.length : Int) := by omega
      have F5 := D5.front (cap' := lc) hm
      have HML := Lib.hid hml
      have hmx : (ds.take m).length ≤ 1000000000 := by omega
      clear r5 b5 HCC hml hmx
      go_wp2_with fail
      refine (sameDeedsYes _ _ (ds.take m) w5 P5 F5 (by rw [HML.out]; omega)).mono ?_
      rintro e w6 ⟨rfl, b6⟩
      have bb6 := bb.trans (b6.mono bb.size)
      clear P5 F5 D5 b6 c5 bb
      go_wp2_with fail
      go_roundw
      case rel => exact ⟨k + 1, by omega, by go_num, bb6⟩
      case measure => simp [intOf]; omega
    · obtain rfl : k = s.size + 1 := by omega
      have hi : ¬ ((s.size + 1 : Nat) : Int) ≤ (s.size : Int) := by omega
      have hi2 : ¬ (s.size : Int) + 1 ≤ (s.size : Int) := by omega
      clear HP D4
      go_wp2_with fail
      refine (drawDeskRun _ _ _ _ _ (HY.out.stay cr)).mono ?_
      rintro e w6 ⟨d, v6, lv6, ds6, rfl, iD6, hdl, _, _, _, b6⟩
      have c6 := cr.trans (b6.mono cr.size)
      have L6 := Dr.below b6
      clear Dr cr br b6 hi hi2
      have iD6' := iD6
      obtain ⟨a6, l6, rfl, _⟩ := iD6'
      have hal : Below w6.heap.size w6 (w6.alloc (.cells #[.int .i64 d.b, .int .i64 d.n, .slice a6 d.past.length l6] 30)) := (Below.refl _ w6).alloc (Nat.le_refl _) _
      have D7 := SBox.new w6 30 #[.int .i64 d.b, .int .i64 d.n, .slice a6 d.past.length l6]
      have iD7 := iD6.below hal
      have L7 := L6.below hal
      have c7 := c6.trans (hal.mono c6.size)
      have z7 := hal.size
      clear iD6 L6 c6 hal
      go_upto_region 15 with (fail)
      generalize w6.alloc (.cells #[.int .i64 d.b, .int .i64 d.n, .slice a6 d.past.length l6] 30) = w7 at *
      have Dc0 := D7.cell 0
      have Dc1 := D7.cell 1
      have Dc2 := D7.cell 2
      have hal : Below w7.heap.size w7 (w7.alloc (.cells #[.int .i64 d.b, .int .i64 d.n, .slice a6 d.past.length l6] 30)) := (Below.refl _ w7).alloc (Nat.le_refl _) _
      have N8 := SBox.new w7 30 #[.int .i64 d.b, .int .i64 d.n, .slice a6 d.past.length l6]
      have iN8 := iD7.below hal
      go_upto_region 16 with (fail)
      generalize w7.alloc (.cells #[.int .i64 d.b, .int .i64 d.n, .slice a6 d.past.length l6] 30) = w8 at *
      clear Dc0 Dc1 Dc2
      -- LOOP 2
      have hx2 : d.past.length ≤ 100000000 := by omega
      have HOK := Lib.hid (fun W (h : Ints W (.slice a6 d.past.length l6) d.past) => specDeskOk d (.slice a6 d.past.length l6) W h (Nat.le_trans hx2 (by decide)))
      have HRUN := Lib.hid (fun la lc W (h : Ints W (.slice a6 d.past.length l6) d.past) (g : Deeds W (.slice la ds.length lc) ds) => implDeskRun d (.slice a6 d.past.length l6) (.slice la ds.length lc) ds W h hx2 g)
      have hjs : Pl.str (Pl.journalL ds) = s.extract 0 U := by
        have h1 : Pl.journalL ds = Pl.textL ds := by rw [Pl.journalL, if_pos HH.out.1]
        rw [h1, HH.out.2, ← extract_take, Pl.str_self]
      have HJ := Lib.hid (fun la lc W (g : Deeds W (.slice la ds.length lc) ds) (k : TabOk W) => implJournalText (.slice la ds.length lc) ds W g (by omega) k)
      rw [hjs] at HJ
      have hrun : Pl.dkB d = true → ds.length ≤ 40 → (Pl.runA d ds).1 = (Pl.runD d (ds.take ds.length)).1 := fun h1 h2 => by rw [Pl.runA_yes h1 h2, List.take_length]
      have HRN := Lib.hid hrun
      obtain ⟨RR, hRR⟩ : ∃ x, Pl.runA d ds = x := ⟨_, rfl⟩
      rw [hRR] at HRUN HRN
      obtain ⟨Rd, Rn⟩ := RR
      unfold RunPost at HRUN
      simp only at HRUN HRN
      have hUi : (U : Int) ≤ (s.size : Int) := by omega
      have hU0 : (0 : Int) ≤ (U : Int) := by omega
      have hss : s.size ≤ 1000000 := by omega
      have hTT : ((s.extract 0 U).toList == (s.extract 0 U).toList) = true := beq_self_eq_true _
      clear hrun hRR hjs hdl
      go_wp2_with fail
      go_loopw [16] (fun kv wr => ∃ (k : Nat) (E : Pl.Dk) (au : Option Addr) (cu : Nat), k ≤ ds.length ∧ kv = .int .i64 k ∧ E = (Pl.runD d (ds.take k)).1 ∧ SBox wr w7.heap.size 30 #[.int .i64 E.b, .int .i64 E.n, .slice au E.past.length cu] ∧ Ints wr (.slice au E.past.length cu) E.past ∧ Below w7.heap.size w7 wr) (fun kv _ => ds.length - (intOf kv).toNat)
      case atStart => exact ⟨0, d, a6, l6, Nat.zero_le _, rfl, by rw [List.take_zero]; rfl, N8, iN8, hal⟩
      case round =>
        clear N8 iN8 hal
        obtain ⟨k, E, au, cu, hk, rfl, hE, Nr, iNr, br⟩ := hrel
        have HE := Lib.hid hE
        have cr := c7.trans (br.mono c7.size)
        have Dr := D7.kept br
        have iDr := iD7.below br
        have Lr := L7.below br
        clear hE c7 D7 iD7 L7
        by_cases hlt : k < ds.length
        · have hi : (k : Int) < (ds.length : Int) := by omega
          have Dc0 := Dr.cell 0
          have Dc1 := Dr.cell 1
          have Dc2 := Dr.cell 2
          go_wp2_with fail
          refine (HOK.out wr iDr).mono ?_
          rintro e w9 ⟨rfl, b9⟩
          clear Dc0 Dc1 Dc2
          have D9 := Dr.kept b9
          have N9 := Nr.kept b9
          have iD9 := iDr.below b9
          have iN9 := iNr.below b9
          have L9 := Lr.below b9
          have c9 := cr.trans (b9.mono cr.size)
          have br9 := br.trans (b9.mono br.size)
          clear Dr Nr iDr iNr Lr cr br b9
          cases hd : Pl.dkB d with
          | false =>
            clear br9
            have Dc0 := D9.cell 0
            have Dc1 := D9.cell 1
            have Dc2 := D9.cell 2
            go_wp2_with fail
            refine (HRUN.out _ _ w9 iD9 L9).mono ?_
            rintro e wA ⟨vA, rfl, oA, bA⟩
            clear Dc0 Dc1 Dc2
            have DA := D9.kept bA
            have NA := N9.kept bA
            have iDA := iD9.below bA
            have iNA := iN9.below bA
            have LA := L9.below bA
            have cA := c9.trans (bA.mono c9.size)
            clear D9 N9 iD9 iN9 L9 c9 bA
            obtain ⟨aR, lR, rfl, _⟩ := oA.ints
            have iRA := oA.ints
            clear oA
            have hal : Below wA.heap.size wA (wA.alloc (.cells #[.int .i64 Rd.b, .int .i64 Rd.n, .slice aR Rd.past.length lR] 30)) := (Below.refl _ wA).alloc (Nat.le_refl _) _
            have RB := SBox.new wA 30 #[.int .i64 Rd.b, .int .i64 Rd.n, .slice aR Rd.past.length lR]
            have DB := DA.kept hal
            have NB := NA.kept hal
            have iDB := iDA.below hal
            have iNB := iNA.below hal
            have iRB := iRA.below hal
            have LB := LA.below hal
            have cB := cA.trans (hal.mono cA.size)
            clear DA NA iDA iNA iRA LA cA hal
            go_upto_region 24 with (fail)
            generalize wA.alloc (.cells #[.int .i64 Rd.b, .int .i64 Rd.n, .slice aR Rd.past.length lR] 30) = wB at *
            have x0 := DB.cell 0
            have x1 := DB.cell 1
            have x2 := DB.cell 2
            have y0 := NB.cell 0
            have y1 := NB.cell 1
            have y2 := NB.cell 2
            have v0 := RB.cell 0
            have v1 := RB.cell 1
            have v2 := RB.cell 2
            have mD := DB.lt
            have mN := NB.lt
            have mR := RB.lt
            have HJT := Lib.hid (fun W (hW : Below wB.heap.size wB W) => HJ.out _ _ W (LB.below hW) (HLib.out.below (cB.trans (hW.mono cB.size))).tab)
            have HDK := Lib.hid (fun W (hW : Below wB.heap.size wB W) => HOK.out W (iDB.below hW))
            rw [hd] at HDK
            have HAL := Lib.hid (fun W => (alive W).mono (fun e w' (h : e = .returned (.bool true) ∧ W = w') => (⟨h.1, h.2 ▸ Below.refl _ _⟩ : e = .returned (.bool true) ∧ Below W.heap.size W w')))
            clear DB NB RB iDB iNB iRB LB
            refine wp_region_calm mixed (by kernel_rfl) ?_
            repeat (first
              | go_big_quiet_skip
              | (go_big_quiet_want
                 first
                   | (go_big_quiet_op; go_big_quiet_on)
                   | (apply Exists.intro
                      refine ⟨fun W hW => ?_, ?_⟩
                      · have e0 := Below.cell hW mD x0
                        have e1 := Below.cell hW mD x1
                        have e2 := Below.cell hW mD x2
                        have e3 := Below.cell hW mN y0
                        have e4 := Below.cell hW mN y1
                        have e5 := Below.cell hW mN y2
                        have e6 := Below.cell hW mR v0
                        have e7 := Below.cell hW mR v1
                        have e8 := Below.cell hW mR v2
                        go_simp
                        first | done | exact rfl
                      simp only [Act.put, List.setIfInBounds_toArray, List.set_cons_zero, List.set_cons_succ]
                      go_big_quiet_on)
                   | (go_big_quiet_op
                      apply Exists.intro
                      refine ⟨?_, ?_⟩
                      · intro W hW
                        with_reducible exact Calm.call hW (HJT.out W hW)
                      go_big_quiet_on)
                   | (go_big_quiet_op
                      apply Exists.intro
                      refine ⟨?_, ?_⟩
                      · intro W hW
                        with_reducible exact Calm.call hW (HDK.out W hW)
                      go_big_quiet_on)
                   | (go_big_quiet_op
                      apply Exists.intro
                      refine ⟨?_, ?_⟩
                      · intro W hW
                        with_reducible exact Calm.call hW (HAL.out W)
                      go_big_quiet_on)))
            refine wpQuiet_nil ?_
            intro W hW
            have cW := cB.trans (hW.mono cB.size)
            clear x0 x1 x2 y0 y1 y2 v0 v1 v2
            go_wp2_with fail
            go_ret
            exact ⟨rfl, cW⟩
          | true =>
            have hEd : Pl.dkB E = true := by rw [HE.out]; exact (Pl.runD_desk hd _).1
            have hEx : E.past.length ≤ 100000000 := Nat.le_trans ((Pl.dkB_iff _).1 hEd).2.2 (by decide)
            obtain ⟨r, hline, hnext, hans⟩ := Pl.line_did hd hlt HH.out.1
            rw [← HE.out] at hline
            obtain ⟨lb, lo, rfl, ck1, ck2'⟩ := L9.at_cell hlt
            have ck2 : w9.cell? ⟨lb, lo + k * 2 + 1, none⟩ = some (.int .i64 (ds[k]?.getD (0, 0)).2) := ck2'
            have mL : lb < w9.heap.size := World.block_lt_of_cell? _ _ ck1
            clear ck2'
            generalize (ds[k]?.getD (0, 0)).1 = p at *
            generalize (ds[k]?.getD (0, 0)).2 = q at *
            have HLN := Lib.hid (fun W (h : Ints W (.slice au E.past.length cu) E.past) (g : LibOk W) => implDeskLine E (.slice au E.past.length cu) (Pl.str (Pl.deedL p q)) W h hEx (by rw [Pl.str_size]; exact Nat.le_trans (Pl.deedL_len p q) (by decide)) g)
            rw [Pl.str_data, hline] at HLN
            unfold LinePost at HLN
            have hlb := HLib.out.below c9
            have HNX := Lib.hid hnext
            clear hline hnext
            go_upto_region 19 with (fail)
            refine wp_region_bqm 11 17 (fun v W' => ∃ g u, v = .pointer (some ⟨g, 0, none⟩) ∧ w9.heap.size ≤ g ∧ SBox W' g 30 #[.int .i64 r.1.b, .int .i64 r.1.n, u] ∧ OwnTail w9.heap.size W' u r.1.past) (fun v W W' ⟨g, u, h1, h2, h3, h4⟩ hb => ⟨g, u, h1, h2, h3.kept hb, h4.below hb⟩)
              (fun t => match t with | 15 => some (.is (.pointer (some ⟨w7.heap.size, 0, none⟩))) | 6 => some (.is (.slice (some ⟨lb, lo, none⟩) ds.length lc)) | 16 => some (.is (.int .i64 k)) | 102 => some (.is (.agg #[.int .i64 E.b, .int .i64 E.n, .slice au E.past.length cu])) | 103 => some (.is (.slice (some ⟨lb, lo, none⟩) ds.length lc)) | 104 => some (.is (.int .i64 k)) | 105 => some (.is (.pointer (some ⟨lb, lo + k * 2, none⟩))) | 106 => some (.is (.agg #[.int .i64 p, .int .i64 q])) | 107 => some (.is (.string (Pl.str (Pl.deedL p q)))) | 108 => some (.tup w9.heap.size r.1.b r.1.n r.1.past (.string (Pl.str r.2))) | 101 => some (.tup w9.heap.size r.1.b r.1.n r.1.past (.string (Pl.str r.2))) | 109 => some (.desk w9.heap.size r.1.b r.1.n r.1.past) | 110 => some (.is (.string (Pl.str r.2))) | 17 => some (.box w9.heap.size) | 18 => some (.is (.string (Pl.str r.2))) | _ => none) [false, false, false, false, false, false, false, false, false, false, false, false, false, false, false, false, false, true, true, false, false, false, false, false, false, false, false, false, false, false, false, false, false, false, false, false, false, false, false, false, false, false, false, false, false, false, false, false, false, false, false, false, false, false, false, false, false, false, false, false, false, false, false, false, false, false, false, false, false, false, false, false, false, false, false, false, false, false, false, false, false, false, false, false, false, false, false, false, false, false, false, false, false, false, false, false, false, false, false, false, false, true, true, true, true, true, true, true, true, true, true, false, false, false, false, false, false, false, false, false, false, false, false, false, false, false, false, false, false, false, false, false, false, false, false, false, false, false, false, false, false, false, false, false, false, false, false, false, false, false, false, false, false, false] _ mixed (by decide) (by kernel_rfl) (fun o ho => by obtain rfl := Option.some.inj ho; simp [Op.operands]) (by kernel_rfl) ?_ ?_ ?_ ?_
            · intro t z h hn
              split at h <;> first | (cases h; done) | (cases h; rfl) | exact absurd (by decide) hn
            · intro ix o hne hio a W' hin hb
              rcases ix with _ | _ | _ | _ | _ | _ | _ | _ | _ | _ | _ | _ | _ | ix
              all_goals first
                | (cases hio; done)
                | exact absurd rfl hne
                | (obtain rfl := Option.some.inj hio)
              · refine ⟨_, fun d hd => by cases hd; rfl, ?_⟩
                exact bq_load rfl (hin 15 _ (by simp [Op.operands]) rfl) (N9.kept hb) rfl
              · refine ⟨_, fun d hd => by cases hd; rfl, ?_⟩
                exact tn_copy (.inl rfl) (hin 6 _ (by simp [Op.operands]) rfl)
              · refine ⟨_, fun d hd => by cases hd; rfl, ?_⟩
                exact tn_copy (.inl rfl) (hin 16 _ (by simp [Op.operands]) rfl)
              · refine ⟨_, fun d hd => by cases hd; rfl, ?_⟩
                exact bq_atD rfl (hin 103 _ (by simp [Op.operands]) rfl) (hin 104 _ (by simp [Op.operands]) rfl) hlt
              · refine ⟨_, fun d hd => by cases hd; rfl, ?_⟩
                exact bq_loadD rfl (hin 105 _ (by simp [Op.operands]) rfl) (Below.cell hb mL ck1) (Below.cell hb mL ck2)
              · refine ⟨_, fun d hd => by cases hd; rfl, ?_⟩
                have e1 : a.eval (.tmp 106) = .agg #[.int .i64 p, .int .i64 q] := hin 106 _ (by simp [Op.operands, Call.operands]) rfl
                refine tn_call rfl rfl (enters_of Tryz.func15 (by kernel_rfl) rfl) (args := #[.agg #[.int .i64 p, .int .i64 q]]) (by show #[a.eval (.tmp 106)] = _; rw [e1]) ?_
                refine (implDeedText p q W' (hlb.below hb).tab).mono ?_
                rintro e W2 ⟨rfl, hb2⟩
                exact ⟨_, rfl, rfl, hb2⟩
              · refine ⟨_, fun d hd => by cases hd; rfl, ?_⟩
                have e1 : a.eval (.tmp 102) = .agg #[.int .i64 E.b, .int .i64 E.n, .slice au E.past.length cu] := hin 102 _ (by simp [Op.operands, Call.operands]) rfl
                have e2 : a.eval (.tmp 107) = .string (Pl.str (Pl.deedL p q)) := hin 107 _ (by simp [Op.operands, Call.operands]) rfl
                refine tn_call rfl rfl (enters_of Tryz.func14 (by kernel_rfl) rfl) (args := #[.agg #[.int .i64 E.b, .int .i64 E.n, .slice au E.past.length cu], .string (Pl.str (Pl.deedL p q))]) (by show #[a.eval (.tmp 102), a.eval (.tmp 107)] = _; rw [e1, e2]) ?_
                refine (HLN.out W' (iN9.below hb) (hlb.below hb)).mono ?_
                rintro e W2 ⟨vv, rfl, ho, hb2⟩
                exact ⟨_, rfl, ⟨vv, rfl, ho.mono hb.size⟩, hb2⟩
              · refine ⟨_, fun d hd => by cases hd; rfl, ?_⟩
                exact tn_copy (.inl rfl) (hin 108 _ (by simp [Op.operands]) rfl)
              · refine ⟨_, fun d hd => by cases hd; rfl, ?_⟩
                exact bq_first rfl (hin 101 _ (by simp [Op.operands]) rfl)
              · refine ⟨_, fun d hd => by cases hd; rfl, ?_⟩
                exact bq_second rfl (hin 101 _ (by simp [Op.operands]) rfl)
              · refine ⟨_, fun d hd => by cases hd; rfl, ?_⟩
                exact bq_alloc rfl hb.size
              · refine ⟨_, fun d hd => by cases hd; rfl, ?_⟩
                exact tn_copy (.inr rfl) (hin 110 _ (by simp [Op.operands]) rfl)
            · intro o ho a W' hin hb
              obtain rfl := Option.some.inj ho
              exact bq_store rfl rfl (hin 17 _ (by simp [Op.operands]) rfl) (hin 109 _ (by simp [Op.operands]) rfl)
            rintro f w10 hin ⟨g10, q10, hg10, hgB10, X10, oX10⟩ b10
            have hf18 : f 18 = .string (Pl.str r.2) := hin 18 _ rfl
            clear hin hlb
            obtain ⟨a10, l10, rfl, _⟩ := oX10.ints
            simp only [frameM, Nat.reduceAdd]
            rw [hg10, hf18]
            have N10 := N9.kept b10
            have br10 := br9.trans (b10.mono br9.size)
            have z9 := br9.size
            clear D9 N9 iD9 iN9 L9 c9 b10 hg10 hf18 ck1 ck2 br9
            rcases hans with ho | ho
            · have hT1 : ((Pl.str r.2).toList == ([111, 107] : List UInt8)) = true := by rw [ho, Lib.toList_data]; rfl
              generalize Pl.str r.2 = T at *
              go_wp2_with (first | (refine desk_load rfl _ rfl rfl X10 ?_) | (refine desk_store rfl _ _ rfl rfl rfl rfl N10 ?_; intro w11 hS11 hbl11 hsz11 hO11))
              have bfin := br10.trans (hbl11 w7.heap.size (Nat.le_refl _))
              have iNf := (oX10.stored N10 (by decide) hO11).ints
              go_roundw
              case rel => exact ⟨k + 1, r.1, a10, l10, by omega, by go_num, HNX.out.symm, hS11, iNf, bfin⟩
              case measure => simp [intOf]; omega
            · have hT1 : ((Pl.str r.2).toList == ([111, 107] : List UInt8)) = false := by rw [ho, Lib.toList_data]; rfl
              have hT2 : ((Pl.str r.2).toList == ([110, 111, 116] : List UInt8)) = true := by rw [ho, Lib.toList_data]; rfl
              generalize Pl.str r.2 = T at *
              go_wp2_with (first | (refine desk_load rfl _ rfl rfl X10 ?_) | (refine desk_store rfl _ _ rfl rfl rfl rfl N10 ?_; intro w11 hS11 hbl11 hsz11 hO11))
              have bfin := br10.trans (hbl11 w7.heap.size (Nat.le_refl _))
              have iNf := (oX10.stored N10 (by decide) hO11).ints
              go_roundw
              case rel => exact ⟨k + 1, r.1, a10, l10, by omega, by go_num, HNX.out.symm, hS11, iNf, bfin⟩
              case measure => simp [intOf]; omega
        · obtain rfl : k = ds.length := by omega
          have hi : ¬ (ds.length : Int) < (ds.length : Int) := by omega
          clear br
          cases hd : Pl.dkB d with
          | false =>
            have Dc0 := Dr.cell 0
            have Dc1 := Dr.cell 1
            have Dc2 := Dr.cell 2
            go_wp2_with fail
            refine (HRUN.out _ _ wr iDr Lr).mono ?_
            rintro e wA ⟨vA, rfl, oA, bA⟩
            clear Dc0 Dc1 Dc2
            have DA := Dr.kept bA
            have NA := Nr.kept bA
            have iDA := iDr.below bA
            have iNA := iNr.below bA
            have LA := Lr.below bA
            have cA := cr.trans (bA.mono cr.size)
            clear Dr Nr iDr iNr Lr cr bA
            obtain ⟨aR, lR, rfl, _⟩ := oA.ints
            have iRA := oA.ints
            clear oA
            have hal : Below wA.heap.size wA (wA.alloc (.cells #[.int .i64 Rd.b, .int .i64 Rd.n, .slice aR Rd.past.length lR] 30)) := (Below.refl _ wA).alloc (Nat.le_refl _) _
            have RB := SBox.new wA 30 #[.int .i64 Rd.b, .int .i64 Rd.n, .slice aR Rd.past.length lR]
            have DB := DA.kept hal
            have NB := NA.kept hal
            have iDB := iDA.below hal
            have iNB := iNA.below hal
            have iRB := iRA.below hal
            have LB := LA.below hal
            have cB := cA.trans (hal.mono cA.size)
            clear DA NA iDA iNA iRA LA cA hal
            go_upto_region 24 with (fail)
            generalize wA.alloc (.cells #[.int .i64 Rd.b, .int .i64 Rd.n, .slice aR Rd.past.length lR] 30) = wB at *
            have x0 := DB.cell 0
            have x1 := DB.cell 1
            have x2 := DB.cell 2
            have y0 := NB.cell 0
            have y1 := NB.cell 1
            have y2 := NB.cell 2
            have v0 := RB.cell 0
            have v1 := RB.cell 1
            have v2 := RB.cell 2
            have mD := DB.lt
            have mN := NB.lt
            have mR := RB.lt
            have HJT := Lib.hid (fun W (hW : Below wB.heap.size wB W) => HJ.out _ _ W (LB.below hW) (HLib.out.below (cB.trans (hW.mono cB.size))).tab)
            have HDK := Lib.hid (fun W (hW : Below wB.heap.size wB W) => HOK.out W (iDB.below hW))
            rw [hd] at HDK
            have HAL := Lib.hid (fun W => (alive W).mono (fun e w' (h : e = .returned (.bool true) ∧ W = w') => (⟨h.1, h.2 ▸ Below.refl _ _⟩ : e = .returned (.bool true) ∧ Below W.heap.size W w')))
            clear DB NB RB iDB iNB iRB LB
            refine wp_region_calm mixed (by kernel_rfl) ?_
            repeat (first
              | go_big_quiet_skip
              | (go_big_quiet_want
                 first
                   | (go_big_quiet_op; go_big_quiet_on)
                   | (apply Exists.intro
                      refine ⟨fun W hW => ?_, ?_⟩
                      · have e0 := Below.cell hW mD x0
                        have e1 := Below.cell hW mD x1
                        have e2 := Below.cell hW mD x2
                        have e3 := Below.cell hW mN y0
                        have e4 := Below.cell hW mN y1
                        have e5 := Below.cell hW mN y2
                        have e6 := Below.cell hW mR v0
                        have e7 := Below.cell hW mR v1
                        have e8 := Below.cell hW mR v2
                        go_simp
                        first | done | exact rfl
                      simp only [Act.put, List.setIfInBounds_toArray, List.set_cons_zero, List.set_cons_succ]
                      go_big_quiet_on)
                   | (go_big_quiet_op
                      apply Exists.intro
                      refine ⟨?_, ?_⟩
                      · intro W hW
                        with_reducible exact Calm.call hW (HJT.out W hW)
                      go_big_quiet_on)
                   | (go_big_quiet_op
                      apply Exists.intro
                      refine ⟨?_, ?_⟩
                      · intro W hW
                        with_reducible exact Calm.call hW (HDK.out W hW)
                      go_big_quiet_on)
                   | (go_big_quiet_op
                      apply Exists.intro
                      refine ⟨?_, ?_⟩
                      · intro W hW
                        with_reducible exact Calm.call hW (HAL.out W)
                      go_big_quiet_on)))
            refine wpQuiet_nil ?_
            intro W hW
            have cW := cB.trans (hW.mono cB.size)
            clear x0 x1 x2 y0 y1 y2 v0 v1 v2
            go_wp2_with fail
            go_ret
            exact ⟨rfl, cW⟩
          | true =>
            by_cases h4 : ds.length ≤ 40
            · have hER : E = Rd := by rw [HE.out]; exact (HRN.out hd h4).symm
              have hEx : E.past.length ≤ 1000000000 := by rw [HE.out]; exact Nat.le_trans ((Pl.dkB_iff _).1 (Pl.runD_desk hd _).1).2.2 (by decide)
              have Dc0 := Dr.cell 0
              have Dc1 := Dr.cell 1
              have Dc2 := Dr.cell 2
              go_wp2_with fail
              refine (HRUN.out _ _ wr iDr Lr).mono ?_
              rintro e wA ⟨vA, rfl, oA, bA⟩
              clear Dc0 Dc1 Dc2
              have DA := Dr.kept bA
              have NA := Nr.kept bA
              have iDA := iDr.below bA
              have iNA := iNr.below bA
              have LA := Lr.below bA
              have cA := cr.trans (bA.mono cr.size)
              clear Dr Nr iDr iNr Lr cr bA
              obtain ⟨aR, lR, rfl, _⟩ := oA.ints
              have iRA := oA.ints
              clear oA
              have hal : Below wA.heap.size wA (wA.alloc (.cells #[.int .i64 Rd.b, .int .i64 Rd.n, .slice aR Rd.past.length lR] 30)) := (Below.refl _ wA).alloc (Nat.le_refl _) _
              have RB := SBox.new wA 30 #[.int .i64 Rd.b, .int .i64 Rd.n, .slice aR Rd.past.length lR]
              have DB := DA.kept hal
              have NB := NA.kept hal
              have iDB := iDA.below hal
              have iNB := iNA.below hal
              have iRB := iRA.below hal
              have LB := LA.below hal
              have cB := cA.trans (hal.mono cA.size)
              clear DA NA iDA iNA iRA LA cA hal
              go_upto_region 24 with (fail)
              generalize wA.alloc (.cells #[.int .i64 Rd.b, .int .i64 Rd.n, .slice aR Rd.past.length lR] 30) = wB at *
              have x0 := DB.cell 0
              have x1 := DB.cell 1
              have x2 := DB.cell 2
              have y0 := NB.cell 0
              have y1 := NB.cell 1
              have y2 := NB.cell 2
              have v0 := RB.cell 0
              have v1 := RB.cell 1
              have v2 := RB.cell 2
              have mD := DB.lt
              have mN := NB.lt
              have mR := RB.lt
              have HJT := Lib.hid (fun W (hW : Below wB.heap.size wB W) => HJ.out _ _ W (LB.below hW) (HLib.out.below (cB.trans (hW.mono cB.size))).tab)
              have HDK := Lib.hid (fun W (hW : Below wB.heap.size wB W) => HOK.out W (iDB.below hW))
              rw [hd] at HDK
              have HAL := Lib.hid (fun W => (alive W).mono (fun e w' (h : e = .returned (.bool true) ∧ W = w') => (⟨h.1, h.2 ▸ Below.refl _ _⟩ : e = .returned (.bool true) ∧ Below W.heap.size W w')))
              have h40 : ¬ (40 : Int) < (ds.length : Int) := by omega
              have h40n : ¬ 40 < ds.length := by omega
              have HSD := Lib.hid (fun W (hW : Below wB.heap.size wB W) => sameDesk E Rd _ _ W (iNB.below hW) (iRB.below hW) (by omega))
              rw [hER, Pl.sameA_refl] at HSD
              clear DB NB RB iDB iNB iRB LB
              refine wp_region_calm mixed (by kernel_rfl) ?_
              repeat (first
                | go_big_quiet_skip
                | (go_big_quiet_want
                   first
                     | (go_big_quiet_op; go_big_quiet_on)
                     | (apply Exists.intro
                        refine ⟨fun W hW => ?_, ?_⟩
                        · have e0 := Below.cell hW mD x0
                          have e1 := Below.cell hW mD x1
                          have e2 := Below.cell hW mD x2
                          have e3 := Below.cell hW mN y0
                          have e4 := Below.cell hW mN y1
                          have e5 := Below.cell hW mN y2
                          have e6 := Below.cell hW mR v0
                          have e7 := Below.cell hW mR v1
                          have e8 := Below.cell hW mR v2
                          go_simp
                          first | done | exact rfl
                        simp only [Act.put, List.setIfInBounds_toArray, List.set_cons_zero, List.set_cons_succ]
                        go_big_quiet_on)
                     | (go_big_quiet_op
                        apply Exists.intro
                        refine ⟨?_, ?_⟩
                        · intro W hW
                          with_reducible exact Calm.call hW (HJT.out W hW)
                        go_big_quiet_on)
                     | (go_big_quiet_op
                        apply Exists.intro
                        refine ⟨?_, ?_⟩
                        · intro W hW
                          with_reducible exact Calm.call hW (HDK.out W hW)
                        go_big_quiet_on)
                     | (go_big_quiet_op
                        apply Exists.intro
                        refine ⟨?_, ?_⟩
                        · intro W hW
                          with_reducible exact Calm.call hW (HAL.out W)
                        go_big_quiet_on)
                     | (go_big_quiet_op
                        apply Exists.intro
                        refine ⟨?_, ?_⟩
                        · intro W hW
                          with_reducible exact Calm.call hW (HSD.out W hW)
                        go_big_quiet_on)))
              refine wpQuiet_nil ?_
              intro W hW
              have cW := cB.trans (hW.mono cB.size)
              clear x0 x1 x2 y0 y1 y2 v0 v1 v2
              go_wp2_with fail
              go_ret
              exact ⟨rfl, cW⟩
            · skip
              have Dc0 := Dr.cell 0
              have Dc1 := Dr.cell 1
              have Dc2 := Dr.cell 2
              go_wp2_with fail
              refine (HRUN.out _ _ wr iDr Lr).mono ?_
              rintro e wA ⟨vA, rfl, oA, bA⟩
              clear Dc0 Dc1 Dc2
              have DA := Dr.kept bA
              have NA := Nr.kept bA
              have iDA := iDr.below bA
              have iNA := iNr.below bA
              have LA := Lr.below bA
              have cA := cr.trans (bA.mono cr.size)
              clear Dr Nr iDr iNr Lr cr bA
              obtain ⟨aR, lR, rfl, _⟩ := oA.ints
              have iRA := oA.ints
              clear oA
              have hal : Below wA.heap.size wA (wA.alloc (.cells #[.int .i64 Rd.b, .int .i64 Rd.n, .slice aR Rd.past.length lR] 30)) := (Below.refl _ wA).alloc (Nat.le_refl _) _
              have RB := SBox.new wA 30 #[.int .i64 Rd.b, .int .i64 Rd.n, .slice aR Rd.past.length lR]
              have DB := DA.kept hal
              have NB := NA.kept hal
              have iDB := iDA.below hal
              have iNB := iNA.below hal
              have iRB := iRA.below hal
              have LB := LA.below hal
              have cB := cA.trans (hal.mono cA.size)
              clear DA NA iDA iNA iRA LA cA hal
              go_upto_region 24 with (fail)
              generalize wA.alloc (.cells #[.int .i64 Rd.b, .int .i64 Rd.n, .slice aR Rd.past.length lR] 30) = wB at *
              have x0 := DB.cell 0
              have x1 := DB.cell 1
              have x2 := DB.cell 2
              have y0 := NB.cell 0
              have y1 := NB.cell 1
              have y2 := NB.cell 2
              have v0 := RB.cell 0
              have v1 := RB.cell 1
              have v2 := RB.cell 2
              have mD := DB.lt
              have mN := NB.lt
              have mR := RB.lt
              have HJT := Lib.hid (fun W (hW : Below wB.heap.size wB W) => HJ.out _ _ W (LB.below hW) (HLib.out.below (cB.trans (hW.mono cB.size))).tab)
              have HDK := Lib.hid (fun W (hW : Below wB.heap.size wB W) => HOK.out W (iDB.below hW))
              rw [hd] at HDK
              have HAL := Lib.hid (fun W => (alive W).mono (fun e w' (h : e = .returned (.bool true) ∧ W = w') => (⟨h.1, h.2 ▸ Below.refl _ _⟩ : e = .returned (.bool true) ∧ Below W.heap.size W w')))
              have h40 : (40 : Int) < (ds.length : Int) := by omega
              have h40n : 40 < ds.length := by omega
              clear DB NB RB iDB iNB iRB LB
              refine wp_region_calm mixed (by kernel_rfl) ?_
              repeat (first
                | go_big_quiet_skip
                | (go_big_quiet_want
                   first
                     | (go_big_quiet_op; go_big_quiet_on)
                     | (apply Exists.intro
                        refine ⟨fun W hW => ?_, ?_⟩
                        · have e0 := Below.cell hW mD x0
                          have e1 := Below.cell hW mD x1
                          have e2 := Below.cell hW mD x2
                          have e3 := Below.cell hW mN y0
                          have e4 := Below.cell hW mN y1
                          have e5 := Below.cell hW mN y2
                          have e6 := Below.cell hW mR v0
                          have e7 := Below.cell hW mR v1
                          have e8 := Below.cell hW mR v2
                          go_simp
                          first | done | exact rfl
                        simp only [Act.put, List.setIfInBounds_toArray, List.set_cons_zero, List.set_cons_succ]
                        go_big_quiet_on)
                     | (go_big_quiet_op
                        apply Exists.intro
                        refine ⟨?_, ?_⟩
                        · intro W hW
                          with_reducible exact Calm.call hW (HJT.out W hW)
                        go_big_quiet_on)
                     | (go_big_quiet_op
                        apply Exists.intro
                        refine ⟨?_, ?_⟩
                        · intro W hW
                          with_reducible exact Calm.call hW (HDK.out W hW)
                        go_big_quiet_on)
                     | (go_big_quiet_op
                        apply Exists.intro
                        refine ⟨?_, ?_⟩
                        · intro W hW
                          with_reducible exact Calm.call hW (HAL.out W)
                        go_big_quiet_on)))
              refine wpQuiet_nil ?_
              intro W hW
              have cW := cB.trans (hW.mono cB.size)
              clear x0 x1 x2 y0 y1 y2 v0 v1 v2
              go_wp2_with fail
              go_ret
              exact ⟨rfl, cW⟩

end Go.Proofs.YtgkkoegfmhgcjaaGreatDoor
