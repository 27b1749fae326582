/-
  Chapter 12: the walk of the law of DeskSay, its inputs drawn.
-/
import Derived.Test.YtgkkoegfmhgcjaaGreatDoorSayLaws
import Derived.Test.YtgkkoegfmhgcjaaGreatDoorSayI
import Derived.Test.YtgkkoegfmhgcjaaGreatDoorGDeskX
import Derived.Test.YtgkkoegfmhgcjaaGreatDoorXCut
namespace Go.Proofs.YtgkkoegfmhgcjaaGreatDoor
open Go.RowKit Go.Shelf

theorem FnDeskSay_lib {W : World} (h : laidMetH Tryz.prog Rows.fnDeskSayRow.laid W) : LibOk W := by
  rw [MakeChecks.laidMetH_plain _ _ _ (by kernel_rfl)] at h
  exact lib_of_laid h

set_option maxRecDepth 100000 in
set_option maxHeartbeats 8000000 in
theorem FnDeskSay_walk (a0 : Option Addr) (len0 cap0 : Nat) (z0 : List Int) (w : World) (w0 : IsRow .u8 w a0 len0 cap0 z0) (hL : LibOk w) :
    Calls Tryz.prog 5 #[.slice a0 len0 cap0] w fun e w' => e = .returned (.bool true) ∧ Below w.heap.size w w' := by
  have HLib := Lib.hid hL
  clear hL
  by_cases hl : 1048576 < len0
  · go_enter Tryz.func5, Tryz.ntmps5
    go_wp2
    go_ret
    exact ⟨rfl, Below.refl _ _⟩
  go_enter Tryz.func5, Tryz.ntmps5
  go_wp2_with fail
  refine (drawDeskSay _ _ _ _ _ w0).mono ?_
  rintro e w1 ⟨d, v, lg, lcp, ts, rfl, iD1, hdl, iL1, htl, hcp, hts, c1⟩
  clear w0
  have iD1' := iD1
  obtain ⟨a1, l1, rfl, _⟩ := iD1'
  have hx2 : d.past.length ≤ 100000000 := by omega
  have hts2 : ∀ s ∈ ts, s.size ≤ 1000000000 := fun s hs => Nat.le_trans (hts s hs) (by decide)
  obtain ⟨h, hh⟩ : ∃ h, h = ts.length / 2 := ⟨_, rfl⟩
  have hhl : h ≤ ts.length := by omega
  have HQ : Hid ((ts.length : Int) / 2 = (h : Int)) := Lib.hid (by omega)
  have HIM := Lib.hid (fun pv lv W (hp : Ints W pv d.past) (ht : Texts W lv ts) (g : LibOk W) => implDeskSay d pv lv ts W hp hx2 ht hts2 g)
  have HSP := Lib.hid (fun pv lv W (hp : Ints W pv d.past) (ht : Texts W lv ts) => specDeskSay d pv lv ts W hp hx2 ht hts2)
  have HFR := Lib.hid (fun pv lv W (hp : Ints W pv d.past) (ht : Texts W lv (ts.take h)) (g : LibOk W) => implDeskSay d pv lv (ts.take h) W hp hx2 ht (fun s hs => hts2 s (List.mem_of_mem_take hs)) g)
  have HBA := Lib.hid (fun (D : Pl.Dk) (hD : D.past.length ≤ 8) pv lv W (hp : Ints W pv D.past) (ht : Texts W lv (ts.drop h)) (g : LibOk W) => implDeskSay D pv lv (ts.drop h) W hp (Nat.le_trans hD (by decide)) ht (fun s hs => hts2 s (List.mem_of_mem_drop hs)) g)
  have HOK := Lib.hid (fun pv W (h : Ints W pv d.past) => specDeskOk d pv W h (Nat.le_trans hx2 (by omega)))
  have hcase : (Pl.sayA d (listed ts) = (Pl.dk0, []) ∧ (Pl.dkB d = false ∨ (Pl.dkB d = true ∧ (40 : Int) < (ts.length : Int)))) ∨
      ((Pl.dkB d = true ∧ ¬ (40 : Int) < (ts.length : Int)) ∧ ∃ r1 r2 : Pl.Dk × List (List UInt8), Pl.sayA d (listed (ts.take h)) = r1 ∧ Pl.sayA r1.1 (listed (ts.drop h)) = r2 ∧ Pl.sayA d (listed ts) = (r2.1, r1.2 ++ r2.2) ∧ Pl.dkB r2.1 = true ∧ r1.1.past.length ≤ 8 ∧ (r1.2 ++ r2.2).length = ts.length ∧ ∀ l ∈ r1.2 ++ r2.2, l ≠ []) := by
    by_cases hb : Pl.dkB d = true
    · by_cases h4 : ts.length ≤ 40
      · exact .inr ⟨⟨hb, by omega⟩, say_law hb h4 h⟩
      · exact .inl ⟨Pl.sayA_no (fun h => h4 (by have := h.2; rwa [listed_len] at this)), .inr ⟨hb, by omega⟩⟩
    · exact .inl ⟨Pl.sayA_no (fun h => hb h.1), .inl (by simpa using hb)⟩
  have hrl := Pl.sayA_few d (listed ts)
  generalize Pl.sayA d (listed ts) = R at *
  obtain ⟨r, ANS⟩ := R
  unfold SayPost at HIM HSP
  simp only at HIM HSP hcase hrl
  have HC := Lib.hid hcase
  have hrx : r.past.length ≤ 100000000 := by omega
  have hax : ANS.length ≤ 1000000000 := by omega
  have haz : (ANS.map Pl.str).length ≤ 1000000000 := by rw [List.length_map]; exact hax
  have hsame := Pl.sameA_refl r
  clear hcase
  have hal : Below w1.heap.size w1 (w1.alloc (.cells #[.int .i64 d.b, .int .i64 d.n, .slice a1 d.past.length l1] 30)) := (Below.refl _ w1).alloc (Nat.le_refl _) _
  have D2 := SBox.new w1 30 #[.int .i64 d.b, .int .i64 d.n, .slice a1 d.past.length l1]
  have iD2 := iD1.below hal
  have iL2 := iL1.below hal
  have c2 := c1.trans (hal.mono c1.size)
  have z2 := hal.size
  clear iD1 iL1 c1 hal
  go_upto_region 4 with (fail)
  generalize w1.alloc (.cells #[.int .i64 d.b, .int .i64 d.n, .slice a1 d.past.length l1] 30) = w2 at *
  have hlb := HLib.out.below c2
  have iDx := iD2
  have iLx := iL2
  have Dc0 := D2.cell 0
  have Dc1 := D2.cell 1
  have Dc2 := D2.cell 2
  go_wp2_with fail
  refine (HIM.out _ _ w2 iDx iLx hlb).mono ?_
  rintro e w3 ⟨v3, t3, rfl, oX3, yX3, b3⟩
  clear Dc0 Dc1 Dc2
  have iD3 := iD2.below b3
  have iL3 := iL2.below b3
  have D3 := D2.kept b3
  have c3 := c2.trans (b3.mono c2.size)
  have z3 := b3.size
  clear iD2 iL2 D2 c2 b3
  clear iDx iLx hlb
  obtain ⟨a3, l3, rfl, _⟩ := oX3.ints
  have fX3 := yX3.texts
  obtain ⟨u3, k3, rfl⟩ := yX3.shape
  clear yX3
  have hal : Below w3.heap.size w3 (w3.alloc (.cells #[.int .i64 r.b, .int .i64 r.n, .slice a3 r.past.length l3] 30)) := (Below.refl _ w3).alloc (Nat.le_refl _) _
  have X4 := SBox.new w3 30 #[.int .i64 r.b, .int .i64 r.n, .slice a3 r.past.length l3]
  have iD4 := iD3.below hal
  have iL4 := iL3.below hal
  have D4 := D3.kept hal
  have oX4 := oX3.below hal
  have fX4 := fX3.below hal
  have c4 := c3.trans (hal.mono c3.size)
  have z4 := hal.size
  clear iD3 iL3 D3 oX3 fX3 c3 hal
  go_upto_region 5 with (fail)
  generalize w3.alloc (.cells #[.int .i64 r.b, .int .i64 r.n, .slice a3 r.past.length l3] 30) = w4 at *
  have iDx := iD4
  have iLx := iL4
  have Dc0 := D4.cell 0
  have Dc1 := D4.cell 1
  have Dc2 := D4.cell 2
  go_wp2_with fail
  refine (HSP.out _ _ w4 iDx iLx).mono ?_
  rintro e w5 ⟨v5, t5, rfl, oY5, yY5, b5⟩
  clear Dc0 Dc1 Dc2
  have iD5 := iD4.below b5
  have iL5 := iL4.below b5
  have D5 := D4.kept b5
  have oX5 := oX4.below b5
  have fX5 := fX4.below b5
  have X5 := X4.kept b5
  have c5 := c4.trans (b5.mono c4.size)
  have z5 := b5.size
  clear iD4 iL4 D4 oX4 fX4 X4 c4 b5
  clear iDx iLx
  obtain ⟨a5, l5, rfl, _⟩ := oY5.ints
  have fY5 := yY5.texts
  obtain ⟨u5, k5, rfl⟩ := yY5.shape
  clear yY5
  have hal : Below w5.heap.size w5 (w5.alloc (.cells #[.int .i64 r.b, .int .i64 r.n, .slice a5 r.past.length l5] 30)) := (Below.refl _ w5).alloc (Nat.le_refl _) _
  have Y6 := SBox.new w5 30 #[.int .i64 r.b, .int .i64 r.n, .slice a5 r.past.length l5]
  have iD6 := iD5.below hal
  have iL6 := iL5.below hal
  have D6 := D5.kept hal
  have oX6 := oX5.below hal
  have fX6 := fX5.below hal
  have X6 := X5.kept hal
  have oY6 := oY5.below hal
  have fY6 := fY5.below hal
  have c6 := c5.trans (hal.mono c5.size)
  have z6 := hal.size
  clear iD5 iL5 D5 oX5 fX5 X5 oY5 fY5 c5 hal
  go_upto_region 6 with (fail)
  generalize w5.alloc (.cells #[.int .i64 r.b, .int .i64 r.n, .slice a5 r.past.length l5] 30) = w6 at *
  have iX := oX6.ints
  have iY := oY6.ints
  have Xc0 := X6.cell 0
  have Xc1 := X6.cell 1
  have Xc2 := X6.cell 2
  have Yc0 := Y6.cell 0
  have Yc1 := Y6.cell 1
  have Yc2 := Y6.cell 2
  go_wp2_with fail
  refine (sameDesk r r _ _ w6 iX iY (by omega)).mono ?_
  rintro e w7 ⟨rfl, b7⟩
  clear Xc0 Xc1 Xc2 Yc0 Yc1 Yc2
  have iD7 := iD6.below b7
  have iL7 := iL6.below b7
  have D7 := D6.kept b7
  have oX7 := oX6.below b7
  have fX7 := fX6.below b7
  have X7 := X6.kept b7
  have oY7 := oY6.below b7
  have fY7 := fY6.below b7
  have Y7 := Y6.kept b7
  have c7 := c6.trans (b7.mono c6.size)
  have z7 := b7.size
  clear iD6 iL6 D6 oX6 fX6 X6 oY6 fY6 Y6 c6 b7
  rw [hsame]
  clear iX iY
  clear oY7 Y7
  have iX := fX7
  have iY := fY7
  go_wp2_with fail
  refine (sameTextsYes _ _ _ w7 iX iY haz).mono ?_
  rintro e w8 ⟨rfl, b8⟩
  have iD8 := iD7.below b8
  have iL8 := iL7.below b8
  have D8 := D7.kept b8
  have oX8 := oX7.below b8
  have fX8 := fX7.below b8
  have X8 := X7.kept b8
  have fY8 := fY7.below b8
  have c8 := c7.trans (b8.mono c7.size)
  have z8 := b8.size
  clear iD7 iL7 D7 oX7 fX7 X7 fY7 c7 b8
  clear iX iY
  clear fY8
  have iDx := iD8
  have Dc0 := D8.cell 0
  have Dc1 := D8.cell 1
  have Dc2 := D8.cell 2
  go_wp2_with fail
  refine (HOK.out _ w8 iDx).mono ?_
  rintro e w9 ⟨rfl, b9⟩
  clear Dc0 Dc1 Dc2
  have iD9 := iD8.below b9
  have iL9 := iL8.below b9
  have D9 := D8.kept b9
  have oX9 := oX8.below b9
  have fX9 := fX8.below b9
  have X9 := X8.kept b9
  have c9 := c8.trans (b9.mono c8.size)
  have z9 := b9.size
  clear iD8 iL8 D8 oX8 fX8 X8 c8 b9
  clear iDx
  rcases HC.out with ⟨hr, hno⟩ | ⟨⟨hd, h4⟩, r1, r2, hR1, hR2, hr, hrd, hr1, hlen, hne⟩
  · injection hr with hr1 hr2
    have hS0 : Pl.sameA r ⟨0, 0, []⟩ = true := by rw [hr1]; decide
    have hA0 : ((ANS.length : Nat) : Int) = 0 := by rw [hr2]; rfl
    clear hr1 hr2 HC
    have iX := oX9.ints
    have hX0 := hrx
    rcases hno with hno | ⟨hno, h40⟩
    · rw [hno]
      have Xc0 := X9.cell 0
      have Xc1 := X9.cell 1
      have Xc2 := X9.cell 2
      go_wp2_with fail
      refine (noDesk r _ w9 iX (by omega)).mono ?_
      rintro e w10 ⟨rfl, b10⟩
      clear Xc0 Xc1 Xc2
      have iD10 := iD9.below b10
      have iL10 := iL9.below b10
      have D10 := D9.kept b10
      have oX10 := oX9.below b10
      have fX10 := fX9.below b10
      have X10 := X9.kept b10
      have c10 := c9.trans (b10.mono c9.size)
      have z10 := b10.size
      clear iD9 iL9 D9 oX9 fX9 X9 c9 b10
      rw [hS0]
      go_wp2_with (go_at_call 19; refine (alive _).mono ?_; rintro e w' ⟨rfl, rfl⟩)
      go_ret
      exact ⟨rfl, c10⟩
    · rw [hno]
      have Xc0 := X9.cell 0
      have Xc1 := X9.cell 1
      have Xc2 := X9.cell 2
      go_wp2_with fail
      refine (noDesk r _ w9 iX (by omega)).mono ?_
      rintro e w10 ⟨rfl, b10⟩
      clear Xc0 Xc1 Xc2
      have iD10 := iD9.below b10
      have iL10 := iL9.below b10
      have D10 := D9.kept b10
      have oX10 := oX9.below b10
      have fX10 := fX9.below b10
      have X10 := X9.kept b10
      have c10 := c9.trans (b10.mono c9.size)
      have z10 := b10.size
      clear iD9 iL9 D9 oX9 fX9 X9 c9 b10
      rw [hS0]
      go_wp2_with (go_at_call 19; refine (alive _).mono ?_; rintro e w' ⟨rfl, rfl⟩)
      go_ret
      exact ⟨rfl, c10⟩
  · rw [hd]
    injection hr with hr4 hr2
    clear HC
    rw [← hr2] at hlen hne
    obtain ⟨⟨r1d, A1⟩, e1⟩ : ∃ x, x = r1 := ⟨_, rfl⟩
    subst e1
    obtain ⟨⟨r2d, A2⟩, e2⟩ : ∃ x, x = r2 := ⟨_, rfl⟩
    subst e2
    simp only at hR1 hR2 hr4 hr2 hrd hr1
    subst hr4
    have HA := Lib.hid hr2
    clear hr2
    rw [hR1] at HFR
    have HBA2 := Lib.hid (HBA.out r1d hr1)
    rw [hR2] at HBA2
    unfold SayPost at HFR HBA2
    simp only at HFR HBA2
    clear HBA hR1 hR2
    
    have HLEN := Lib.hid hlen
    have HNE := Lib.hid hne
    clear hlen hne
    go_upto_region 11 with (fail)
    rw [HQ.out]
    have hlb := HLib.out.below c9
    refine wp_region_bqm 9 10 (fun v W' => ∃ g u, v = .pointer (some ⟨g, 0, none⟩) ∧ w9.heap.size ≤ g ∧ SBox W' g 30 #[.int .i64 r1d.b, .int .i64 r1d.n, u] ∧ OwnTail w9.heap.size W' u r1d.past) (fun v W W' ⟨g, u, h1, h2, h3, h4⟩ hb => ⟨g, u, h1, h2, h3.kept hb, h4.below hb⟩)
      (fun t => match t with | 3 => some (.is (.pointer (some ⟨w1.heap.size, 0, none⟩))) | 4 => some (.is (.slice (some ⟨lg, 0, none⟩) ts.length lcp)) | 9 => some (.is (.int .i64 h)) | 71 => some (.is (.agg #[.int .i64 d.b, .int .i64 d.n, .slice a1 d.past.length l1])) | 72 => some (.is (.slice (some ⟨lg, 0, none⟩) ts.length lcp)) | 73 => some (.is (.int .i64 h)) | 74 => some (.is (.slice (some ⟨lg, 0, none⟩) h lcp)) | 75 => some (.tupT w9.heap.size r1d.b r1d.n r1d.past A1) | 70 => some (.tupT w9.heap.size r1d.b r1d.n r1d.past A1) | 76 => some (.desk w9.heap.size r1d.b r1d.n r1d.past) | 77 => some (.texts w9.heap.size A1) | 10 => some (.box w9.heap.size) | 11 => some (.texts w9.heap.size A1) | _ => none) [false, false, false, false, false, false, false, false, false, false, true, true, false, false, false, false, false, false, false, false, false, false, false, false, false, false, false, false, false, false, false, false, false, false, false, false, false, false, false, false, false, false, false, false, false, false, false, false, false, false, false, false, false, false, false, false, false, false, false, false, false, false, false, false, false, false, false, false, false, false, true, true, true, true, true, true, true, true, false, false, false, false, false, false, false, false, false, false, false, false, false, false, false, false, false, false, false, false, false, false, false, false, false, false, false, false, false, false, false, false, false, false, false, false, false, false, false, false, false, false, false, false, false, false, false, false, false, false, false, false, false, false, false, false] _ mixed (by decide) (by kernel_rfl) (fun o ho => by obtain rfl := Option.some.inj ho; simp [Op.operands]) (by kernel_rfl) ?_ ?_ ?_ ?_
    · intro t z h hn
      split at h <;> first | (cases h; done) | (cases h; rfl) | exact absurd (by decide) hn
    · intro ix o hne hio a W' hin hb
      rcases ix with _ | _ | _ | _ | _ | _ | _ | _ | _ | _ | _ | ix
      all_goals first
        | (cases hio; done)
        | exact absurd rfl hne
        | (obtain rfl := Option.some.inj hio)
      · refine ⟨_, fun d hd => by cases hd; rfl, ?_⟩
        exact bq_load rfl (hin 3 _ (by simp [Op.operands]) rfl) (D9.kept hb) rfl
      · refine ⟨_, fun d hd => by cases hd; rfl, ?_⟩
        exact tn_copy (.inl rfl) (hin 4 _ (by simp [Op.operands]) rfl)
      · refine ⟨_, fun d hd => by cases hd; rfl, ?_⟩
        exact tn_copy (.inl rfl) (hin 9 _ (by simp [Op.operands]) rfl)
      · refine ⟨_, fun d hd => by cases hd; rfl, ?_⟩
        exact bq_sliceTo rfl (hin 72 _ (by simp [Op.operands]) rfl) (hin 73 _ (by simp [Op.operands]) rfl) (Nat.le_trans hhl hcp)
      · refine ⟨_, fun d hd => by cases hd; rfl, ?_⟩
        have e1 : a.eval (.tmp 71) = .agg #[.int .i64 d.b, .int .i64 d.n, .slice a1 d.past.length l1] := hin 71 _ (by simp [Op.operands, Call.operands]) rfl
        have e2 : a.eval (.tmp 74) = (.slice (some ⟨lg, 0, none⟩) h lcp) := hin 74 _ (by simp [Op.operands, Call.operands]) rfl
        refine tn_call rfl rfl (enters_of Tryz.func25 (by kernel_rfl) rfl) (args := #[.agg #[.int .i64 d.b, .int .i64 d.n, .slice a1 d.past.length l1], (.slice (some ⟨lg, 0, none⟩) h lcp)]) (by show #[a.eval (.tmp 71), a.eval (.tmp 74)] = _; rw [e1, e2]) ?_
        refine (HFR.out _ _ W' (iD9.below hb) ((iL9.below hb).front hhl) (hlb.below hb)).mono ?_
        rintro e W2 ⟨vv, tt, rfl, ho, ht, hb2⟩
        exact ⟨_, rfl, ⟨vv, tt, rfl, ho.mono hb.size, ht.mono hb.size⟩, hb2⟩
      · refine ⟨_, fun d hd => by cases hd; rfl, ?_⟩
        exact tn_copy (.inl rfl) (hin 75 _ (by simp [Op.operands]) rfl)
      · refine ⟨_, fun d hd => by cases hd; rfl, ?_⟩
        exact bq_firstT rfl (hin 70 _ (by simp [Op.operands]) rfl)
      · refine ⟨_, fun d hd => by cases hd; rfl, ?_⟩
        exact bq_secondT rfl (hin 70 _ (by simp [Op.operands]) rfl)
      · refine ⟨_, fun d hd => by cases hd; rfl, ?_⟩
        exact bq_alloc rfl hb.size
      · refine ⟨_, fun d hd => by cases hd; rfl, ?_⟩
        exact tn_copy (.inr rfl) (hin 77 _ (by simp [Op.operands]) rfl)
    · intro o ho a W' hin hb
      obtain rfl := Option.some.inj ho
      exact bq_store rfl rfl (hin 10 _ (by simp [Op.operands]) rfl) (hin 76 _ (by simp [Op.operands]) rfl)
    rintro f w10 hin ⟨g10, q10, hg10, hgB10, A10, oA10⟩ b10
    have yA10 : TRow w9.heap.size w10 (f 11) A1 := hin 11 _ rfl
    clear hin hlb
    obtain ⟨a10, l10, rfl, _⟩ := oA10.ints
    obtain ⟨u10, k10, hf10⟩ := yA10.shape
    rw [hf10] at yA10
    simp only [frameM, Nat.reduceAdd]
    rw [hg10, hf10]
    have iD10 := iD9.below b10
    have iL10 := iL9.below b10
    have D10 := D9.kept b10
    have oX10 := oX9.below b10
    have fX10 := fX9.below b10
    have X10 := X9.kept b10
    have c10 := c9.trans (b10.mono c9.size)
    have z10 := b10.size
    clear iD9 iL9 D9 oX9 fX9 X9 c9 b10 hg10 hf10
    go_upto_region 12 with (fail)
    have hlb := HLib.out.below c10
    refine wp_region_bqm 9 12 (fun v W' => ∃ g u, v = .pointer (some ⟨g, 0, none⟩) ∧ w10.heap.size ≤ g ∧ SBox W' g 30 #[.int .i64 r.b, .int .i64 r.n, u] ∧ OwnTail w10.heap.size W' u r.past) (fun v W W' ⟨g, u, h1, h2, h3, h4⟩ hb => ⟨g, u, h1, h2, h3.kept hb, h4.below hb⟩)
      (fun t => match t with | 10 => some (.is (.pointer (some ⟨g10, 0, none⟩))) | 4 => some (.is (.slice (some ⟨lg, 0, none⟩) ts.length lcp)) | 9 => some (.is (.int .i64 h)) | 79 => some (.is (.agg #[.int .i64 r1d.b, .int .i64 r1d.n, .slice a10 r1d.past.length l10])) | 80 => some (.is (.slice (some ⟨lg, 0, none⟩) ts.length lcp)) | 81 => some (.is (.int .i64 h)) | 82 => some (.is (.slice (if lcp = h then some ⟨lg, 0, none⟩ else some ⟨lg, h, none⟩) (ts.length - h) (lcp - h))) | 83 => some (.tupT w10.heap.size r.b r.n r.past A2) | 78 => some (.tupT w10.heap.size r.b r.n r.past A2) | 84 => some (.desk w10.heap.size r.b r.n r.past) | 85 => some (.texts w10.heap.size A2) | 12 => some (.box w10.heap.size) | 13 => some (.texts w10.heap.size A2) | _ => none) [false, false, false, false, false, false, false, false, false, false, false, false, true, true, false, false, false, false, false, false, false, false, false, false, false, false, false, false, false, false, false, false, false, false, false, false, false, false, false, false, false, false, false, false, false, false, false, false, false, false, false, false, false, false, false, false, false, false, false, false, false, false, false, false, false, false, false, false, false, false, false, false, false, false, false, false, false, false, true, true, true, true, true, true, true, true, false, false, false, false, false, false, false, false, false, false, false, false, false, false, false, false, false, false, false, false, false, false, false, false, false, false, false, false, false, false, false, false, false, false, false, false, false, false, false, false, false, false, false, false, false, false, false, false] _ mixed (by decide) (by kernel_rfl) (fun o ho => by obtain rfl := Option.some.inj ho; simp [Op.operands]) (by kernel_rfl) ?_ ?_ ?_ ?_
    · intro t z h hn
      split at h <;> first | (cases h; done) | (cases h; rfl) | exact absurd (by decide) hn
    · intro ix o hne hio a W' hin hb
      rcases ix with _ | _ | _ | _ | _ | _ | _ | _ | _ | _ | _ | ix
      all_goals first
        | (cases hio; done)
        | exact absurd rfl hne
        | (obtain rfl := Option.some.inj hio)
      · refine ⟨_, fun d hd => by cases hd; rfl, ?_⟩
        exact bq_load rfl (hin 10 _ (by simp [Op.operands]) rfl) (A10.kept hb) rfl
      · refine ⟨_, fun d hd => by cases hd; rfl, ?_⟩
        exact tn_copy (.inl rfl) (hin 4 _ (by simp [Op.operands]) rfl)
      · refine ⟨_, fun d hd => by cases hd; rfl, ?_⟩
        exact tn_copy (.inl rfl) (hin 9 _ (by simp [Op.operands]) rfl)
      · refine ⟨_, fun d hd => by cases hd; rfl, ?_⟩
        exact bq_sliceFrom rfl (hin 80 _ (by simp [Op.operands]) rfl) (hin 81 _ (by simp [Op.operands]) rfl) hhl
      · refine ⟨_, fun d hd => by cases hd; rfl, ?_⟩
        have e1 : a.eval (.tmp 79) = .agg #[.int .i64 r1d.b, .int .i64 r1d.n, .slice a10 r1d.past.length l10] := hin 79 _ (by simp [Op.operands, Call.operands]) rfl
        have e2 : a.eval (.tmp 82) = (.slice (if lcp = h then some ⟨lg, 0, none⟩ else some ⟨lg, h, none⟩) (ts.length - h) (lcp - h)) := hin 82 _ (by simp [Op.operands, Call.operands]) rfl
        refine tn_call rfl rfl (enters_of Tryz.func25 (by kernel_rfl) rfl) (args := #[.agg #[.int .i64 r1d.b, .int .i64 r1d.n, .slice a10 r1d.past.length l10], (.slice (if lcp = h then some ⟨lg, 0, none⟩ else some ⟨lg, h, none⟩) (ts.length - h) (lcp - h))]) (by show #[a.eval (.tmp 79), a.eval (.tmp 82)] = _; rw [e1, e2]) ?_
        refine (HBA2.out _ _ W' (oA10.ints.below hb) ((iL10.below hb).from hhl hcp) (hlb.below hb)).mono ?_
        rintro e W2 ⟨vv, tt, rfl, ho, ht, hb2⟩
        exact ⟨_, rfl, ⟨vv, tt, rfl, ho.mono hb.size, ht.mono hb.size⟩, hb2⟩
      · refine ⟨_, fun d hd => by cases hd; rfl, ?_⟩
        exact tn_copy (.inl rfl) (hin 83 _ (by simp [Op.operands]) rfl)
      · refine ⟨_, fun d hd => by cases hd; rfl, ?_⟩
        exact bq_firstT rfl (hin 78 _ (by simp [Op.operands]) rfl)
      · refine ⟨_, fun d hd => by cases hd; rfl, ?_⟩
        exact bq_secondT rfl (hin 78 _ (by simp [Op.operands]) rfl)
      · refine ⟨_, fun d hd => by cases hd; rfl, ?_⟩
        exact bq_alloc rfl hb.size
      · refine ⟨_, fun d hd => by cases hd; rfl, ?_⟩
        exact tn_copy (.inr rfl) (hin 85 _ (by simp [Op.operands]) rfl)
    · intro o ho a W' hin hb
      obtain rfl := Option.some.inj ho
      exact bq_store rfl rfl (hin 12 _ (by simp [Op.operands]) rfl) (hin 84 _ (by simp [Op.operands]) rfl)
    rintro f w11 hin ⟨g11, q11, hg11, hgB11, C11, oC11⟩ b11
    have yC11 : TRow w10.heap.size w11 (f 13) A2 := hin 13 _ rfl
    clear hin hlb
    obtain ⟨a11, l11, rfl, _⟩ := oC11.ints
    obtain ⟨u11, k11, hf11⟩ := yC11.shape
    rw [hf11] at yC11
    simp only [frameM, Nat.reduceAdd]
    rw [hg11, hf11]
    have iD11 := iD10.below b11
    have iL11 := iL10.below b11
    have D11 := D10.kept b11
    have oX11 := oX10.below b11
    have fX11 := fX10.below b11
    have X11 := X10.kept b11
    have A11 := A10.kept b11
    have oA11 := oA10.below b11
    have yA11 := yA10.below b11
    have c11 := c10.trans (b11.mono c10.size)
    have z11 := b11.size
    clear iD10 iL10 D10 oX10 fX10 X10 A10 oA10 yA10 c10 b11 hg11 hf11
    clear A11 oA11
    have HCA : Hid (∀ pv W, Ints W pv r.past → LibOk W → Calls Tryz.prog 14 #[.agg #[.int .i64 r.b, .int .i64 r.n, pv], .string ⟨#[99, 97, 114, 114, 105, 101, 115, 32, 48]⟩] W (LinePost W (r, [48]))) := Lib.hid (fun pv W h g => by
      have := implDeskLine r pv ⟨#[99, 97, 114, 114, 105, 101, 115, 32, 48]⟩ W h hrx (by decide) g
      rwa [show (⟨#[99, 97, 114, 114, 105, 101, 115, 32, 48]⟩ : ByteArray).data.toList = [99, 97, 114, 114, 105, 101, 115, 32, 48] from rfl, Pl.line_carries hrd] at this)
    have HON : Hid (∀ pv W, Ints W pv r.past → LibOk W → Calls Tryz.prog 14 #[.agg #[.int .i64 r.b, .int .i64 r.n, pv], .string ⟨#[111, 110, 101, 32, 49]⟩] W (LinePost W (r, Pl.noneW))) := Lib.hid (fun pv W h g => by
      have := implDeskLine r pv ⟨#[111, 110, 101, 32, 49]⟩ W h hrx (by decide) g
      rwa [show (⟨#[111, 110, 101, 32, 49]⟩ : ByteArray).data.toList = [111, 110, 101, 32, 49] from rfl, Pl.line_one hrd] at this)
    have HQL := Lib.hid hrl
    clear hrl hr1
    go_wp2_with fail
    go_loopw [14] (fun kv wr => ∃ k : Nat, k ≤ ANS.length ∧ kv = .int .i64 k ∧ w11 = wr) (fun kv _ => ANS.length - (intOf kv).toNat)
    case atStart => exact ⟨0, Nat.zero_le _, rfl, rfl⟩
    case round =>
      obtain ⟨k, hk, rfl, rfl⟩ := hrel
      by_cases hlt : k < ANS.length
      · obtain ⟨xb, xo, xE, ck⟩ := (fX11).at_cell (k := k) (by rw [List.length_map]; exact hlt)
        have hTe : ((ANS.map Pl.str)[k]?.getD ByteArray.empty).toList.isEmpty = false := by
          have hm := HNE.out (ANS[k]) (List.getElem_mem _)
          rw [List.getElem?_map, List.getElem?_eq_getElem hlt]
          show (Pl.str _).toList.isEmpty = false
          rw [Lib.toList_data, Pl.str_data]
          cases hc : ANS[k] with
          | nil => exact absurd hc hm
          | cons x xs => rfl
        generalize (ANS.map Pl.str)[k]?.getD ByteArray.empty = T at *
        have hi1 : (k : Int) < (ANS.length : Int) := by omega
        subst xE
        go_wp2_with fail
        refine ⟨⟨k + 1, by omega, by go_num, by first | rfl | trivial⟩, by simp [intOf]; omega⟩
      obtain rfl : k = ANS.length := by omega
      clear hk hlt
      have hlb := HLib.out.below c11
      have iX := oX11.ints
      have Xc0 := X11.cell 0
      have Xc1 := X11.cell 1
      have Xc2 := X11.cell 2
      go_wp2_with fail
      refine (HCA.out _ w11 iX hlb).mono ?_
      rintro e w12 ⟨v12, rfl, oZ12, b12⟩
      clear Xc0 Xc1 Xc2
      have iD12 := iD11.below b12
      have iL12 := iL11.below b12
      have D12 := D11.kept b12
      have oX12 := oX11.below b12
      have fX12 := fX11.below b12
      have X12 := X11.kept b12
      have yA12 := yA11.below b12
      have C12 := C11.kept b12
      have oC12 := oC11.below b12
      have yC12 := yC11.below b12
      have c12 := c11.trans (b12.mono c11.size)
      have z12 := b12.size
      clear iD11 iL11 D11 oX11 fX11 X11 yA11 C11 oC11 yC11 c11 b12
      clear iX hlb
      obtain ⟨a12, l12, rfl, _⟩ := oZ12.ints
      clear oZ12
      have hal : Below w12.heap.size w12 (w12.alloc (.cells #[.int .i64 r.b, .int .i64 r.n, .slice a12 r.past.length l12] 30)) := (Below.refl _ w12).alloc (Nat.le_refl _) _
      have Z13 := SBox.new w12 30 #[.int .i64 r.b, .int .i64 r.n, .slice a12 r.past.length l12]
      have iD13 := iD12.below hal
      have iL13 := iL12.below hal
      have D13 := D12.kept hal
      have oX13 := oX12.below hal
      have fX13 := fX12.below hal
      have X13 := X12.kept hal
      have yA13 := yA12.below hal
      have C13 := C12.kept hal
      have oC13 := oC12.below hal
      have yC13 := yC12.below hal
      have c13 := c12.trans (hal.mono c12.size)
      have z13 := hal.size
      clear iD12 iL12 D12 oX12 fX12 X12 yA12 C12 oC12 yC12 c12 hal
      go_upto_region 19 with (fail)
      generalize w12.alloc (.cells #[.int .i64 r.b, .int .i64 r.n, .slice a12 r.past.length l12] 30) = w13 at *
      clear Z13
      have hlb := HLib.out.below c13
      have iX := oX13.ints
      have Xc0 := X13.cell 0
      have Xc1 := X13.cell 1
      have Xc2 := X13.cell 2
      go_wp2_with fail
      refine (HON.out _ w13 iX hlb).mono ?_
      rintro e w14 ⟨v14, rfl, oZ14, b14⟩
      clear Xc0 Xc1 Xc2
      have iD14 := iD13.below b14
      have iL14 := iL13.below b14
      have D14 := D13.kept b14
      have oX14 := oX13.below b14
      have fX14 := fX13.below b14
      have X14 := X13.kept b14
      have yA14 := yA13.below b14
      have C14 := C13.kept b14
      have oC14 := oC13.below b14
      have yC14 := yC13.below b14
      have c14 := c13.trans (b14.mono c13.size)
      have z14 := b14.size
      clear iD13 iL13 D13 oX13 fX13 X13 yA13 C13 oC13 yC13 c13 b14
      clear iX hlb
      obtain ⟨a14, l14, rfl, _⟩ := oZ14.ints
      clear oZ14
      have hal : Below w14.heap.size w14 (w14.alloc (.cells #[.int .i64 r.b, .int .i64 r.n, .slice a14 r.past.length l14] 30)) := (Below.refl _ w14).alloc (Nat.le_refl _) _
      have Z15 := SBox.new w14 30 #[.int .i64 r.b, .int .i64 r.n, .slice a14 r.past.length l14]
      have iD15 := iD14.below hal
      have iL15 := iL14.below hal
      have D15 := D14.kept hal
      have oX15 := oX14.below hal
      have fX15 := fX14.below hal
      have X15 := X14.kept hal
      have yA15 := yA14.below hal
      have C15 := C14.kept hal
      have oC15 := oC14.below hal
      have yC15 := yC14.below hal
      have c15 := c14.trans (hal.mono c14.size)
      have z15 := hal.size
      clear iD14 iL14 D14 oX14 fX14 X14 yA14 C14 oC14 yC14 c14 hal
      go_upto_region 20 with (fail)
      generalize w14.alloc (.cells #[.int .i64 r.b, .int .i64 r.n, .slice a14 r.past.length l14] 30) = w15 at *
      clear Z15
      have hW1 : ((Pl.str [48]).toList == ([48] : List UInt8)) = true := by rw [Lib.toList_data]; rfl
      have hW2 : ((Pl.str Pl.noneW).toList == ([110, 111, 110, 101] : List UInt8)) = true := by rw [Lib.toList_data]; rfl
      generalize Pl.str [48] = WA at *
      generalize Pl.str Pl.noneW = WB at *
      have iC := oC15.ints
      have iX := oX15.ints
      have Cc0 := C15.cell 0
      have Cc1 := C15.cell 1
      have Cc2 := C15.cell 2
      have Xc0 := X15.cell 0
      have Xc1 := X15.cell 1
      have Xc2 := X15.cell 2
      go_wp2_with fail
      refine (sameDesk r r _ _ w15 iC iX (by omega)).mono ?_
      rintro e w16 ⟨rfl, b16⟩
      clear Cc0 Cc1 Cc2 Xc0 Xc1 Xc2
      have iD16 := iD15.below b16
      have iL16 := iL15.below b16
      have D16 := D15.kept b16
      have oX16 := oX15.below b16
      have fX16 := fX15.below b16
      have X16 := X15.kept b16
      have yA16 := yA15.below b16
      have C16 := C15.kept b16
      have oC16 := oC15.below b16
      have yC16 := yC15.below b16
      have c16 := c15.trans (b16.mono c15.size)
      have z16 := b16.size
      clear iD15 iL15 D15 oX15 fX15 X15 yA15 C15 oC15 yC15 c15 b16
      rw [hsame]
      clear iC iX
      have hal : Below w16.heap.size w16 (w16.alloc (.cells #[] 9)) := (Below.refl _ _).alloc (Nat.le_refl _) _
      have T0 := trow_empty w16
      have HYA := Lib.hid ((yA16).below hal)
      have HLA := Lib.hid HLEN.out
      have ha1 : A1.length + A2.length = ANS.length := by rw [HA.out, List.length_append]
      go_wp2_with (first | (at_builtin; refine append_texts_on (by rfl) _ _ rfl w16.heap.size _ _ _ _ _ rfl rfl T0 HYA.out (by simp; omega) (by simp) ?_; intro v8 w8 T8 b8) | (at_builtin; refine append_texts_on (by rfl) _ _ rfl w16.heap.size _ _ _ _ _ rfl rfl T8 (yC16.below (hal.trans b8)) (by simp; omega) (hal.trans b8).size ?_; intro v9 w9 T9 b9))
      have b9' : Below w16.heap.size w16 w9 := (hal.trans b8).trans b9
      have T9' : Texts w9 v9 (ANS.map Pl.str) := by
        have := T9.texts
        rwa [List.nil_append, ← HA.out] at this
      refine (sameTextsYes _ _ (ANS.map Pl.str) w9 T9' (fX16.below b9') haz).mono ?_
      rintro e wz ⟨rfl, bz⟩
      have cz := c16.trans (b9'.mono c16.size)
      have cy := cz.trans (bz.mono cz.size)
      have hlen := HLEN.out
      clear T0 T8 T9 b8 b9
      go_wp2
      go_ret
      exact ⟨rfl, cy⟩

end Go.Proofs.YtgkkoegfmhgcjaaGreatDoor
