/-
  impl.DeskSay: a desk after lines, one after the other, and the answers.
-/
import Derived.Test.YtgkkoegfmhgcjaaGreatDoorLineD
import Derived.Test.YtgkkoegfmhgcjaaGreatDoorSpecSay
namespace Go.Proofs.YtgkkoegfmhgcjaaGreatDoor
open Go.RowKit Go.Shelf

set_option maxRecDepth 100000 in
set_option maxHeartbeats 8000000 in
theorem implDeskSay (d : Pl.Dk) (pv lv : Value) (ts : List ByteArray) (w : World) (hp : Ints w pv d.past) (hx : d.past.length ≤ 100000000) (hl : Texts w lv ts) (hs : ∀ s ∈ ts, s.size ≤ 1000000000) (hL : LibOk w) :
    Calls Tryz.prog 25 #[.agg #[.int .i64 d.b, .int .i64 d.n, pv], lv] w (SayPost w (Pl.sayA d (listed ts))) := by
  obtain ⟨b, m, p⟩ := d
  simp only at hp hx ⊢
  obtain ⟨i0, hi0, hz0', hz1', hz2'⟩ := info_parts info_str
  have hp' := hp
  obtain ⟨a0, cap0, rfl, _⟩ := hp'
  obtain ⟨la, lc, rfl, hcells⟩ := hl
  have HL := Lib.hid hcells
  have HS := Lib.hid hs
  have HLib := Lib.hid hL
  clear hcells hs hL
  obtain ⟨R, hR⟩ : ∃ R, Pl.sayA ⟨b, m, p⟩ (listed ts) = R := ⟨_, rfl⟩
  rw [hR]
  have hb0 : Below w.heap.size w ((w.alloc (.cells #[.int .i64 b, .int .i64 m, .slice a0 p.length cap0] 30)).alloc (.cells #[.int .i64 0, .int .i64 0, .slice none 0 0] 30)) :=
    ((Below.refl _ w).alloc (Nat.le_refl _) _).alloc (by simp) _
  have hA0 : SBox ((w.alloc (.cells #[.int .i64 b, .int .i64 m, .slice a0 p.length cap0] 30)).alloc (.cells #[.int .i64 0, .int .i64 0, .slice none 0 0] 30)) w.heap.size 30 #[.int .i64 b, .int .i64 m, .slice a0 p.length cap0] :=
    (SBox.new w 30 #[.int .i64 b, .int .i64 m, .slice a0 p.length cap0]).alloc _
  have hR0 : SBox ((w.alloc (.cells #[.int .i64 b, .int .i64 m, .slice a0 p.length cap0] 30)).alloc (.cells #[.int .i64 0, .int .i64 0, .slice none 0 0] 30)) (w.heap.size + 1) 30 #[.int .i64 0, .int .i64 0, .slice none 0 0] := by
    have := SBox.new (w.alloc (.cells #[.int .i64 b, .int .i64 m, .slice a0 p.length cap0] 30)) 30 #[.int .i64 0, .int .i64 0, .slice none 0 0]
    rwa [World.size_alloc] at this
  have hz0 : ((w.alloc (.cells #[.int .i64 b, .int .i64 m, .slice a0 p.length cap0] 30)).alloc (.cells #[.int .i64 0, .int .i64 0, .slice none 0 0] 30)).heap.size = w.heap.size + 1 + 1 := by simp
  have hI0 := hp.below hb0
  have HOK := Lib.hid (fun W (h : Ints W (.slice a0 p.length cap0) p) => implDeskOk ⟨b, m, p⟩ (.slice a0 p.length cap0) W h hx)
  have HCP := Lib.hid (fun W (h : Ints W (.slice a0 p.length cap0) p) => implAlone ⟨b, m, p⟩ (.slice a0 p.length cap0) W h hx)
  simp only at HOK HCP
  go_enter Tryz.func25, Tryz.ntmps25
  go_wp2_with fail
  generalize ((w.alloc (.cells #[.int .i64 b, .int .i64 m, .slice a0 p.length cap0] 30)).alloc (.cells #[.int .i64 0, .int .i64 0, .slice none 0 0] 30)) = w0 at *
  refine (HOK.out _ hI0).mono ?_
  rintro e w1 ⟨rfl, b1⟩
  have HA1 := Lib.hid (hA0.kept b1)
  have HR1 := Lib.hid (hR0.kept b1)
  have HI1 := Lib.hid (hI0.below b1)
  have hb1 := hb0.trans (b1.mono hb0.size)
  have hz1 : w.heap.size + 2 ≤ w1.heap.size := by have := b1.size; omega
  clear hA0 hR0 hI0 hb0 hz0 b1 HOK hp
  by_cases hok : Pl.dkB ⟨b, m, p⟩ = true
  · rw [hok]
    by_cases h40 : ts.length ≤ 40
    · have h40' : ¬ (40 : Int) < (ts.length : Int) := by omega
      rw [Pl.sayA_yes hok (by rw [listed_len]; exact h40)] at hR
      have HRR := Lib.hid hR
      have HOKD := Lib.hid hok
      clear hR hok
      go_wp2_with (refine desk_load rfl _ rfl rfl HA1.out ?_)
      refine (HCP.out _ HI1.out).mono ?_
      rintro e w2 ⟨v2, rfl, r2', b2⟩
      have r2 : Row w1.heap.size w2 v2 p := r2'
      obtain ⟨a2, c2, rfl⟩ := r2.shape
      have hal : Below w2.heap.size w2 (w2.alloc (.cells #[.int .i64 b, .int .i64 m, .slice a2 p.length c2] 30)) := (Below.refl _ w2).alloc (Nat.le_refl _) _
      have HR3 := Lib.hid ((HR1.out.kept b2).kept hal)
      have HV3 : Hid (OwnTail w1.heap.size (w2.alloc (.cells #[.int .i64 b, .int .i64 m, .slice a2 p.length c2] 30)) (.slice a2 p.length c2) p) := Lib.hid (.inl (r2.below hal))
      have HB3 := Lib.hid (SBox.new w2 30 #[.int .i64 b, .int .i64 m, .slice a2 p.length c2])
      have hb2 := hb1.trans (b2.mono hb1.size)
      have hb3 := hb2.trans (hal.mono hb2.size)
      have hz2 : w1.heap.size ≤ w2.heap.size := b2.size
      have hz3 : (w2.alloc (.cells #[.int .i64 b, .int .i64 m, .slice a2 p.length c2] 30)).heap.size = w2.heap.size + 1 := by simp
      clear r2 r2' b2 HR1 HA1 HI1 HCP hb1 hal hb2
      go_upto_region 5 with (fail)
      generalize w2.alloc (.cells #[.int .i64 b, .int .i64 m, .slice a2 p.length c2] 30) = w3 at *
      generalize hS7 : w2.heap.size = S7 at *
      go_wp2_with fail
      go_loopw [7, 25] (fun ov kv wr => ∃ (k : Nat) (D : Pl.Dk) (v : Value), kv = .int .i64 k ∧ k ≤ ts.length ∧ D = (Pl.sayD ⟨b, m, p⟩ ((listed ts).take k)).1 ∧ TRow (w.heap.size + 1 + 1) wr ov (Pl.sayD ⟨b, m, p⟩ ((listed ts).take k)).2 ∧ SBox wr S7 30 #[.int .i64 D.b, .int .i64 D.n, v] ∧ OwnTail (w.heap.size + 1 + 1) wr v D.past ∧ Below (w.heap.size + 1 + 1) w3 wr) (fun _ kv _ => ts.length - (intOf kv).toNat)
      case atStart => exact ⟨0, ⟨b, m, p⟩, _, rfl, Nat.zero_le _, rfl, World.ownsRow_nil _ _ _ _, HB3.out, HV3.out.mono (by omega), Below.refl _ _⟩
      case round =>
        clear HV3 HB3
        obtain ⟨k, D, v, rfl, hk, hD, hT, hB, hV, hbr⟩ := hrel
        have hdk : Pl.dkB D = true := by rw [hD]; exact Pl.sayD_dk HOKD.out _
        have hpl : D.past.length ≤ 8 := Pl.dk_few hdk
        have hszr := hbr.size
        have hbwr : Below w.heap.size w wr := hb3.trans (hbr.mono (by omega))
        have HRr := Lib.hid (HR3.out.below hbr (by omega))
        by_cases hlt : k < ts.length
        · obtain ⟨gl, offl, rfl, ck⟩ := HL.out k hlt
          have hgl : gl < w.heap.size := World.block_lt_of_cell? _ _ ck
          have dk := (hbwr.cell (p := ⟨gl, offl + k, none⟩) hgl).trans ck
          have hi : (k : Int) < (ts.length : Int) := by omega
          have hsz := HS.out (ts[k]?.getD ByteArray.empty) (by rw [List.getElem?_eq_getElem hlt]; exact List.getElem_mem _)
          have hsn := Pl.sayD_snoc ⟨b, m, p⟩ ((listed ts).take k) (ts[k]?.getD ByteArray.empty).data.toList
          rw [← listed_take hlt, ← hD] at hsn
          obtain ⟨av, cv, rfl, _⟩ := hV.ints
          have HDL := Lib.hid (implDeskLine D (.slice av D.past.length cv) (ts[k]?.getD ByteArray.empty) wr hV.ints (by omega) hsz (HLib.out.below hbwr))
          have hlenT : (Pl.sayD ⟨b, m, p⟩ ((listed ts).take k)).2.length = k := by rw [Pl.sayD_len, List.length_take, listed_len]; omega
          generalize (Pl.sayD ⟨b, m, p⟩ ((listed ts).take k)).2 = ANS at *
          generalize Pl.lineA D (ts[k]?.getD ByteArray.empty).data.toList = r at *
          generalize ts[k]?.getD ByteArray.empty = tk at *
          obtain ⟨r, ans⟩ := r
          unfold LinePost at HDL
          simp only at hsn HDL
          have HSN := Lib.hid hsn
          have HB := Lib.hid hB
          obtain ⟨ao, co, hov⟩ := hT.shape
          rw [hlenT] at hov
          subst hov
          have HTr := Lib.hid hT
          have HLN := Lib.hid hlenT
          clear ck hD hsn hB hV hdk hT hlenT
          go_wp2_with (refine desk_load rfl _ rfl rfl HB.out ?_)
          refine HDL.out.mono ?_
          rintro e w5 ⟨u, rfl, hu, hb5⟩
          have hshape : ∃ a n c, u = .slice a n c := by
            rcases hu with h | ⟨g2, off, cap, capY, ys, hv, _⟩
            · obtain ⟨a4, c4, rfl⟩ := h.shape; exact ⟨_, _, _, rfl⟩
            · exact ⟨_, _, _, hv⟩
          obtain ⟨au, nu, cu, rfl⟩ := hshape
          have hal : Below w5.heap.size w5 (w5.alloc (.cells #[.int .i64 r.b, .int .i64 r.n, .slice au nu cu] 30)) := (Below.refl _ w5).alloc (Nat.le_refl _) _
          have hb6 := hb5.trans (hal.mono hb5.size)
          have HG6 := Lib.hid (SBox.new w5 30 #[.int .i64 r.b, .int .i64 r.n, .slice au nu cu])
          have HB6 := Lib.hid (HB.out.kept hb6)
          have hT6 := HTr.out.below hb6
          have HU6 := Lib.hid ((hu.below hal).mono (base' := w.heap.size + 1 + 1) (by omega))
          have hb6' := hbr.trans (hb6.mono (by omega))
          have hs6 : w.heap.size + 1 + 1 ≤ (w5.alloc (.cells #[.int .i64 r.b, .int .i64 r.n, .slice au nu cu] 30)).heap.size := by have := hb6.size; omega
          have HR6 := Lib.hid (HRr.out.kept hb6)
          have hne : w5.heap.size ≠ S7 := by have := HB.out.lt; have := hb5.size; omega
          clear HDL HB HTr HRr hu hb5 dk hal hb6
          go_upto_region 9 with (fail)
          generalize w5.alloc (.cells #[.int .i64 r.b, .int .i64 r.n, .slice au nu cu] 30) = w6 at *
          generalize w5.heap.size = G at *
          have hr2 : w6.ownsRow (w.heap.size + 1 + 1) 9 1 (.slice ao k co) k (ANS.map fun l => Value.string (Pl.str l)) := by
            have := hT6
            unfold TRow at this
            rwa [HLN.out] at this
          go_upto_region 10 with (at_builtin; refine wpList_append_own _ rfl _ _ 47 rfl (w.heap.size + 1 + 1) 9 i0 (.string ⟨#[]⟩) 1 16 Tryz.underlying47 hi0 hz0' hz1' hz2' rfl (by decide) _ _ _ rfl (hr2.alloc _) ⟨w6.heap.size, 0, none⟩ 1 1 [.string (Pl.str ans)] rfl rfl (cell_one_new _ _ _) (by simp [Value.oneCell']) (by unfold maxLen; omega) (by omega) (by simp; omega) ?_; intro v8 w8 hown8 hgrow8 _)
          have hal : Below w6.heap.size w6 (w6.alloc (.cells #[.string (Pl.str ans)] 9)) := (Below.refl _ _).alloc (Nat.le_refl _) _
          have hb8 : Below (w.heap.size + 1 + 1) w3 w8 := below_append (hb6'.alloc (by omega) _) (hr2.alloc _) hgrow8 (by omega)
          have hT8 : TRow (w.heap.size + 1 + 1) w8 v8 (ANS ++ [ans]) := trow_snoc rfl (by rw [HLN.out]; exact hown8)
          have hB8 := (HB6.out.kept hal).grown hgrow8 (boxNotTexts (HB6.out.kept hal) (by decide) (hT6.below hal))
          have hG8 := (HG6.out.kept hal).grown hgrow8 (boxNotTexts (HG6.out.kept hal) (by decide) (hT6.below hal))
          have hU8 := (HU6.out.below hal).grownR hgrow8 (notTexts (HU6.out.below hal) (hT6.below hal))
          have HT8 := Lib.hid hT8
          have HU8 := Lib.hid hU8
          clear hown8 hgrow8 hr2 hT6 HB6 HG6 HU6 hb6' HR6 hal hT8 hU8
          go_wp2_with (first | (refine desk_load rfl _ rfl rfl hG8 ?_) | (refine desk_store rfl _ _ rfl rfl rfl rfl hB8 ?_; intro w10 hS10 hbl10 hsz10 hO10))
          have h10T := Lib.hid (TRow.stored HT8.out hB8 (by decide) hO10)
          have h10U := Lib.hid (OwnTail.stored HU8.out hB8 (by decide) hO10)
          have hb10 := hb8.trans (hbl10 _ (by omega))
          go_roundw
          case rel => exact ⟨k + 1, r, _, by go_num, by omega, by rw [HSN.out], by rw [HSN.out]; exact h10T.out, hS10, h10U.out, hb10⟩
          case measure => simp [intOf]; omega
        · obtain rfl : k = ts.length := by omega
          have hi : ¬ (ts.length : Int) < (ts.length : Int) := by omega
          rw [List.take_of_length_le (by rw [listed_len]; exact Nat.le_refl _), HRR.out] at hD hT
          obtain ⟨av, cv, rfl, _⟩ := hV.ints
          have HT5 := Lib.hid hT
          have HV5 := Lib.hid hV
          have HE := Lib.hid hD
          have hS7R : S7 ≠ w.heap.size + 1 := by omega
          clear hT hD hV
          go_wp2_with (first | (refine desk_load rfl _ rfl rfl hB ?_) | (refine desk_store rfl _ _ rfl rfl rfl rfl HRr.out ?_; intro w10 hS10 hbl10 hsz10 hO10))
          refine bodyPost_ret (results_cell_tmp rfl _ _ (w.heap.size + 1) #[.int .i64 D.b, .int .i64 D.n, .slice av D.past.length cv] _ _ rfl rfl hS10 rfl Tryz.underlying30 (by rw [size_desk]; rfl)) rfl ?_
          rw [show R = (D, R.2) from by rw [HE.out]]
          exact ⟨_, _, rfl, (HV5.out.stored HRr.out (by decide) hO10).mono (by omega), (HT5.out.stored HRr.out (by decide) hO10).mono (by omega), hbwr.trans (hbl10 _ (by omega))⟩
    · have h40' : (40 : Int) < (ts.length : Int) := by omega
      have HEnd : Hid (R = (Pl.dk0, [])) := Lib.hid (by rw [← hR, Pl.sayA_no (fun h => h40 (by have := h.2; rwa [listed_len] at this))])
      clear hR hok HCP HI1 HA1
      go_wp2_with (first | (refine desk_store rfl _ _ rfl rfl rfl rfl HR1.out ?_; intro w5 hS5 hbl5 hsz5 hO5))
      refine bodyPost_ret (results_cell_tmp rfl _ _ (w.heap.size + 1) #[.int .i64 0, .int .i64 0, .slice none 0 0] _ _ rfl rfl hS5 rfl Tryz.underlying30 (by rw [size_desk]; rfl)) rfl ?_
      rw [HEnd.out]
      exact ⟨.slice none 0 0, _, rfl, .inl (World.ownsRow_nil _ _ _ _), World.ownsRow_nil _ _ _ _, hb1.trans (hbl5 _ (by omega))⟩
  · have HEnd : Hid (R = (Pl.dk0, [])) := Lib.hid (by rw [← hR, Pl.sayA_no (fun h => hok h.1)])
    have hf : Pl.dkB ⟨b, m, p⟩ = false := by simpa using hok
    rw [hf]
    clear hR hok hf HCP HI1 HA1
    go_wp2_with (first | (refine desk_store rfl _ _ rfl rfl rfl rfl HR1.out ?_; intro w5 hS5 hbl5 hsz5 hO5))
    refine bodyPost_ret (results_cell_tmp rfl _ _ (w.heap.size + 1) #[.int .i64 0, .int .i64 0, .slice none 0 0] _ _ rfl rfl hS5 rfl Tryz.underlying30 (by rw [size_desk]; rfl)) rfl ?_
    rw [HEnd.out]
    exact ⟨.slice none 0 0, _, rfl, .inl (World.ownsRow_nil _ _ _ _), World.ownsRow_nil _ _ _ _, hb1.trans (hbl5 _ (by omega))⟩

end Go.Proofs.YtgkkoegfmhgcjaaGreatDoor
