/-
  impl: a desk after deeds.
-/
import Derived.Test.YtakkjlcnfkklpaaDeskI
namespace Go.Proofs.Ytakkjlcnfkklpaa
open Go.RowKit Go.Shelf

/-- One more deed, done or not. -/
theorem Pl.runD_next {d : Pl.Dk} (h : Pl.dkB d = true) (l : List (Int × Int)) (a : Int × Int) :
    Pl.runD d (l ++ [a]) = ((Pl.doA (Pl.runD d l).1 a.1 a.2).1, if (Pl.doA (Pl.runD d l).1 a.1 a.2).2 = true then (Pl.runD d l).2 + 1 else (Pl.runD d l).2) := by
  rw [Pl.runD_snoc]
  by_cases hd : (Pl.doA (Pl.runD d l).1 a.1 a.2).2 = true
  · rw [if_pos hd, if_pos hd]
  · rw [if_neg hd, if_neg hd, Pl.doA_not_same (Pl.runD_desk h l).1 (by simpa using hd)]

set_option maxRecDepth 100000 in
set_option maxHeartbeats 4000000 in
theorem implDeskRun (d : Pl.Dk) (pv lv : Value) (ds : List (Int × Int)) (w : World) (hp : Ints w pv d.past) (hx : d.past.length ≤ 100000000) (hl : Deeds w lv ds) :
    Calls Try.prog 25 #[.agg #[.int .i64 d.b, .int .i64 d.n, pv], lv] w (RunPost w (Pl.runA d ds)) := by
  obtain ⟨b, m, p⟩ := d
  simp only at hp hx ⊢
  have hbw : Below w.heap.size w ((w.alloc (.cells #[.int .i64 b, .int .i64 m, pv] 25)).alloc (.cells #[.int .i64 0, .int .i64 0, .slice none 0 0] 25)) := ((Below.refl _ w).alloc (Nat.le_refl _) _).alloc (by simp) _
  have hA0 : SBox ((w.alloc (.cells #[.int .i64 b, .int .i64 m, pv] 25)).alloc (.cells #[.int .i64 0, .int .i64 0, .slice none 0 0] 25)) w.heap.size 25 #[.int .i64 b, .int .i64 m, pv] := (SBox.new w 25 _).alloc _
  have hR0 : SBox ((w.alloc (.cells #[.int .i64 b, .int .i64 m, pv] 25)).alloc (.cells #[.int .i64 0, .int .i64 0, .slice none 0 0] 25)) (w.heap.size + 1) 25 #[.int .i64 0, .int .i64 0, .slice none 0 0] := by
    have := SBox.new (w.alloc (.cells #[.int .i64 b, .int .i64 m, pv] 25)) 25 #[.int .i64 0, .int .i64 0, .slice none 0 0]
    rwa [World.size_alloc] at this
  have hz0 : ((w.alloc (.cells #[.int .i64 b, .int .i64 m, pv] 25)).alloc (.cells #[.int .i64 0, .int .i64 0, .slice none 0 0] 25)).heap.size = w.heap.size + 1 + 1 := by simp
  have hI0 := hp.below hbw
  have HOK := Lib.hid (fun W (h : Ints W pv p) => implDeskOk ⟨b, m, p⟩ pv W h hx)
  have HCP := Lib.hid (fun W (h : Ints W pv p) => implAlone ⟨b, m, p⟩ pv W h hx)
  simp only at HOK HCP
  obtain ⟨la, lc, rfl, hcells⟩ := hl
  have HL := Lib.hid hcells
  clear hcells
  obtain ⟨R, hR⟩ : ∃ R, Pl.runA ⟨b, m, p⟩ ds = R := ⟨_, rfl⟩
  rw [hR]
  go_enter Try.func25, Try.ntmps25
  go_wp2_with fail
  generalize ((w.alloc (.cells #[.int .i64 b, .int .i64 m, pv] 25)).alloc (.cells #[.int .i64 0, .int .i64 0, .slice none 0 0] 25)) = w0 at *
  refine (HOK.out _ hI0).mono ?_
  rintro e w1 ⟨rfl, b1⟩
  have HA1 := Lib.hid (hA0.kept b1)
  have HR1 := Lib.hid (hR0.kept b1)
  have HI1 := Lib.hid (hI0.below b1)
  have hb1 := hbw.trans (b1.mono hbw.size)
  have hz1 : w.heap.size + 2 ≤ w1.heap.size := by have := b1.size; omega
  clear hA0 hR0 hI0 b1 hbw HOK hz0 hp
  by_cases hok : Pl.dkB ⟨b, m, p⟩ = true
  · rw [hok]
    by_cases h40 : ds.length ≤ 40
    · have h40' : ¬ (40 : Int) < (ds.length : Int) := by omega
      rw [Pl.runA, if_pos ⟨hok, h40⟩] at hR
      have HRR := Lib.hid hR
      have HOKD := Lib.hid hok
      clear hR hok
      go_wp2_with (refine desk_load rfl _ rfl rfl HA1.out ?_)
      refine (HCP.out _ HI1.out).mono ?_
      rintro e w2 ⟨v2, rfl, r2', b2⟩
      have r2 : Row w1.heap.size w2 v2 p := r2'
      have HR2 := Lib.hid (HR1.out.kept b2)
      have HV2 : Hid (OwnTail w1.heap.size (w2.alloc (.cells #[.int .i64 b, .int .i64 m, v2] 25)) v2 p) := Lib.hid (.inl (World.ownsRow.alloc r2 _))
      have HB2 := Lib.hid (SBox.new w2 25 #[.int .i64 b, .int .i64 m, v2])
      have HR3 := Lib.hid (HR2.out.alloc (.cells #[.int .i64 b, .int .i64 m, v2] 25))
      have hb2 := (hb1.trans (b2.mono hb1.size)).alloc (Nat.le_trans hb1.size b2.size) (.cells #[.int .i64 b, .int .i64 m, v2] 25)
      have hz2 : w1.heap.size ≤ w2.heap.size := b2.size
      have hz3 : w2.heap.size + 1 ≤ (w2.alloc (.cells #[.int .i64 b, .int .i64 m, v2] 25)).heap.size := by simp
      obtain ⟨a2, c2, rfl⟩ := r2.shape
      clear r2 r2' b2 HR1 HA1 HI1 HCP HR2 hb1
      go_wp2_with fail
      generalize w2.alloc (.cells #[.int .i64 b, .int .i64 m, .slice a2 p.length c2] 25) = w3 at *
      go_loopw [7, 25] (fun nv kv wr => ∃ (k : Nat) (D : Pl.Dk) (v : Value), kv = .int .i64 k ∧ k ≤ ds.length ∧ D = (Pl.runD ⟨b, m, p⟩ (ds.take k)).1 ∧ nv = .int .i64 ((Pl.runD ⟨b, m, p⟩ (ds.take k)).2 : Int) ∧ SBox wr w2.heap.size 25 #[.int .i64 D.b, .int .i64 D.n, v] ∧ OwnTail (w.heap.size + 2) wr v D.past ∧ Below w2.heap.size w3 wr) (fun _ kv _ => ds.length - (intOf kv).toNat)
      case atStart => exact ⟨0, ⟨b, m, p⟩, _, rfl, Nat.zero_le _, rfl, rfl, HB2.out, HV2.out.mono hz1, Below.refl _ _⟩
      case round =>
        clear HV2 HB2
        obtain ⟨k, D, v, rfl, hk, hD, rfl, hB, hV, hbr⟩ := hrel
        have hdesk := Pl.runD_desk HOKD.out (ds.take k)
        rw [← hD] at hdesk
        have hdk := hdesk.1
        have hcl := hdesk.2.2
        rw [List.length_take, Nat.min_eq_left hk] at hcl
        have hpl : D.past.length ≤ 8 := ((Pl.dkB_iff _).1 hdk).2.2
        have HB := Lib.hid hB
        have HV := Lib.hid hV
        have hszr := hbr.size
        have hbwr : Below w.heap.size w wr := hb2.trans (hbr.mono (by omega))
        have HRr := Lib.hid (HR3.out.below hbr (by omega))
        by_cases hlt : k < ds.length
        · obtain ⟨gl, offl, rfl, ck, cn⟩ := HL.out k hlt
          have hgl : gl < w.heap.size := World.block_lt_of_cell? _ _ ck
          have dk := (hbwr.cell (p := ⟨gl, offl + k * 2, none⟩) hgl).trans ck
          have dn := (hbwr.cell (p := ⟨gl, offl + (k * 2 + 1), none⟩) hgl).trans cn
          have dn' : wr.cell? ⟨gl, offl + k * 2 + 1, none⟩ = some (.int .i64 (ds[k]?.getD (0, 0)).2) := dn
          have hi : (k : Int) < (ds.length : Int) := by omega
          obtain ⟨av, cv, rfl, _⟩ := hV.ints
          have HDO := Lib.hid (fun W (h : Ints W (.slice av D.past.length cv) D.past) => implDeskDo D (.slice av D.past.length cv) (ds[k]?.getD (0, 0)).1 (ds[k]?.getD (0, 0)).2 W h (by omega))
          have hsn := Pl.runD_next HOKD.out (ds.take k) (ds[k]?.getD (0, 0))
          have htk : ds.take (k + 1) = ds.take k ++ [ds[k]?.getD (0, 0)] := by rw [List.take_succ_eq_append_getElem hlt, List.getElem?_eq_getElem hlt]; rfl
          rw [← htk, ← hD] at hsn
          have HSN := Lib.hid hsn
          clear ck cn hsn htk hD hB hV hdesk hdk dn
          generalize Pl.doA D (ds[k]?.getD (0, 0)).1 (ds[k]?.getD (0, 0)).2 = r at *
          generalize (Pl.runD ⟨b, m, p⟩ (ds.take k)).2 = cnt at *
          generalize (ds[k]?.getD (0, 0)).1 = ka at *
          generalize (ds[k]?.getD (0, 0)).2 = kb at *
          go_upto_region 7 with (fail)
          have HBq := Lib.hid (HB.out.alloc (.cells #[.int .i64 ka, .int .i64 kb] 36))
          have HEq := Lib.hid (SBox.new wr 36 #[.int .i64 ka, .int .i64 kb])
          have HIq : Hid (Ints (wr.alloc (.cells #[.int .i64 ka, .int .i64 kb] 36)) (.slice av D.past.length cv) D.past) := Lib.hid (HV.out.ints.below ((Below.refl _ _).alloc (Nat.le_refl _) _))
          have hbq : Below w2.heap.size w3 (wr.alloc (.cells #[.int .i64 ka, .int .i64 kb] 36)) := hbr.alloc (by omega) _
          have hzq : wr.heap.size < (wr.alloc (.cells #[.int .i64 ka, .int .i64 kb] 36)).heap.size := by simp
          clear HB dk dn' hbr
          generalize (wr.alloc (.cells #[.int .i64 ka, .int .i64 kb] 36)) = wq at *
          go_wp2_with (first | (refine desk_load rfl _ rfl rfl HBq.out ?_) | (refine deed_load rfl _ rfl rfl HEq.out ?_))
          refine (HDO.out _ HIq.out).mono ?_
          rintro e w5 ⟨v5, rfl, o5', _, b5⟩
          have o5 : OwnTail wq.heap.size w5 v5 r.1.past := o5'
          have HB5 := HBq.out.kept b5
          have hb5 := hbq.trans (b5.mono (by omega))
          have hz5 := b5.size
          obtain ⟨a5, c5, rfl, _⟩ := o5.ints
          have HS6 := Lib.hid (SBox.new w5 25 #[.int .i64 r.1.b, .int .i64 r.1.n, .slice a5 r.1.past.length c5])
          have HB6 := Lib.hid (HB5.alloc (.cells #[.int .i64 r.1.b, .int .i64 r.1.n, .slice a5 r.1.past.length c5] 25))
          have HO6 := Lib.hid (o5.below ((Below.refl _ _).alloc (Nat.le_refl _) (.cells #[.int .i64 r.1.b, .int .i64 r.1.n, .slice a5 r.1.past.length c5] 25)))
          have hb6 := hb5.alloc (by omega) (.cells #[.int .i64 r.1.b, .int .i64 r.1.n, .slice a5 r.1.past.length c5] 25)
          clear o5 o5' b5 HB5 HBq HEq HIq hbq hb5 HDO HV
          cases hdo : r.2 with
          | true =>
            have hsn := HSN.out
            rw [hdo, if_pos rfl] at hsn
            have HS := Lib.hid hsn
            clear hsn hdo
            go_upto_region 8 with (fail)
            generalize w5.alloc (.cells #[.int .i64 r.1.b, .int .i64 r.1.n, .slice a5 r.1.past.length c5] 25) = W6 at *
            go_wp2_with (first | (refine desk_load rfl _ rfl rfl HS6.out ?_) | (refine desk_store rfl _ _ rfl rfl rfl rfl HB6.out ?_; intro w10 hS10 hbl10 hsz10 hO10))
            go_roundw
            case rel => exact ⟨k + 1, r.1, _, by go_num, by omega, by rw [HS.out], by rw [HS.out]; go_num, hS10, (HO6.out.stored HB6.out (by decide) hO10).mono (by omega), hb6.trans (hbl10 _ (Nat.le_refl _))⟩
            case measure => simp [intOf]; omega
          | false =>
            have hsn := HSN.out
            rw [hdo, if_neg (by simp)] at hsn
            have HS := Lib.hid hsn
            clear hsn hdo
            go_upto_region 8 with (fail)
            generalize w5.alloc (.cells #[.int .i64 r.1.b, .int .i64 r.1.n, .slice a5 r.1.past.length c5] 25) = W6 at *
            go_wp2_with (first | (refine desk_load rfl _ rfl rfl HS6.out ?_) | (refine desk_store rfl _ _ rfl rfl rfl rfl HB6.out ?_; intro w10 hS10 hbl10 hsz10 hO10))
            go_roundw
            case rel => exact ⟨k + 1, r.1, _, by go_num, by omega, by rw [HS.out], by rw [HS.out], hS10, (HO6.out.stored HB6.out (by decide) hO10).mono (by omega), hb6.trans (hbl10 _ (Nat.le_refl _))⟩
            case measure => simp [intOf]; omega
        · obtain rfl : k = ds.length := by omega
          have hi : ¬ (ds.length : Int) < (ds.length : Int) := by omega
          rw [List.take_of_length_le (Nat.le_refl _), HRR.out] at hD ⊢
          subst hD
          obtain ⟨av, cv, rfl, _⟩ := hV.ints
          clear hB hV hdesk hdk
          go_wp2_with (first | (refine desk_load rfl _ rfl rfl HB.out ?_) | (refine desk_store rfl _ _ rfl rfl rfl rfl HRr.out ?_; intro w9 hS9 hbl9 hsz9 hO9))
          refine bodyPost_ret (results_cell_tmp rfl _ _ (w.heap.size + 1) #[.int .i64 R.1.b, .int .i64 R.1.n, .slice av R.1.past.length cv] _ (.int .i64 (R.2 : Int)) rfl rfl hS9 rfl Try.underlying25 (by rw [size_desk]; rfl)) rfl ?_
          exact ⟨_, rfl, (HV.out.stored HRr.out (by decide) hO9).mono (by omega), hbwr.trans (hbl9 w.heap.size (by omega))⟩
    · have h40' : (40 : Int) < (ds.length : Int) := by omega
      rw [Pl.runA, if_neg (fun h => h40 h.2)] at hR
      subst hR
      clear HA1 HI1 HCP hok
      go_wp2_with (refine desk_store rfl _ _ rfl rfl rfl rfl HR1.out ?_; intro w2 hS2 hbl2 hsz2 _)
      refine bodyPost_ret (results_cell_tmp rfl _ _ (w.heap.size + 1) #[.int .i64 0, .int .i64 0, .slice none 0 0] _ (.int .i64 0) rfl rfl hS2 rfl Try.underlying25 (by rw [size_desk]; rfl)) rfl ?_
      exact ⟨.slice none 0 0, rfl, .inl (World.ownsRow_nil _ _ _ _), hb1.trans (hbl2 w.heap.size (by omega))⟩
  · have hno : Pl.dkB ⟨b, m, p⟩ = false := by simpa using hok
    rw [hno]
    rw [Pl.runA, if_neg (fun h => hok h.1)] at hR
    subst hR
    clear HA1 HI1 HCP hok
    go_wp2_with (refine desk_store rfl _ _ rfl rfl rfl rfl HR1.out ?_; intro w2 hS2 hbl2 hsz2 _)
    refine bodyPost_ret (results_cell_tmp rfl _ _ (w.heap.size + 1) #[.int .i64 0, .int .i64 0, .slice none 0 0] _ (.int .i64 0) rfl rfl hS2 rfl Try.underlying25 (by rw [size_desk]; rfl)) rfl ?_
    exact ⟨.slice none 0 0, rfl, .inl (World.ownsRow_nil _ _ _ _), hb1.trans (hbl2 w.heap.size (by omega))⟩

end Go.Proofs.Ytakkjlcnfkklpaa
