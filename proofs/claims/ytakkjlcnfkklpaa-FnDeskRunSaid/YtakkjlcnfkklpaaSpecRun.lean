/-
  spec.DeskNew, spec.DeskRun: a new desk; a desk after deeds.
-/
import Derived.Deep.RegionHeld3
import Derived.Test.YtakkjlcnfkklpaaSpecDo
namespace Go.Proofs.Ytakkjlcnfkklpaa
open Go.RowKit Go.Shelf

set_option maxRecDepth 100000 in
set_option maxHeartbeats 2000000 in
theorem specDeskNew (n b : Int) (w : World) :
    Calls Try.prog 17 #[.int .i64 n, .int .i64 b] w fun e w' => e = .returned (.tuple #[.agg #[.int .i64 (Pl.newA n b).1.b, .int .i64 (Pl.newA n b).1.n, .slice none 0 0], .bool (Pl.newA n b).2]) ∧ Below w.heap.size w w' := by
  have hbw : Below w.heap.size w ((w.alloc (.cells #[.int .i64 0, .int .i64 0, .slice none 0 0] 25)).alloc (.cells #[.int .i64 b, .int .i64 n, .slice none 0 0] 25)) := ((Below.refl _ w).alloc (Nat.le_refl _) _).alloc (by simp) _
  have hR0 : SBox ((w.alloc (.cells #[.int .i64 0, .int .i64 0, .slice none 0 0] 25)).alloc (.cells #[.int .i64 b, .int .i64 n, .slice none 0 0] 25)) w.heap.size 25 #[.int .i64 0, .int .i64 0, .slice none 0 0] := (SBox.new w 25 _).alloc _
  have hD0 : SBox ((w.alloc (.cells #[.int .i64 0, .int .i64 0, .slice none 0 0] 25)).alloc (.cells #[.int .i64 b, .int .i64 n, .slice none 0 0] 25)) (w.heap.size + 1) 25 #[.int .i64 b, .int .i64 n, .slice none 0 0] := by
    have := SBox.new (w.alloc (.cells #[.int .i64 0, .int .i64 0, .slice none 0 0] 25)) 25 #[.int .i64 b, .int .i64 n, .slice none 0 0]
    rwa [World.size_alloc] at this
  have HOK := Lib.hid (fun W => specDeskOk ⟨b, n, []⟩ (.slice none 0 0) W (Ints.nil W) (by simp))
  rw [Pl.dkB_new] at HOK
  obtain ⟨R, hR⟩ : ∃ R, Pl.newA n b = R := ⟨_, rfl⟩
  rw [hR]
  go_enter Try.func17, Try.ntmps17
  go_wp2_with fail
  generalize ((w.alloc (.cells #[.int .i64 0, .int .i64 0, .slice none 0 0] 25)).alloc (.cells #[.int .i64 b, .int .i64 n, .slice none 0 0] 25)) = w0 at *
  refine (HOK.out _).mono ?_
  rintro e w1 ⟨rfl, b1⟩
  have HR1 := Lib.hid (hR0.kept b1)
  have HD1 := Lib.hid (hD0.kept b1)
  have hb1 := hbw.trans (b1.mono hbw.size)
  clear hR0 hD0 b1 hbw HOK
  by_cases hok : Pl.okB n b = true
  · rw [hok]
    rw [Pl.newA, if_pos hok] at hR
    subst hR
    go_wp2_with (first | (refine desk_load rfl _ rfl rfl HD1.out ?_) | (refine desk_store rfl _ _ rfl rfl rfl rfl HR1.out ?_; intro w2 hS2 hbl2 hsz2 _))
    refine bodyPost_ret (results_cell_tmp rfl _ _ w.heap.size #[.int .i64 b, .int .i64 n, .slice none 0 0] _ (.bool true) rfl rfl hS2 rfl Try.underlying25 (by rw [size_desk]; rfl)) rfl ?_
    exact ⟨rfl, hb1.trans (hbl2 w.heap.size (by omega))⟩
  · have hno : Pl.okB n b = false := by simpa using hok
    rw [hno]
    rw [Pl.newA, if_neg hok] at hR
    subst hR
    go_wp2_with (refine desk_store rfl _ _ rfl rfl rfl rfl HR1.out ?_; intro w2 hS2 hbl2 hsz2 _)
    refine bodyPost_ret (results_cell_tmp rfl _ _ w.heap.size #[.int .i64 0, .int .i64 0, .slice none 0 0] _ (.bool false) rfl rfl hS2 rfl Try.underlying25 (by rw [size_desk]; rfl)) rfl ?_
    exact ⟨rfl, hb1.trans (hbl2 w.heap.size (by omega))⟩

/-- A call that hands back a desk in new memory, and a number. -/
def RunPost (w : World) (r : Pl.Dk × Nat) (e : Ending) (w' : World) : Prop :=
  ∃ v, e = .returned (.tuple #[.agg #[.int .i64 r.1.b, .int .i64 r.1.n, v], .int .i64 (r.2 : Int)]) ∧ OwnTail w.heap.size w' v r.1.past ∧ Below w.heap.size w w'
/-- A row lies as it lay where a struct is written. -/
theorem Row.stored {base : Nat} {w w' : World} {v : Value} {xs : List Int} (h : Row base w v xs) {B : Nat} {T : TypeId} {cs : Array Value} (hB : SBox w B T cs) (hT : T ≠ 3) (ho : ∀ i, i ≠ B → w'.heap[i]? = w.heap[i]?) : Row base w' v xs := by
  rcases h with ⟨h1, h2 | ⟨g, cap, cur, hv, hg, hh, r⟩⟩
  · exact ⟨h1, .inl h2⟩
  · refine ⟨h1, .inr ⟨g, cap, cur, hv, hg, ?_, r⟩⟩
    rw [ho g ?_]
    · exact hh
    · rintro rfl
      unfold SBox at hB
      rw [hB] at hh
      injection hh with hh
      injection hh with _ ht _
      exact hT ht
theorem OwnTail.stored {base : Nat} {w w' : World} {v : Value} {xs : List Int} (h : OwnTail base w v xs) {B : Nat} {T : TypeId} {cs : Array Value} (hB : SBox w B T cs) (hT : T ≠ 3) (ho : ∀ i, i ≠ B → w'.heap[i]? = w.heap[i]?) : OwnTail base w' v xs := by
  rcases h with h | ⟨g, off, cap, capY, ys, hv, hd, hl, hr⟩
  · exact .inl (h.stored hB hT ho)
  · exact .inr ⟨g, off, cap, capY, ys, hv, hd, hl, hr.stored hB hT ho⟩
theorem OwnTail.setOther {base : Nat} {w : World} {v : Value} {xs : List Int} (h : OwnTail base w v xs) {p : Addr} (hp : p.block < base) (u : Value) : OwnTail base (w.setCell p u) v xs := by
  rcases h with h | ⟨g, off, cap, capY, ys, hv, hd, hl, hr⟩
  · exact .inl (h.setOther hp u)
  · exact .inr ⟨g, off, cap, capY, ys, hv, hd, hl, hr.setOther hp u⟩
theorem OwnTail.setBox {base : Nat} {w : World} {v : Value} {xs : List Int} (h : OwnTail base w v xs) {B : Nat} {T : TypeId} {cs : Array Value} (hB : SBox w B T cs) (hT : T ≠ 3) (i : Nat) (u : Value) : OwnTail base (w.setCell ⟨B, i, none⟩ u) v xs := by
  rcases h with h | ⟨g, off, cap, capY, ys, hv, hd, hl, hr⟩
  · exact .inl (h.setBox hB hT i u)
  · exact .inr ⟨g, off, cap, capY, ys, hv, hd, hl, hr.setBox hB hT i u⟩
theorem OwnTail.mono {base base' : Nat} {w : World} {v : Value} {xs : List Int} (h : OwnTail base w v xs) (hb : base' ≤ base) : OwnTail base' w v xs := by
  rcases h with h | ⟨g, off, cap, capY, ys, hv, hd, hl, hr⟩
  · exact .inl (h.mono hb)
  · exact .inr ⟨g, off, cap, capY, ys, hv, hd, hl, hr.mono hb⟩

set_option maxRecDepth 100000 in
set_option maxHeartbeats 4000000 in
theorem specDeskRun (d : Pl.Dk) (pv lv : Value) (ds : List (Int × Int)) (w : World) (hp : Ints w pv d.past) (hx : d.past.length ≤ 100000000) (hl : Deeds w lv ds) :
    Calls Try.prog 26 #[.agg #[.int .i64 d.b, .int .i64 d.n, pv], lv] w (RunPost w (Pl.runA d ds)) := by
  obtain ⟨b, m, p⟩ := d
  simp only at hp hx ⊢
  have hbw : Below w.heap.size w ((w.alloc (.cells #[.int .i64 b, .int .i64 m, pv] 25)).alloc (.cells #[.int .i64 0, .int .i64 0, .slice none 0 0] 25)) := ((Below.refl _ w).alloc (Nat.le_refl _) _).alloc (by simp) _
  have hA0 : SBox ((w.alloc (.cells #[.int .i64 b, .int .i64 m, pv] 25)).alloc (.cells #[.int .i64 0, .int .i64 0, .slice none 0 0] 25)) w.heap.size 25 #[.int .i64 b, .int .i64 m, pv] := (SBox.new w 25 _).alloc _
  have hR0 : SBox ((w.alloc (.cells #[.int .i64 b, .int .i64 m, pv] 25)).alloc (.cells #[.int .i64 0, .int .i64 0, .slice none 0 0] 25)) (w.heap.size + 1) 25 #[.int .i64 0, .int .i64 0, .slice none 0 0] := by
    have := SBox.new (w.alloc (.cells #[.int .i64 b, .int .i64 m, pv] 25)) 25 #[.int .i64 0, .int .i64 0, .slice none 0 0]
    rwa [World.size_alloc] at this
  have hz0 : ((w.alloc (.cells #[.int .i64 b, .int .i64 m, pv] 25)).alloc (.cells #[.int .i64 0, .int .i64 0, .slice none 0 0] 25)).heap.size = w.heap.size + 1 + 1 := by simp
  have hI0 := hp.below hbw
  have HOK := Lib.hid (fun W (h : Ints W pv p) => specDeskOk ⟨b, m, p⟩ pv W h (Nat.le_trans hx (by omega)))
  have HCP := Lib.hid (fun W (h : Ints W pv p) => spec12Copy ⟨b, m, p⟩ pv W h hx)
  simp only at HOK HCP
  obtain ⟨la, lc, rfl, hcells⟩ := hl
  have HL := Lib.hid hcells
  clear hcells
  obtain ⟨R, hR⟩ : ∃ R, Pl.runA ⟨b, m, p⟩ ds = R := ⟨_, rfl⟩
  rw [hR]
  go_enter Try.func26, Try.ntmps26
  go_wp2_with fail
  generalize ((w.alloc (.cells #[.int .i64 b, .int .i64 m, pv] 25)).alloc (.cells #[.int .i64 0, .int .i64 0, .slice none 0 0] 25)) = w0 at *
  refine (HOK.out _ hI0).mono ?_
  rintro e w1 ⟨rfl, b1⟩
  have HA1 := Lib.hid (hA0.kept b1)
  have HR1 := Lib.hid (hR0.kept b1)
  have HI1 := Lib.hid (hI0.below b1)
  have hb1 := hbw.trans (b1.mono hbw.size)
  have hz1 : w.heap.size + 2 ≤ w1.heap.size := by have := b1.size; omega
  clear hA0 hR0 hI0 b1 hbw HOK hz0 hp
  by_cases hok : Pl.dkB ⟨b, m, p⟩ = true
  · rw [hok]
    by_cases h40 : ds.length ≤ 40
    · have h40' : ¬ (40 : Int) < (ds.length : Int) := by omega
      rw [Pl.runA, if_pos ⟨hok, h40⟩] at hR
      have HRR := Lib.hid hR
      have HOKD := Lib.hid hok
      clear hR hok
      go_wp2_with (refine desk_load rfl _ rfl rfl HA1.out ?_)
      refine (HCP.out _ HI1.out).mono ?_
      rintro e w2 ⟨v2, rfl, r2', b2⟩
      have r2 : Row w1.heap.size w2 v2 p := r2'
      have HR2 := Lib.hid (HR1.out.kept b2)
      have HV2 : Hid (OwnTail w1.heap.size (w2.alloc (.cells #[.int .i64 b, .int .i64 m, v2] 25)) v2 p) := Lib.hid (.inl (World.ownsRow.alloc r2 _))
      have HB2 := Lib.hid (SBox.new w2 25 #[.int .i64 b, .int .i64 m, v2])
      have HR3 := Lib.hid (HR2.out.alloc (.cells #[.int .i64 b, .int .i64 m, v2] 25))
      have hb2 := (hb1.trans (b2.mono hb1.size)).alloc (Nat.le_trans hb1.size b2.size) (.cells #[.int .i64 b, .int .i64 m, v2] 25)
      have hz2 : w1.heap.size ≤ w2.heap.size := b2.size
      have hz3 : (w2.alloc (.cells #[.int .i64 b, .int .i64 m, v2] 25)).heap.size = w2.heap.size + 1 := by simp
      obtain ⟨a2, c2, rfl⟩ := r2.shape
      clear r2 r2' b2 HR1 HA1 HI1 HCP HR2 hb1
      go_wp2_with fail
      generalize w2.alloc (.cells #[.int .i64 b, .int .i64 m, .slice a2 p.length c2] 25) = w3 at *
      go_loopw [7, 8] (fun nv kv wr => ∃ (k : Nat) (D : Pl.Dk) (v : Value), kv = .int .i64 k ∧ k ≤ ds.length ∧ D = (Pl.runD ⟨b, m, p⟩ (ds.take k)).1 ∧ nv = .int .i64 ((Pl.runD ⟨b, m, p⟩ (ds.take k)).2 : Int) ∧ SBox wr w2.heap.size 25 #[.int .i64 D.b, .int .i64 D.n, v] ∧ OwnTail (w.heap.size + 2) wr v D.past ∧ Below w2.heap.size w3 wr) (fun _ kv _ => ds.length - (intOf kv).toNat)
      case atStart => exact ⟨0, ⟨b, m, p⟩, _, rfl, Nat.zero_le _, rfl, rfl, HB2.out, HV2.out.mono hz1, Below.refl _ _⟩
      case round =>
        clear HV2 HB2
        obtain ⟨k, D, v, rfl, hk, hD, rfl, hB, hV, hbr⟩ := hrel
        have hdesk := Pl.runD_desk HOKD.out (ds.take k)
        rw [← hD] at hdesk
        have hdk := hdesk.1
        have hcl := hdesk.2.2
        rw [List.length_take, Nat.min_eq_left hk] at hcl
        have hpl : D.past.length ≤ 8 := ((Pl.dkB_iff _).1 hdk).2.2
        have HB := Lib.hid hB
        have HV := Lib.hid hV
        have hszr := hbr.size
        have hbwr : Below w.heap.size w wr := hb2.trans (hbr.mono (by omega))
        have HRr := Lib.hid (HR3.out.below hbr (by omega))
        by_cases hlt : k < ds.length
        · obtain ⟨gl, offl, rfl, ck, cn⟩ := HL.out k hlt
          have hgl : gl < w.heap.size := World.block_lt_of_cell? _ _ ck
          have dk := (hbwr.cell (p := ⟨gl, offl + k * 2, none⟩) hgl).trans ck
          have dn := (hbwr.cell (p := ⟨gl, offl + (k * 2 + 1), none⟩) hgl).trans cn
          have dn' : wr.cell? ⟨gl, offl + k * 2 + 1, none⟩ = some (.int .i64 (ds[k]?.getD (0, 0)).2) := dn
          have hi : (k : Int) < (ds.length : Int) := by omega
          have hglr : gl < wr.heap.size := Nat.lt_of_lt_of_le hgl hbwr.size
          obtain ⟨av, cv, rfl, _⟩ := hV.ints
          have HDO := Lib.hid (fun W (h : Ints W (.slice av D.past.length cv) D.past) => specDeskDo D (.slice av D.past.length cv) (ds[k]?.getD (0, 0)).1 (ds[k]?.getD (0, 0)).2 W h (by omega))
          have HVI : Hid (Ints wr.drew (.slice av D.past.length cv) D.past) := Lib.hid (hV.ints.below ((Below.refl _ _).drew))
          have HVA : Hid (Ints (wr.alloc (.cells #[.int .i64 0, .int .i64 0, .slice none 0 0] 25)).drew (.slice av D.past.length cv) D.past) := Lib.hid (hV.ints.below (((Below.refl _ _).alloc (Nat.le_refl _) _).drew))
          have hsn := Pl.runD_snoc ⟨b, m, p⟩ (ds.take k) (ds[k]?.getD (0, 0))
          have htk : ds.take (k + 1) = ds.take k ++ [ds[k]?.getD (0, 0)] := by rw [List.take_succ_eq_append_getElem hlt, List.getElem?_eq_getElem hlt]; rfl
          rw [← htk, ← hD] at hsn
          have HSN := Lib.hid hsn
          have HC2 : Hid (Pl.runD ⟨b, m, p⟩ (ds.take k) = (D, (Pl.runD ⟨b, m, p⟩ (ds.take k)).2)) := Lib.hid (by rw [hD])
          have b0 := hB.cell 0
          have b1 := hB.cell 1
          have b2 := hB.cell 2
          have hne9 : w2.heap.size ≠ wr.heap.size := by have := hB.lt; omega
          have hw2r : w2.heap.size ≤ wr.heap.size := by omega
          clear ck cn hsn htk hD hB hV hdesk hdk dn
          generalize Pl.doA D (ds[k]?.getD (0, 0)).1 (ds[k]?.getD (0, 0)).2 = r at *
          generalize (Pl.runD ⟨b, m, p⟩ (ds.take k)).2 = cnt at *
          generalize (ds[k]?.getD (0, 0)).1 = ka at *
          generalize (ds[k]?.getD (0, 0)).2 = kb at *
          go_wp2_with fail
          go_region_held3 (fun w' => w'.cell? ⟨w2.heap.size, 0, none⟩ = some (.int .i64 D.b) ∧ w'.cell? ⟨w2.heap.size, 1, none⟩ = some (.int .i64 D.n) ∧ w'.cell? ⟨w2.heap.size, 2, none⟩ = some (.slice av D.past.length cv) ∧
              w'.cell? ⟨gl, offl + k * 2, none⟩ = some (.int .i64 ka) ∧ w'.cell? ⟨gl, offl + k * 2 + 1, none⟩ = some (.int .i64 kb))
            (first
              | exact ⟨b0, b1, b2, dk, dn'⟩
              | exact ⟨cell_alloc_l _ b0, cell_alloc_l _ b1, cell_alloc_l _ b2, cell_alloc_l _ dk, cell_alloc_l _ dn'⟩
              | exact ⟨c0, c1, c2', ek, en⟩
              | exact ⟨cell_alloc_l _ c0, cell_alloc_l _ c1, cell_alloc_l _ c2', cell_alloc_l _ ek, cell_alloc_l _ en⟩
              | (refine ⟨?_, ?_, ?_, ?_, ?_⟩ <;> (rw [World.cell?_setCell_other _ _ _ _ (by simp <;> omega), World.cell?_setCell_other _ _ _ _ (by simp <;> omega), World.cell?_setCell_other _ _ _ _ (by simp <;> omega)]; assumption)))
            (first
              | (go_at_call 22; refine (HDO.out _ HVI.out).mono ?_; rintro e w5 ⟨v5, rfl, o5', _, b5'⟩; have b5 : Below wr.heap.size wr w5 := (Below.refl wr.heap.size wr).drew.trans b5'; have o5 : OwnTail wr.heap.size w5 v5 r.1.past := o5'; obtain ⟨a5, c5, rfl, _⟩ := o5.ints; have hB5 : SBox w5 w2.heap.size 25 #[.int .i64 D.b, .int .i64 D.n, .slice av D.past.length cv] := HB.out.kept b5; have c0 := hB5.cell 0; have c1 := hB5.cell 1; have c2' := hB5.cell 2; have ek := (b5.cell (p := ⟨gl, offl + k * 2, none⟩) hglr).trans dk; have en := (b5.cell (p := ⟨gl, offl + k * 2 + 1, none⟩) hglr).trans dn'; have HB5 := Lib.hid hB5; have O5 := Lib.hid o5; have V5 := Lib.hid (HV.out.below b5); have hb5 := hbr.trans (b5.mono hw2r); have hz5 := b5.size; clear hB5 o5 b5 o5' b5' b0 b1 b2 dk dn')
              | (go_at_call 22; refine (HDO.out _ HVA.out).mono ?_; rintro e w5 ⟨v5, rfl, o5', _, b5'⟩; have b5 : Below wr.heap.size wr w5 := (((Below.refl wr.heap.size wr).alloc (Nat.le_refl _) (.cells #[.int .i64 0, .int .i64 0, .slice none 0 0] 25)).drew).trans (b5'.mono (by simp)); have o5 : OwnTail wr.heap.size w5 v5 r.1.past := o5'.mono (by simp); have o6 : OwnTail (wr.heap.size + 1) w5 v5 r.1.past := o5'.mono (by simp); have hN5 : SBox w5 wr.heap.size 25 #[.int .i64 0, .int .i64 0, .slice none 0 0] := (b5'.block wr.heap.size (by simp)).trans (heap_alloc_new wr _); have HN5 := Lib.hid hN5; have n0 := hN5.cell 0; have n1 := hN5.cell 1; have n2 := hN5.cell 2; have f0 := hN5.frozen 0; have f1 := hN5.frozen 1; have f2 := hN5.frozen 2; obtain ⟨a5, c5, rfl, _⟩ := o5.ints; have hB5 : SBox w5 w2.heap.size 25 #[.int .i64 D.b, .int .i64 D.n, .slice av D.past.length cv] := HB.out.kept b5; have c0 := hB5.cell 0; have c1 := hB5.cell 1; have c2' := hB5.cell 2; have ek := (b5.cell (p := ⟨gl, offl + k * 2, none⟩) hglr).trans dk; have en := (b5.cell (p := ⟨gl, offl + k * 2 + 1, none⟩) hglr).trans dn'; have HB5 := Lib.hid hB5; have O5 := Lib.hid o5; have V5 := Lib.hid (HV.out.below b5); have hb5 := hbr.trans (b5.mono hw2r); have hz5 := b5.size; clear hB5 o5 b5 o5' b5' b0 b1 b2 dk dn' hN5))
          all_goals
            first
              | ((with_reducible change Exit.then _ _ _ _ (World.alloc w5 _))
                 have HS9 := Lib.hid (SBox.new w5 25 #[.int .i64 r.1.b, .int .i64 r.1.n, .slice a5 r.1.past.length c5])
                 have HS6 := Lib.hid (HB5.out.alloc (.cells #[.int .i64 r.1.b, .int .i64 r.1.n, .slice a5 r.1.past.length c5] 25))
                 have HO9 := Lib.hid (O5.out.below ((Below.refl _ _).alloc (Nat.le_refl _) (.cells #[.int .i64 r.1.b, .int .i64 r.1.n, .slice a5 r.1.past.length c5] 25)))
                 have HV9 := Lib.hid (V5.out.below ((Below.refl _ _).alloc (Nat.le_refl _) (.cells #[.int .i64 r.1.b, .int .i64 r.1.n, .slice a5 r.1.past.length c5] 25)))
                 have hb9 := hb5.alloc (by omega) (.cells #[.int .i64 r.1.b, .int .i64 r.1.n, .slice a5 r.1.past.length c5] 25)
                 clear c0 c1 c2' ek en HB5 O5 V5 hb5
                 generalize w5.alloc (.cells #[.int .i64 r.1.b, .int .i64 r.1.n, .slice a5 r.1.past.length c5] 25) = W9 at *
                 by_cases hdo : r.2 = true
                 · have hsn := HSN.out
                   rw [hdo, if_pos rfl] at hsn
                   have HS := Lib.hid hsn
                   rw [hdo]
                   clear hsn hdo
                   go_wp2_with (first | (refine desk_load rfl _ rfl rfl HS9.out ?_) | (refine desk_store rfl _ _ rfl rfl rfl rfl HS6.out ?_; intro w10 hS10 hbl10 hsz10 hO10))
                   go_roundw
                   case rel => exact ⟨k + 1, r.1, _, by go_num, by omega, by rw [HS.out], by rw [HS.out]; go_num, hS10, (HO9.out.stored HS6.out (by decide) hO10).mono (by omega), hb9.trans (hbl10 _ (Nat.le_refl _))⟩
                   case measure => simp [intOf]; omega
                 · have hdo' : r.2 = false := by simpa using hdo
                   have hsn := HSN.out
                   rw [hdo', if_neg (by simp), HC2.out] at hsn
                   have HS := Lib.hid hsn
                   rw [hdo']
                   clear hsn hdo hdo'
                   go_wp2_with fail
                   go_roundw
                   case rel => exact ⟨k + 1, D, _, by go_num, by omega, by rw [HS.out], by rw [HS.out], HS6.out, HV9.out, hb9⟩
                   case measure => simp [intOf]; omega
                )
              | ((with_reducible change Exit.then _ _ _ _ (World.setCell _ _ _))
                 have HS9 := Lib.hid (HN5.out.three (.int .i64 r.1.b) (.int .i64 r.1.n) (.slice a5 r.1.past.length c5))
                 have HS6 := Lib.hid (((HB5.out.far (p := ⟨wr.heap.size, 0, none⟩) hne9 (.int .i64 r.1.b)).far (p := ⟨wr.heap.size, 1, none⟩) hne9 (.int .i64 r.1.n)).far (p := ⟨wr.heap.size, 2, none⟩) hne9 (.slice a5 r.1.past.length c5))
                 have HO9 : Hid (OwnTail (wr.heap.size + 1) (((w5.setCell ⟨wr.heap.size, 0, none⟩ (.int .i64 r.1.b)).setCell ⟨wr.heap.size, 1, none⟩ (.int .i64 r.1.n)).setCell ⟨wr.heap.size, 2, none⟩ (.slice a5 r.1.past.length c5)) (.slice a5 r.1.past.length c5) r.1.past) := Lib.hid (((o6.setOther (p := ⟨wr.heap.size, 0, none⟩) (by simp) _).setOther (p := ⟨wr.heap.size, 1, none⟩) (by simp) _).setOther (p := ⟨wr.heap.size, 2, none⟩) (by simp) _)
                 have HV9 : Hid (OwnTail (w.heap.size + 2) (((w5.setCell ⟨wr.heap.size, 0, none⟩ (.int .i64 r.1.b)).setCell ⟨wr.heap.size, 1, none⟩ (.int .i64 r.1.n)).setCell ⟨wr.heap.size, 2, none⟩ (.slice a5 r.1.past.length c5)) (.slice av D.past.length cv) D.past) := Lib.hid (((V5.out.setBox HN5.out (by decide) 0 _).setBox (HN5.out.set 0 _) (by decide) 1 _).setBox ((HN5.out.set 0 _).set 1 _) (by decide) 2 _)
                 have hb9 : Below w2.heap.size w3 (((w5.setCell ⟨wr.heap.size, 0, none⟩ (.int .i64 r.1.b)).setCell ⟨wr.heap.size, 1, none⟩ (.int .i64 r.1.n)).setCell ⟨wr.heap.size, 2, none⟩ (.slice a5 r.1.past.length c5)) := below_three hb5 hw2r _ _ _
                 clear c0 c1 c2' ek en HB5 O5 V5 hb5 n0 n1 n2 f0 f1 f2 o6 HN5
                 generalize (((w5.setCell ⟨wr.heap.size, 0, none⟩ (.int .i64 r.1.b)).setCell ⟨wr.heap.size, 1, none⟩ (.int .i64 r.1.n)).setCell ⟨wr.heap.size, 2, none⟩ (.slice a5 r.1.past.length c5)) = W9 at *
                 by_cases hdo : r.2 = true
                 · have hsn := HSN.out
                   rw [hdo, if_pos rfl] at hsn
                   have HS := Lib.hid hsn
                   rw [hdo]
                   clear hsn hdo
                   go_wp2_with (first | (refine desk_load rfl _ rfl rfl HS9.out ?_) | (refine desk_store rfl _ _ rfl rfl rfl rfl HS6.out ?_; intro w10 hS10 hbl10 hsz10 hO10))
                   go_roundw
                   case rel => exact ⟨k + 1, r.1, _, by go_num, by omega, by rw [HS.out], by rw [HS.out]; go_num, hS10, (HO9.out.stored HS6.out (by decide) hO10).mono (by omega), hb9.trans (hbl10 _ (Nat.le_refl _))⟩
                   case measure => simp [intOf]; omega
                 · have hdo' : r.2 = false := by simpa using hdo
                   have hsn := HSN.out
                   rw [hdo', if_neg (by simp), HC2.out] at hsn
                   have HS := Lib.hid hsn
                   rw [hdo']
                   clear hsn hdo hdo'
                   go_wp2_with fail
                   go_roundw
                   case rel => exact ⟨k + 1, D, _, by go_num, by omega, by rw [HS.out], by rw [HS.out], HS6.out, HV9.out, hb9⟩
                   case measure => simp [intOf]; omega
                )
        · obtain rfl : k = ds.length := by omega
          have hi : ¬ (ds.length : Int) < (ds.length : Int) := by omega
          rw [List.take_of_length_le (Nat.le_refl _), HRR.out] at hD ⊢
          subst hD
          obtain ⟨av, cv, rfl, _⟩ := hV.ints
          clear hB hV hdesk hdk
          go_wp2_with (first | (refine desk_load rfl _ rfl rfl HB.out ?_) | (refine desk_store rfl _ _ rfl rfl rfl rfl HRr.out ?_; intro w9 hS9 hbl9 hsz9 hO9))
          refine bodyPost_ret (results_cell_tmp rfl _ _ (w.heap.size + 1) #[.int .i64 R.1.b, .int .i64 R.1.n, .slice av R.1.past.length cv] _ (.int .i64 (R.2 : Int)) rfl rfl hS9 rfl Try.underlying25 (by rw [size_desk]; rfl)) rfl ?_
          exact ⟨_, rfl, (HV.out.stored HRr.out (by decide) hO9).mono (by omega), hbwr.trans (hbl9 w.heap.size (by omega))⟩
    · have h40' : (40 : Int) < (ds.length : Int) := by omega
      rw [Pl.runA, if_neg (fun h => h40 h.2)] at hR
      subst hR
      clear HA1 HI1 HCP hok
      go_wp2_with (refine desk_store rfl _ _ rfl rfl rfl rfl HR1.out ?_; intro w2 hS2 hbl2 hsz2 _)
      refine bodyPost_ret (results_cell_tmp rfl _ _ (w.heap.size + 1) #[.int .i64 0, .int .i64 0, .slice none 0 0] _ (.int .i64 0) rfl rfl hS2 rfl Try.underlying25 (by rw [size_desk]; rfl)) rfl ?_
      exact ⟨.slice none 0 0, rfl, .inl (World.ownsRow_nil _ _ _ _), hb1.trans (hbl2 w.heap.size (by omega))⟩
  · have hno : Pl.dkB ⟨b, m, p⟩ = false := by simpa using hok
    rw [hno]
    rw [Pl.runA, if_neg (fun h => hok h.1)] at hR
    subst hR
    clear HA1 HI1 HCP hok
    go_wp2_with (refine desk_store rfl _ _ rfl rfl rfl rfl HR1.out ?_; intro w2 hS2 hbl2 hsz2 _)
    refine bodyPost_ret (results_cell_tmp rfl _ _ (w.heap.size + 1) #[.int .i64 0, .int .i64 0, .slice none 0 0] _ (.int .i64 0) rfl rfl hS2 rfl Try.underlying25 (by rw [size_desk]; rfl)) rfl ?_
    exact ⟨.slice none 0 0, rfl, .inl (World.ownsRow_nil _ _ _ _), hb1.trans (hbl2 w.heap.size (by omega))⟩

end Go.Proofs.Ytakkjlcnfkklpaa
