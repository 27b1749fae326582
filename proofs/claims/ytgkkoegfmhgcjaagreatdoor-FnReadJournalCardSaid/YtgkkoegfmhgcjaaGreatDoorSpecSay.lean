/-
  spec.DeskSay: a desk after lines, one after the other, and the answers.
-/
import Derived.Test.YtgkkoegfmhgcjaaGreatDoorSpecLine2
import Derived.Test.YtgkkoegfmhgcjaaGreatDoorBoxReg
import Derived.Test.YtgkkoegfmhgcjaaGreatDoorMathSay
import Derived.Test.YtgkkoegfmhgcjaaGreatDoorGText
namespace Go.Proofs.YtgkkoegfmhgcjaaGreatDoor
open Go.RowKit Go.Shelf

/-- A call that hands back a desk in new memory, and new texts. -/
def SayPost (w : World) (r : Pl.Dk × List (List UInt8)) (e : Ending) (w' : World) : Prop :=
  ∃ v t, e = .returned (.tuple #[.agg #[.int .i64 r.1.b, .int .i64 r.1.n, v], t]) ∧ OwnTail w.heap.size w' v r.1.past ∧ TRow w.heap.size w' t r.2 ∧ Below w.heap.size w w'

/-- Texts as lists of bytes. -/
def listed (ts : List ByteArray) : List (List UInt8) := ts.map fun s => s.data.toList
theorem listed_len (ts : List ByteArray) : (listed ts).length = ts.length := List.length_map _
theorem listed_take {ts : List ByteArray} {k : Nat} (h : k < ts.length) : (listed ts).take (k + 1) = (listed ts).take k ++ [(ts[k]?.getD ByteArray.empty).data.toList] := by
  have hk : k < (listed ts).length := by rw [listed_len]; exact h
  rw [List.take_succ_eq_append_getElem hk, List.getElem?_eq_getElem h]
  simp [listed]

theorem Row.grownR {base : Nat} {w w' : World} {u : Value} {xs : List Int} {row : Option Nat} (h : Row base w u xs) (hg : w.grownBy w' row) (hne : ∀ g, u.ownBlock = some g → row ≠ some g) : Row base w' u xs := by
  rcases h with ⟨h1, h2 | ⟨g, cap, cur, rfl, hb, hh, rest⟩⟩
  · exact ⟨h1, .inl h2⟩
  · exact ⟨h1, .inr ⟨g, cap, cur, rfl, hb, (hg.block g (lt_of_heap hh) (fun e => hne g rfl e.symm)).trans hh, rest⟩⟩
theorem OwnTail.grownR {base : Nat} {w w' : World} {u : Value} {xs : List Int} {row : Option Nat} (h : OwnTail base w u xs) (hg : w.grownBy w' row) (hne : ∀ g, u.ownBlock = some g → row ≠ some g) : OwnTail base w' u xs := by
  rcases h with h | ⟨g, off, cap, capY, ys, hv, hd, hl, hr⟩
  · exact .inl (h.grownR hg hne)
  · refine .inr ⟨g, off, cap, capY, ys, hv, hd, hl, hr.grownR hg (fun g' e => hne g' ?_)⟩
    subst hv; exact e
theorem TRow.block {base : Nat} {w : World} {v : Value} {ls : List (List UInt8)} (h : TRow base w v ls) {g : Nat} (hg : v.ownBlock = some g) : base ≤ g ∧ ∃ cur, w.heap[g]? = some (.cells cur 9 (0, 0)) := by
  rcases h with ⟨_, ⟨rfl, _⟩ | ⟨g', cap, cur, rfl, hb, hh, _⟩⟩
  · cases hg
  · obtain rfl : g' = g := by injection hg
    exact ⟨hb, cur, hh⟩
theorem Row.blockT {base : Nat} {w : World} {v : Value} {xs : List Int} (h : Row base w v xs) {g : Nat} (hg : v.ownBlock = some g) : ∃ cur, w.heap[g]? = some (.cells cur 3 (0, 0)) := by
  rcases h with ⟨_, ⟨rfl, _⟩ | ⟨g', cap, cur, rfl, hb, hh, _⟩⟩
  · cases hg
  · obtain rfl : g' = g := by injection hg
    exact ⟨cur, hh⟩
theorem OwnTail.blockT {base : Nat} {w : World} {v : Value} {xs : List Int} (h : OwnTail base w v xs) {g : Nat} (hg : v.ownBlock = some g) : ∃ cur, w.heap[g]? = some (.cells cur 3 (0, 0)) := by
  rcases h with h | ⟨g', off, cap, capY, ys, hv, hd, hl, hr⟩
  · exact h.blockT hg
  · subst hv; exact hr.blockT hg
theorem notTexts {b b' : Nat} {w : World} {u v : Value} {xs : List Int} {ls : List (List UInt8)} (hu : OwnTail b w u xs) (hv : TRow b' w v ls) : ∀ g, u.ownBlock = some g → v.ownBlock ≠ some g := fun g h1 h2 => by
  obtain ⟨c1, e1⟩ := hu.blockT h1
  obtain ⟨_, c2, e2⟩ := hv.block h2
  rw [e1] at e2
  injection e2 with e2
  injection e2 with _ e2 _
  exact absurd e2 (by decide)
theorem boxNotTexts {b' : Nat} {w : World} {v : Value} {ls : List (List UInt8)} {B : Nat} {T : TypeId} {cs : Array Value} (hB : SBox w B T cs) (hT : T ≠ 9) (hv : TRow b' w v ls) : v.ownBlock ≠ some B := fun h => by
  obtain ⟨_, c, e⟩ := hv.block h
  unfold SBox at hB
  rw [hB] at e
  injection e with e
  injection e with _ e _
  exact hT e

set_option maxRecDepth 100000 in
set_option maxHeartbeats 8000000 in
theorem specDeskSay (d : Pl.Dk) (pv lv : Value) (ts : List ByteArray) (w : World) (hp : Ints w pv d.past) (hx : d.past.length ≤ 100000000) (hl : Texts w lv ts) (hs : ∀ s ∈ ts, s.size ≤ 1000000000) :
    Calls Tryz.prog 26 #[.agg #[.int .i64 d.b, .int .i64 d.n, pv], lv] w (SayPost w (Pl.sayA d (listed ts))) := by
  obtain ⟨b, m, p⟩ := d
  simp only at hp hx ⊢
  obtain ⟨i0, hi0, hz0', hz1', hz2'⟩ := info_parts info_str
  have hp' := hp
  obtain ⟨a0, cap0, rfl, _⟩ := hp'
  obtain ⟨la, lc, rfl, hcells⟩ := hl
  have HL := Lib.hid hcells
  have HS := Lib.hid hs
  clear hcells hs
  obtain ⟨R, hR⟩ : ∃ R, Pl.sayA ⟨b, m, p⟩ (listed ts) = R := ⟨_, rfl⟩
  rw [hR]
  have hb0 : Below w.heap.size w (((w.alloc (.cells #[.int .i64 b, .int .i64 m, .slice a0 p.length cap0] 30)).alloc (.cells #[.int .i64 0, .int .i64 0, .slice none 0 0] 30)).alloc (.cells #[] 9)) :=
    (((Below.refl _ w).alloc (Nat.le_refl _) _).alloc (by simp) _).alloc (by simp; omega) _
  have hA0 : SBox (((w.alloc (.cells #[.int .i64 b, .int .i64 m, .slice a0 p.length cap0] 30)).alloc (.cells #[.int .i64 0, .int .i64 0, .slice none 0 0] 30)).alloc (.cells #[] 9)) w.heap.size 30 #[.int .i64 b, .int .i64 m, .slice a0 p.length cap0] :=
    ((SBox.new w 30 #[.int .i64 b, .int .i64 m, .slice a0 p.length cap0]).alloc _).alloc _
  have hR0 : SBox (((w.alloc (.cells #[.int .i64 b, .int .i64 m, .slice a0 p.length cap0] 30)).alloc (.cells #[.int .i64 0, .int .i64 0, .slice none 0 0] 30)).alloc (.cells #[] 9)) (w.heap.size + 1) 30 #[.int .i64 0, .int .i64 0, .slice none 0 0] := by
    have := (SBox.new (w.alloc (.cells #[.int .i64 b, .int .i64 m, .slice a0 p.length cap0] 30)) 30 #[.int .i64 0, .int .i64 0, .slice none 0 0]).alloc (.cells #[] 9)
    rwa [World.size_alloc] at this
  have hT0 : TRow (w.heap.size + 1 + 1) (((w.alloc (.cells #[.int .i64 b, .int .i64 m, .slice a0 p.length cap0] 30)).alloc (.cells #[.int .i64 0, .int .i64 0, .slice none 0 0] 30)).alloc (.cells #[] 9)) (.slice (some ⟨w.heap.size + 1 + 1, 0, none⟩) 0 0) [] := by
    have := trow_empty ((w.alloc (.cells #[.int .i64 b, .int .i64 m, .slice a0 p.length cap0] 30)).alloc (.cells #[.int .i64 0, .int .i64 0, .slice none 0 0] 30))
    simpa only [World.size_alloc] using this
  have hz0 : (((w.alloc (.cells #[.int .i64 b, .int .i64 m, .slice a0 p.length cap0] 30)).alloc (.cells #[.int .i64 0, .int .i64 0, .slice none 0 0] 30)).alloc (.cells #[] 9)).heap.size = w.heap.size + 1 + 1 + 1 := by simp
  have hI0 := hp.below hb0
  have HOK := Lib.hid (fun W (h : Ints W (.slice a0 p.length cap0) p) => specDeskOk ⟨b, m, p⟩ (.slice a0 p.length cap0) W h (Nat.le_trans hx (by omega)))
  have HCP := Lib.hid (fun W (h : Ints W (.slice a0 p.length cap0) p) => spec12Copy ⟨b, m, p⟩ (.slice a0 p.length cap0) W h hx)
  simp only at HOK HCP
  go_enter Tryz.func26, Tryz.ntmps26
  go_wp2_with fail
  generalize (((w.alloc (.cells #[.int .i64 b, .int .i64 m, .slice a0 p.length cap0] 30)).alloc (.cells #[.int .i64 0, .int .i64 0, .slice none 0 0] 30)).alloc (.cells #[] 9)) = w0 at *
  refine (HOK.out _ hI0).mono ?_
  rintro e w1 ⟨rfl, b1⟩
  have HA1 := Lib.hid (hA0.kept b1)
  have HR1 := Lib.hid (hR0.kept b1)
  have HT1 := Lib.hid (hT0.below b1)
  have HI1 := Lib.hid (hI0.below b1)
  have hb1 := hb0.trans (b1.mono hb0.size)
  have hz1 : w.heap.size + 3 ≤ w1.heap.size := by have := b1.size; omega
  clear hA0 hR0 hI0 hT0 hb0 hz0 b1 HOK hp
  by_cases hok : Pl.dkB ⟨b, m, p⟩ = true
  · rw [hok]
    by_cases h40 : ts.length ≤ 40
    · have h40' : ¬ (40 : Int) < (ts.length : Int) := by omega
      rw [Pl.sayA_yes hok (by rw [listed_len]; exact h40)] at hR
      have HRR := Lib.hid hR
      have HOKD := Lib.hid hok
      clear hR hok
      go_wp2_with (refine desk_load rfl _ rfl rfl HA1.out ?_)
      refine (HCP.out _ HI1.out).mono ?_
      rintro e w2 ⟨v2, rfl, r2', b2⟩
      have r2 : Row w1.heap.size w2 v2 p := r2'
      obtain ⟨a2, c2, rfl⟩ := r2.shape
      have hal : Below w2.heap.size w2 (w2.alloc (.cells #[.int .i64 b, .int .i64 m, .slice a2 p.length c2] 30)) := (Below.refl _ w2).alloc (Nat.le_refl _) _
      have HR3 := Lib.hid ((HR1.out.kept b2).kept hal)
      have HT3 := Lib.hid ((HT1.out.below b2).below hal)
      have HV3 : Hid (OwnTail w1.heap.size (w2.alloc (.cells #[.int .i64 b, .int .i64 m, .slice a2 p.length c2] 30)) (.slice a2 p.length c2) p) := Lib.hid (.inl (r2.below hal))
      have HB3 := Lib.hid (SBox.new w2 30 #[.int .i64 b, .int .i64 m, .slice a2 p.length c2])
      have hb2 := hb1.trans (b2.mono hb1.size)
      have hb3 := hb2.trans (hal.mono hb2.size)
      have hz2 : w1.heap.size ≤ w2.heap.size := b2.size
      have hz3 : (w2.alloc (.cells #[.int .i64 b, .int .i64 m, .slice a2 p.length c2] 30)).heap.size = w2.heap.size + 1 := by simp
      clear r2 r2' b2 HR1 HA1 HI1 HCP hb1 HT1 hal hb2
      go_upto_region 5 with (fail)
      generalize w2.alloc (.cells #[.int .i64 b, .int .i64 m, .slice a2 p.length c2] 30) = w3 at *
      generalize hS7 : w2.heap.size = S7 at *
      go_wp2_with fail
      go_loopw [6, 8] (fun ov kv wr => ∃ (k : Nat) (D : Pl.Dk) (v : Value), kv = .int .i64 k ∧ k ≤ ts.length ∧ D = (Pl.sayD ⟨b, m, p⟩ ((listed ts).take k)).1 ∧ TRow (w.heap.size + 1 + 1) wr ov (Pl.sayD ⟨b, m, p⟩ ((listed ts).take k)).2 ∧ SBox wr S7 30 #[.int .i64 D.b, .int .i64 D.n, v] ∧ OwnTail (w.heap.size + 1 + 1) wr v D.past ∧ Below (w.heap.size + 1 + 1) w3 wr) (fun _ kv _ => ts.length - (intOf kv).toNat)
      case atStart => exact ⟨0, ⟨b, m, p⟩, _, rfl, Nat.zero_le _, rfl, HT3.out, HB3.out, HV3.out.mono (by omega), Below.refl _ _⟩
      case round =>
        clear HV3 HB3 HT3
        obtain ⟨k, D, v, rfl, hk, hD, hT, hB, hV, hbr⟩ := hrel
        have hdk : Pl.dkB D = true := by rw [hD]; exact Pl.sayD_dk HOKD.out _
        have hpl : D.past.length ≤ 8 := Pl.dk_few hdk
        have hszr := hbr.size
        have hbwr : Below w.heap.size w wr := hb3.trans (hbr.mono (by omega))
        have HRr := Lib.hid (HR3.out.below hbr (by omega))
        by_cases hlt : k < ts.length
        · obtain ⟨gl, offl, rfl, ck⟩ := HL.out k hlt
          have hgl : gl < w.heap.size := World.block_lt_of_cell? _ _ ck
          have dk := (hbwr.cell (p := ⟨gl, offl + k, none⟩) hgl).trans ck
          have hi : (k : Int) < (ts.length : Int) := by omega
          have hsz := HS.out (ts[k]?.getD ByteArray.empty) (by rw [List.getElem?_eq_getElem hlt]; exact List.getElem_mem _)
          have hsn := Pl.sayD_snoc ⟨b, m, p⟩ ((listed ts).take k) (ts[k]?.getD ByteArray.empty).data.toList
          rw [← listed_take hlt, ← hD] at hsn
          obtain ⟨av, cv, rfl, _⟩ := hV.ints
          have HDL := Lib.hid (fun W (h : Ints W (.slice av D.past.length cv) D.past) => specDeskLine D (.slice av D.past.length cv) (ts[k]?.getD ByteArray.empty) W h (by omega) hsz)
          have hlenT : (Pl.sayD ⟨b, m, p⟩ ((listed ts).take k)).2.length = k := by rw [Pl.sayD_len, List.length_take, listed_len]; omega
          generalize (Pl.sayD ⟨b, m, p⟩ ((listed ts).take k)).2 = ANS at *
          generalize Pl.lineA D (ts[k]?.getD ByteArray.empty).data.toList = r at *
          generalize ts[k]?.getD ByteArray.empty = tk at *
          obtain ⟨r, ans⟩ := r
          unfold LinePost at HDL
          simp only at hsn HDL
          have HSN := Lib.hid hsn
          have HI := Lib.hid hV.ints
          have HB := Lib.hid hB
          have HV := Lib.hid hV
          obtain ⟨ao, co, hov⟩ := hT.shape
          rw [hlenT] at hov
          subst hov
          have HTr := Lib.hid hT
          have HLN := Lib.hid hlenT
          clear ck hD hsn hB hV hdk hT hlenT
          go_wp2_with fail
          refine wp_region_bqm 10 9 (fun x W => ∃ g u, x = .pointer (some ⟨g, 0, none⟩) ∧ wr.heap.size ≤ g ∧ SBox W g 30 #[.int .i64 r.b, .int .i64 r.n, u] ∧ OwnTail wr.heap.size W u r.past) (fun x W W' ⟨g, u, h1, h2, h3, h4⟩ hb => ⟨g, u, h1, h2, h3.kept hb, h4.below hb⟩)
            (fun t => match t with
              | 1 => some (.is (.slice (some ⟨gl, offl, none⟩) ts.length lc)) | 7 => some (.is (.pointer (some ⟨S7, 0, none⟩))) | 8 => some (.is (.int .i64 k))
              | 9 => some (.box wr.heap.size) | 10 => some (.is (.string (Pl.str ans))) | 30 => some (.tup wr.heap.size r.b r.n r.past (.string (Pl.str ans)))
              | 31 => some (.is (.agg #[.int .i64 D.b, .int .i64 D.n, .slice av D.past.length cv])) | 32 => some (.is (.slice (some ⟨gl, offl, none⟩) ts.length lc)) | 33 => some (.is (.int .i64 k))
              | 34 => some (.is (.pointer (some ⟨gl, offl + k, none⟩))) | 35 => some (.is (.string tk)) | 36 => some (.tup wr.heap.size r.b r.n r.past (.string (Pl.str ans)))
              | 37 => some (.desk wr.heap.size r.b r.n r.past) | 38 => some (.is (.string (Pl.str ans))) | _ => none) [false, false, false, false, false, false, false, false, false, true, true, false, false, false, false, false, false, false, false, false, false, false, false, false, false, false, false, false, false, false, true, true, true, true, true, true, true, true, true, false, false, false, false, false, false, false] _ mixed (by decide) (by kernel_rfl) ?_ (by kernel_rfl) ?_ ?_ ?_ ?_
          · intro o ho; obtain rfl := Option.some.inj ho; simp [Op.operands]
          · intro t z h hn
            split at h <;> first | (cases h; done) | (cases h; rfl) | exact absurd (by decide) hn
          · intro i o hne hio a W' hin hbW
            rcases i with _ | _ | _ | _ | _ | _ | _ | _ | _ | _ | _ | _ | i
            all_goals first
              | (cases hio; done)
              | exact absurd rfl hne
              | (obtain rfl := Option.some.inj hio)
            · exact ⟨_, fun d hd => by cases hd; rfl, bq_load rfl (hin 7 _ (by simp [Op.operands]) rfl) (HB.out.kept hbW) rfl⟩
            · exact ⟨_, fun d hd => by cases hd; rfl, tn_copy (.inl rfl) (hin 1 _ (by simp [Op.operands]) rfl)⟩
            · exact ⟨_, fun d hd => by cases hd; rfl, tn_copy (.inl rfl) (hin 8 _ (by simp [Op.operands]) rfl)⟩
            · exact ⟨_, fun d hd => by cases hd; rfl, bq_at rfl (hin 32 _ (by simp [Op.operands]) rfl) (hin 33 _ (by simp [Op.operands]) rfl) hlt⟩
            · exact ⟨_, fun d hd => by cases hd; rfl, bq_loadS rfl (hin 34 _ (by simp [Op.operands]) rfl) ((hbW.cell (p := ⟨gl, offl + k, none⟩) (Nat.lt_of_lt_of_le hgl hbwr.size)).trans dk)⟩
            · refine ⟨_, fun d hd => by cases hd; rfl, ?_⟩
              have e31 : a.eval (.tmp 31) = .agg #[.int .i64 D.b, .int .i64 D.n, .slice av D.past.length cv] := hin 31 _ (by simp [Op.operands, Call.operands]) rfl
              have e35 : a.eval (.tmp 35) = .string tk := hin 35 _ (by simp [Op.operands, Call.operands]) rfl
              refine tn_call rfl rfl (enters_of Tryz.func21 (by kernel_rfl) rfl) (args := #[.agg #[.int .i64 D.b, .int .i64 D.n, .slice av D.past.length cv], .string tk]) (by show #[a.eval (.tmp 31), a.eval (.tmp 35)] = _; rw [e31, e35]) ?_
              refine (HDL.out W' (HI.out.below hbW)).mono ?_
              rintro e W2 ⟨u, rfl, ou, hbu⟩
              exact ⟨_, rfl, ⟨u, rfl, ou.mono hbW.size⟩, hbu⟩
            · exact ⟨_, fun d hd => by cases hd; rfl, tn_copy (.inl rfl) (hin 36 _ (by simp [Op.operands]) rfl)⟩
            · exact ⟨_, fun d hd => by cases hd; rfl, bq_first rfl (hin 30 _ (by simp [Op.operands]) rfl)⟩
            · exact ⟨_, fun d hd => by cases hd; rfl, bq_second rfl (hin 30 _ (by simp [Op.operands]) rfl)⟩
            · exact ⟨_, fun d hd => by cases hd; rfl, bq_alloc rfl hbW.size⟩
            · exact ⟨_, fun d hd => by cases hd; rfl, tn_copy (.inr rfl) (hin 38 _ (by simp [Op.operands]) rfl)⟩
          · intro o ho a W' hin hbW
            obtain rfl := Option.some.inj ho
            exact bq_store rfl rfl (hin 9 _ (by simp [Op.operands]) rfl) (hin 37 _ (by simp [Op.operands]) rfl)
          · rintro f W5 hin ⟨g, u, hg, hgw, hSg, hu⟩ hb5
            have h10 : f 10 = .string (Pl.str ans) := hin 10 _ rfl
            have hshape : ∃ a n c, u = .slice a n c := by
              rcases hu with h | ⟨g2, off, cap, capY, ys, hv, _⟩
              · obtain ⟨a4, c4, rfl⟩ := h.shape; exact ⟨_, _, _, rfl⟩
              · exact ⟨_, _, _, hv⟩
            obtain ⟨au, nu, cu, rfl⟩ := hshape
            have HB5 := Lib.hid (HB.out.kept hb5)
            have HT5 := Lib.hid (HTr.out.below hb5)
            have HR5 := Lib.hid (HRr.out.kept hb5)
            have HU5 := Lib.hid (hu.mono (base' := w.heap.size + 1 + 1) (by omega))
            have hb5' := hbr.trans (hb5.mono (by omega))
            have hS7w : S7 < W5.heap.size := HB5.out.lt
            simp only [frameM, Nat.reduceAdd]
            rw [hg, h10]
            clear hin hg h10 hu HB HTr HRr HV HI HDL hb5 dk
            go_upto_region 10 with (first | (refine desk_load rfl _ rfl rfl hSg ?_) | (refine desk_store rfl _ _ rfl rfl rfl rfl HB5.out ?_; intro w10 hS10 hbl10 hsz10 hO10; have hT10 := TRow.stored HT5.out HB5.out (by decide) hO10; have hr2 : w10.ownsRow (w.heap.size + 1 + 1) 9 1 (.slice ao k co) k (ANS.map fun l => Value.string (Pl.str l)) := (by have := hT10; unfold TRow at this; rwa [HLN.out] at this); have hU10 := OwnTail.stored HU5.out HB5.out (by decide) hO10; have hb10 : Below (w.heap.size + 1 + 1) w3 w10 := hb5'.trans (hbl10 _ (by omega)); have hR10 := HR5.out.below (hbl10 _ (Nat.le_refl _)) (by omega); clear hbl10 hO10 HT5 HB5 HU5 HR5 hb5' hSg))
            have hs10 : w.heap.size + 1 + 1 ≤ w10.heap.size := by omega
            clear hsz10
            go_wp2_with (at_builtin; refine wpList_append_own _ rfl _ _ 47 rfl (w.heap.size + 1 + 1) 9 i0 (.string ⟨#[]⟩) 1 16 Tryz.underlying47 hi0 hz0' hz1' hz2' rfl (by decide) _ _ _ rfl (hr2.alloc _) ⟨w10.heap.size, 0, none⟩ 1 1 [.string (Pl.str ans)] rfl rfl (cell_one_new _ _ _) (by simp [Value.oneCell']) (by unfold maxLen; omega) (by omega) (by simp; omega) ?_; intro v8 w8 hown8 hgrow8 _)
            have hal : Below w10.heap.size w10 (w10.alloc (.cells #[.string (Pl.str ans)] 9)) := (Below.refl _ _).alloc (Nat.le_refl _) _
            have hb8 : Below (w.heap.size + 1 + 1) w3 w8 := below_append (hb10.alloc (by omega) _) (hr2.alloc _) hgrow8 (by omega)
            have H8 : Hid (TRow (w.heap.size + 1 + 1) w8 v8 (ANS ++ [ans])) := Lib.hid (trow_snoc rfl (by rw [HLN.out]; exact hown8))
            have hS8 := Lib.hid ((hS10.kept hal).grown hgrow8 (boxNotTexts (hS10.kept hal) (by decide) (hT10.below hal)))
            have hU8 := Lib.hid ((hU10.below hal).grownR hgrow8 (notTexts (hU10.below hal) (hT10.below hal)))
            clear hown8 hgrow8 hr2 hT10 hU10 hb10 hR10 hS10 hal
            go_wp2_with fail
            go_roundw
            case rel => exact ⟨k + 1, r, _, by go_num, by omega, by rw [HSN.out], by rw [HSN.out]; exact H8.out, hS8.out, hU8.out, hb8⟩
            case measure => simp [intOf]; omega
        · obtain rfl : k = ts.length := by omega
          have hi : ¬ (ts.length : Int) < (ts.length : Int) := by omega
          rw [List.take_of_length_le (by rw [listed_len]; exact Nat.le_refl _), HRR.out] at hD hT
          obtain ⟨av, cv, rfl, _⟩ := hV.ints
          have HT5 := Lib.hid hT
          have HV5 := Lib.hid hV
          have HE := Lib.hid hD
          have hS7R : S7 ≠ w.heap.size + 1 := by omega
          clear hT hD hV
          go_wp2_with (first | (refine desk_load rfl _ rfl rfl hB ?_) | (refine desk_store rfl _ _ rfl rfl rfl rfl HRr.out ?_; intro w10 hS10 hbl10 hsz10 hO10))
          refine bodyPost_ret (results_cell_tmp rfl _ _ (w.heap.size + 1) #[.int .i64 D.b, .int .i64 D.n, .slice av D.past.length cv] _ _ rfl rfl hS10 rfl Tryz.underlying30 (by rw [size_desk]; rfl)) rfl ?_
          rw [show R = (D, R.2) from by rw [HE.out]]
          exact ⟨_, _, rfl, (HV5.out.stored HRr.out (by decide) hO10).mono (by omega), (HT5.out.stored HRr.out (by decide) hO10).mono (by omega), hbwr.trans (hbl10 _ (by omega))⟩
    · have h40' : (40 : Int) < (ts.length : Int) := by omega
      have HEnd : Hid (R = (Pl.dk0, [])) := Lib.hid (by rw [← hR, Pl.sayA_no (fun h => h40 (by have := h.2; rwa [listed_len] at this))])
      clear hR hok HCP HI1 HA1
      go_wp2_with (first | (refine desk_store rfl _ _ rfl rfl rfl rfl HR1.out ?_; intro w5 hS5 hbl5 hsz5 hO5))
      refine bodyPost_ret (results_cell_tmp rfl _ _ (w.heap.size + 1) #[.int .i64 0, .int .i64 0, .slice none 0 0] _ _ rfl rfl hS5 rfl Tryz.underlying30 (by rw [size_desk]; rfl)) rfl ?_
      rw [HEnd.out]
      exact ⟨.slice none 0 0, _, rfl, .inl (World.ownsRow_nil _ _ _ _), (HT1.out.stored HR1.out (by decide) hO5).mono (by omega), hb1.trans (hbl5 _ (by omega))⟩
  · have HEnd : Hid (R = (Pl.dk0, [])) := Lib.hid (by rw [← hR, Pl.sayA_no (fun h => hok h.1)])
    have hf : Pl.dkB ⟨b, m, p⟩ = false := by simpa using hok
    rw [hf]
    clear hR hok hf HCP HI1 HA1
    go_wp2_with (first | (refine desk_store rfl _ _ rfl rfl rfl rfl HR1.out ?_; intro w5 hS5 hbl5 hsz5 hO5))
    refine bodyPost_ret (results_cell_tmp rfl _ _ (w.heap.size + 1) #[.int .i64 0, .int .i64 0, .slice none 0 0] _ _ rfl rfl hS5 rfl Tryz.underlying30 (by rw [size_desk]; rfl)) rfl ?_
    rw [HEnd.out]
    exact ⟨.slice none 0 0, _, rfl, .inl (World.ownsRow_nil _ _ _ _), (HT1.out.stored HR1.out (by decide) hO5).mono (by omega), hb1.trans (hbl5 _ (by omega))⟩

end Go.Proofs.YtgkkoegfmhgcjaaGreatDoor
