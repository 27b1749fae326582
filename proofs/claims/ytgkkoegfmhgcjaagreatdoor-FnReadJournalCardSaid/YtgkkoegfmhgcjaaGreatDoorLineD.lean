/-
  impl.DeskLine: a desk after a line, and the answer.
-/
import Derived.Test.YtgkkoegfmhgcjaaGreatDoorLineA
namespace Go.Proofs.YtgkkoegfmhgcjaaGreatDoor
open Go.RowKit Go.Shelf

set_option maxRecDepth 100000 in
set_option maxHeartbeats 8000000 in
theorem implDeskLine (d : Pl.Dk) (pv : Value) (A : ByteArray) (w : World) (hp : Ints w pv d.past) (hx : d.past.length ≤ 100000000) (hs : A.size ≤ 1000000000) (hL : LibOk w) :
    Calls Tryz.prog 14 #[.agg #[.int .i64 d.b, .int .i64 d.n, pv], .string A] w (LinePost w (Pl.lineA d A.data.toList)) := by
  obtain ⟨b, m, p⟩ := d
  simp only at hp hx ⊢
  have hp' := hp
  obtain ⟨a0, cap0, rfl, _⟩ := hp'
  have HP := Lib.hid hp
  have HLib := Lib.hid hL
  have hb0 : Below w.heap.size w ((w.alloc (.cells #[.int .i64 b, .int .i64 m, .slice a0 p.length cap0] 30)).alloc (.cells #[.int .i64 0, .int .i64 0, .slice none 0 0] 30)) :=
    ((Below.refl _ w).alloc (Nat.le_refl _) _).alloc (by simp) _
  have hA0 : SBox ((w.alloc (.cells #[.int .i64 b, .int .i64 m, .slice a0 p.length cap0] 30)).alloc (.cells #[.int .i64 0, .int .i64 0, .slice none 0 0] 30)) w.heap.size 30 #[.int .i64 b, .int .i64 m, .slice a0 p.length cap0] :=
    (SBox.new w 30 #[.int .i64 b, .int .i64 m, .slice a0 p.length cap0]).alloc _
  have hR0 : SBox ((w.alloc (.cells #[.int .i64 b, .int .i64 m, .slice a0 p.length cap0] 30)).alloc (.cells #[.int .i64 0, .int .i64 0, .slice none 0 0] 30)) (w.heap.size + 1) 30 #[.int .i64 0, .int .i64 0, .slice none 0 0] := by
    have := SBox.new (w.alloc (.cells #[.int .i64 b, .int .i64 m, .slice a0 p.length cap0] 30)) 30 #[.int .i64 0, .int .i64 0, .slice none 0 0]
    rwa [World.size_alloc] at this
  have hz0 : ((w.alloc (.cells #[.int .i64 b, .int .i64 m, .slice a0 p.length cap0] 30)).alloc (.cells #[.int .i64 0, .int .i64 0, .slice none 0 0] 30)).heap.size = w.heap.size + 1 + 1 := by simp
  have hI0 := hp.below hb0
  have HOK := Lib.hid (fun W (h : Ints W (.slice a0 p.length cap0) p) => implDeskOk ⟨b, m, p⟩ (.slice a0 p.length cap0) W h hx)
  have HCP := Lib.hid (fun W (h : Ints W (.slice a0 p.length cap0) p) => implAlone ⟨b, m, p⟩ (.slice a0 p.length cap0) W h hx)
  have HRD := Lib.hid (fun W h => implReadDeed A hs W h)
  have HDO := Lib.hid (fun k n W (h : Ints W (.slice a0 p.length cap0) p) => implDeskDo ⟨b, m, p⟩ (.slice a0 p.length cap0) k n W h hx)
  simp only at HOK HCP HDO
  clear hL
  go_enter Tryz.func14, Tryz.ntmps14
  go_wp2_with fail
  generalize ((w.alloc (.cells #[.int .i64 b, .int .i64 m, .slice a0 p.length cap0] 30)).alloc (.cells #[.int .i64 0, .int .i64 0, .slice none 0 0] 30)) = w0 at *
  refine (HOK.out _ hI0).mono ?_
  rintro e w1 ⟨rfl, b1⟩
  have HA1 := Lib.hid (hA0.kept b1)
  have HR1 := Lib.hid (hR0.kept b1)
  have hb1 := hb0.trans (b1.mono hb0.size)
  have hz1 : w.heap.size + 2 ≤ w1.heap.size := by have := b1.size; omega
  clear hA0 hR0 hI0 hb0 hz0 b1 HOK hp
  by_cases hok : Pl.dkB ⟨b, m, p⟩ = true
  · rw [hok]
    have hOK : Pl.okB m b = true := ((Pl.dkB_iff _).1 hok).1
    have HAN := Lib.hid (fun pv W h => implAnswer b m p pv A W hOK hs h)
    go_wp2_with fail
    refine (HRD.out _ (HLib.out.below hb1)).mono ?_
    rintro e w3 ⟨rfl, b3⟩
    cases hr : Pl.readL A.data.toList with
    | some q =>
      obtain ⟨k, n⟩ := q
      have HEnd := Lib.hid (Pl.lineA_deed hok hr)
      simp only [Pl.rdK, Pl.rdN, Pl.rdB] at HEnd ⊢
      have HA3 := Lib.hid ((HA1.out.kept b3).alloc (.cells #[.int .i64 k, .int .i64 n] 38))
      have HR3 := Lib.hid ((HR1.out.kept b3).alloc (.cells #[.int .i64 k, .int .i64 n] 38))
      have HE3 := Lib.hid (SBox.new w3 38 #[.int .i64 k, .int .i64 n])
      have b3a := b3.alloc b3.size (.cells #[.int .i64 k, .int .i64 n] 38)
      have hb3 := hb1.trans (b3a.mono hb1.size)
      have HI3 := Lib.hid (HP.out.below hb3)
      have hz3 := hb3.size
      clear HA1 HR1 HRD hb1 b3 hr HAN HCP
      go_wp2_with (first | (refine desk_load rfl _ rfl rfl HA3.out ?_) | (refine deed_load rfl _ rfl rfl HE3.out ?_))
      generalize w3.alloc (.cells #[.int .i64 k, .int .i64 n] 38) = w3a at *
      refine (HDO.out k n _ HI3.out).mono ?_
      rintro e w4 ⟨v4, rfl, o4, _, b4⟩
      have hb4 := hb3.trans (b4.mono hb3.size)
      have HR4' := HR3.out.kept b4
      obtain ⟨a4, n4, c4, rfl⟩ : ∃ a n c, v4 = .slice a n c := by
        rcases o4 with o4 | ⟨g, off, cap, capY, ys, hv, _⟩
        · obtain ⟨a4, c4, rfl⟩ := o4.shape; exact ⟨_, _, _, rfl⟩
        · exact ⟨_, _, _, hv⟩
      have HV4 : (Value.slice a4 n4 c4).oneCell' = true := rfl
      generalize hv4 : Value.slice a4 n4 c4 = v4 at *
      have hz4 : w.heap.size + 2 ≤ w3a.heap.size := by have := b3a.size; omega
      generalize Pl.doA ⟨b, m, p⟩ k n = R at *
      obtain ⟨⟨rb, rn, rp⟩, rt⟩ := R
      simp only at HEnd o4 ⊢
      have HS4 := Lib.hid (SBox.new w4 30 #[.int .i64 rb, .int .i64 rn, v4])
      have HR4 := Lib.hid (HR4'.alloc (.cells #[.int .i64 rb, .int .i64 rn, v4] 30))
      have HO4 := Lib.hid (o4.below ((Below.refl _ w4).alloc (Nat.le_refl _) (.cells #[.int .i64 rb, .int .i64 rn, v4] 30)))
      have hb4a := hb4.alloc hb4.size (.cells #[.int .i64 rb, .int .i64 rn, v4] 30)
      rw [← hv4] at *
      clear o4 HR4' b4 hb4 HI3 HR3 HE3 HA3 HDO
      cases rt
      all_goals
        go_wp2_with (first | (refine desk_load rfl _ rfl rfl HS4.out ?_) | (refine desk_store rfl _ _ rfl rfl rfl HV4 HR4.out ?_; intro w5 hS5 hbl5 hsz5 hO5))
        refine bodyPost_ret (results_cell_tmp rfl _ _ (w.heap.size + 1) #[.int .i64 rb, .int .i64 rn, Value.slice a4 n4 c4] _ _ rfl rfl hS5 rfl Tryz.underlying30 (by rw [size_desk]; rfl)) rfl ?_
        rw [HEnd.out]
        exact ⟨_, rfl, (HO4.out.stored HR4.out (by decide) hO5).mono (by omega), hb4a.trans (hbl5 w.heap.size (by omega))⟩
    | none =>
      have HEnd := Lib.hid (Pl.lineA_ask hok hr)
      simp only [Pl.rdK, Pl.rdN, Pl.rdB] at ⊢
      have b3a := b3.alloc b3.size (.cells #[.int .i64 0, .int .i64 0] 38)
      have HA3 := (HA1.out.kept b3).alloc (.cells #[.int .i64 0, .int .i64 0] 38)
      have HR3 := (HR1.out.kept b3).alloc (.cells #[.int .i64 0, .int .i64 0] 38)
      have hb3 := hb1.trans (b3a.mono hb1.size)
      have hz3 : w.heap.size + 2 ≤ (w3.alloc (.cells #[.int .i64 0, .int .i64 0] 38)).heap.size := by have := b3a.size; omega
      clear HA1 HR1 HRD hb1 b3 hr HDO b3a
      go_wp2_with fail
      generalize w3.alloc (.cells #[.int .i64 0, .int .i64 0] 38) = W at *
      refine wp_region_tq (w.heap.size + 1) 5 (fun W' => ∃ u, SBox W' (w.heap.size + 1) 30 #[.int .i64 b, .int .i64 m, u] ∧ Row W.heap.size W' u p) (fun _ _ ⟨u, h, hr⟩ hb => ⟨u, h.kept hb, hr.below hb⟩)
        (fun t => match t with | 1 => some (.is (.string A)) | 2 => some (.is (.pointer (some ⟨w.heap.size, 0, none⟩))) | 4 => some (.is (.pointer (some ⟨w.heap.size + 1, 0, none⟩))) | 5 => some (.is (.string (Pl.str (Pl.ansL ⟨b, m, p⟩ A.data.toList)))) | 21 => some (.is (.agg #[.int .i64 b, .int .i64 m, .slice a0 p.length cap0])) | 22 => some (.desk W.heap.size b m p) | 23 => some (.is (.agg #[.int .i64 b, .int .i64 m, .slice a0 p.length cap0])) | 24 => some (.is (.string A)) | 25 => some (.is (.string (Pl.str (Pl.ansL ⟨b, m, p⟩ A.data.toList)))) | _ => none) mixed (by decide) (by kernel_rfl) ?_ ?_ ?_ ?_
      · intro t z h hn
        split at h <;> first | (cases h; done) | (cases h; rfl) | exact absurd (by decide) hn
      · intro i o hne hio a W' hin hgr
        have hbW : Below w.heap.size w W' := hb3.grown hgr hb3.size fun k e => by cases e; omega
        rcases i with _ | _ | _ | _ | _ | _ | _ | i
        all_goals first
          | (cases hio; done)
          | exact absurd rfl hne
          | (obtain rfl := Option.some.inj hio)
        · refine ⟨_, fun d hd => by cases hd; rfl, ?_⟩
          exact tn_load rfl (hin 2 _ (by simp [Op.operands]) rfl) (HA3.grown hgr (by simp)) rfl rfl
        · refine ⟨_, fun d hd => by cases hd; rfl, ?_⟩
          have e21 : a.eval (.tmp 21) = .agg #[.int .i64 b, .int .i64 m, .slice a0 p.length cap0] := hin 21 _ (by simp [Op.operands, Call.operands]) rfl
          refine tn_call rfl rfl (enters_of Tryz.func51 (by kernel_rfl) rfl) (args := #[.agg #[.int .i64 b, .int .i64 m, .slice a0 p.length cap0]]) (by show #[a.eval (.tmp 21)] = _; rw [e21]) ?_
          refine (HCP.out W' (HP.out.below hbW)).mono ?_
          rintro e W2 ⟨v, rfl, hr, hb⟩
          exact ⟨_, rfl, ⟨by omega, v, rfl, hr.mono hgr.size⟩, hb⟩
        · refine ⟨_, fun d hd => by cases hd; rfl, ?_⟩
          exact tn_load rfl (hin 2 _ (by simp [Op.operands]) rfl) (HA3.grown hgr (by simp)) rfl rfl
        · refine ⟨_, fun d hd => by cases hd; rfl, ?_⟩
          exact tn_copy (.inl rfl) (hin 1 _ (by simp [Op.operands]) rfl)
        · refine ⟨_, fun d hd => by cases hd; rfl, ?_⟩
          have e23 : a.eval (.tmp 23) = .agg #[.int .i64 b, .int .i64 m, .slice a0 p.length cap0] := hin 23 _ (by simp [Op.operands, Call.operands]) rfl
          have e24 : a.eval (.tmp 24) = .string A := hin 24 _ (by simp [Op.operands, Call.operands]) rfl
          refine tn_call rfl rfl (enters_of Tryz.func52 (by kernel_rfl) rfl) (args := #[.agg #[.int .i64 b, .int .i64 m, .slice a0 p.length cap0], .string A]) (by show #[a.eval (.tmp 23), a.eval (.tmp 24)] = _; rw [e23, e24]) ?_
          refine (HAN.out _ W' (HLib.out.below hbW)).mono ?_
          rintro e W2 ⟨rfl, hb⟩
          exact ⟨_, rfl, rfl, hb⟩
        · refine ⟨_, fun d hd => by cases hd; rfl, ?_⟩
          exact tn_copy (.inr rfl) (hin 25 _ (by simp [Op.operands]) rfl)
      · intro o ho a W' hin hb
        obtain rfl := Option.some.inj ho
        obtain ⟨hB, u, hu, hrow⟩ := hin 22 _ (by simp [Op.operands]) rfl
        obtain ⟨au, cu, hus⟩ := hrow.shape
        exact tn_store rfl rfl (hin 4 _ (by simp [Op.operands]) rfl) hu (by rw [hus]; rfl) (HR3.kept hb) rfl (fun W2 hS hg => ⟨u, hS, hrow.turned hB hg⟩)
      · rintro f W' hin hold ⟨u, hS, hrow⟩ hgr
        have h4 : f 4 = .pointer (some ⟨w.heap.size + 1, 0, none⟩) := hin 4 _ rfl
        have h5 : f 5 = .string (Pl.str (Pl.ansL ⟨b, m, p⟩ A.data.toList)) := hin 5 _ rfl
        go_wp2
        refine bodyPost_ret (results_cell_tmp rfl _ _ (w.heap.size + 1) #[.int .i64 b, .int .i64 m, u] _ (.string (Pl.str (Pl.ansL ⟨b, m, p⟩ A.data.toList))) ((slot_of f (by decide : 4 < 36)).trans h4) ((slot_of f (by decide : 5 < 36)).trans h5) hS rfl Tryz.underlying30 (by rw [size_desk]; rfl)) rfl ?_
        rw [HEnd.out]
        exact ⟨u, rfl, .inl (hrow.mono (by omega)), hb3.grown hgr hb3.size fun k e => by cases e; omega⟩
  · have HEnd := Lib.hid (Pl.lineA_no hok A.data.toList)
    have hf : Pl.dkB ⟨b, m, p⟩ = false := by simpa using hok
    rw [hf]
    clear hok hf HRD HDO HA1
    go_wp2_with (first | (refine desk_store rfl _ _ rfl rfl rfl rfl HR1.out ?_; intro w5 hS5 hbl5 hsz5 hO5))
    refine bodyPost_ret (results_cell_tmp rfl _ _ (w.heap.size + 1) #[.int .i64 0, .int .i64 0, .slice none 0 0] _ _ rfl rfl hS5 rfl Tryz.underlying30 (by rw [size_desk]; rfl)) rfl ?_
    rw [HEnd.out]
    exact ⟨.slice none 0 0, rfl, .inl (World.ownsRow_nil _ _ _ _), hb1.trans (hbl5 w.heap.size (by omega))⟩

end Go.Proofs.YtgkkoegfmhgcjaaGreatDoor
