/-
  spec.DeskLine: a desk after a line, and the answer.
-/
import Derived.Test.YtgkkoegfmhgcjaaGreatDoorSpecLine
import Derived.Test.YtgkkoegfmhgcjaaGreatDoorTurnReg
import Derived.Test.YtgkkoegfmhgcjaaGreatDoorGDesk
import Derived.Test.YtgkkoegfmhgcjaaGreatDoorGDeskI
import Derived.Test.YtgkkoegfmhgcjaaGreatDoorGRound
import Derived.Test.YtgkkoegfmhgcjaaGreatDoorGSelf
import Derived.Test.YtgkkoegfmhgcjaaGreatDoorGCarry
import Derived.Test.YtgkkoegfmhgcjaaGreatDoorGOver
namespace Go.Proofs.YtgkkoegfmhgcjaaGreatDoor
open Go.RowKit Go.Shelf

/-- A call that hands back a desk in new memory, and an answer. -/
def LinePost (w : World) (r : Pl.Dk × List UInt8) (e : Ending) (w' : World) : Prop :=
  ∃ v, e = .returned (.tuple #[.agg #[.int .i64 r.1.b, .int .i64 r.1.n, v], .string (Pl.str r.2)]) ∧ OwnTail w.heap.size w' v r.1.past ∧ Below w.heap.size w w'

theorem line_end {w W2 W : World} {g B : Nat} {b m : Int} {p : List Int} {v2 : Value} {ans : List UInt8} {R : Pl.Dk × List UInt8} (hb : Below w.heap.size w W2) (hg : w.heap.size ≤ g) (hr : Row B W2 v2 p) (hB : g < B) (hgr : W2.grownBy W (some g)) (hR : R = (⟨b, m, p⟩, ans)) :
    LinePost w R (.returned (.tuple #[.agg #[.int .i64 b, .int .i64 m, v2], .string (Pl.str ans)])) W := by
  subst hR
  exact ⟨v2, rfl, .inl ((hr.turned hB hgr).mono (by omega)), hb.grown hgr hb.size fun k e => by cases e; exact hg⟩
theorem len_two {α : Type} : ∀ {l : List α}, l.length = 2 → ∃ x y, l = [x, y]
  | [x, y], _ => ⟨x, y, rfl⟩
theorem ansL_at (d : Pl.Dk) (line : List UInt8) (j : Nat) (h : Pl.askW.findIdx? (· == line) = some j) : Pl.ansL d line = Pl.ask1 d j := by rw [Pl.ansL, h]
theorem word_no {A : ByteArray} {b : List UInt8} (h : A.data.toList ≠ b) : (A.toList == b) = false := by
  rw [Lib.toList_data]; exact beq_eq_false_iff_ne.2 h
theorem word_yes {A : ByteArray} {b : List UInt8} (h : A.data.toList = b) : (A.toList == b) = true := by
  rw [Lib.toList_data, h]; exact beq_self_eq_true b
theorem grown_but {W W' : World} {g : Nat} (hb : Below g W W') (hs : W'.heap.size = W.heap.size) (ho : ∀ i, i ≠ g → W'.heap[i]? = W.heap[i]?) : W.grownBy W' (some g) :=
  ⟨hb.os, hb.tape, hb.output, by omega, fun k _ hk => ho k (fun e => hk (by rw [e]))⟩
theorem sbox_calm {W W' : World} {g : Nat} {T : TypeId} {cs : Array Value} (h : SBox W g T cs) (hb : Below W.heap.size W W') : SBox W' g T cs := h.kept hb

theorem specNumberI (n : Int) (h : 0 ≤ n ∧ n ≤ 1000000000000) (w : World) :
    Calls Tryz.prog 63 #[.int .i64 n] w fun e w' => ∃ v, e = .returned v ∧ v = .string (Pl.str (Pl.decI n)) ∧ Below w.heap.size w w' := by
  obtain ⟨u, rfl⟩ := Int.eq_ofNat_of_zero_le h.1
  refine (specNumber u (by omega) w).mono ?_
  rintro e w' ⟨rfl, b⟩
  exact ⟨_, rfl, rfl, b⟩
theorem specRowI (B : Nat) (v : Value) (xs : List Int) (w : World) (hv : Row B w v xs) (hf : Pl.Few xs) (hx : xs.length ≤ 30000000) :
    Calls Tryz.prog 64 #[v] w fun e w' => ∃ u, e = .returned u ∧ u = .string (Pl.str (Pl.rowT xs)) ∧ Below w.heap.size w w' :=
  (specRow v xs w hv.ints hf hx).mono fun _ _ ⟨h, b⟩ => ⟨_, h, rfl, b⟩
theorem specSaidI (x : Bool) (w : World) :
    Calls Tryz.prog 68 #[.bool x] w fun e w' => ∃ u, e = .returned u ∧ u = .string (Pl.str (Pl.saidL x)) ∧ Below w.heap.size w w' :=
  (specSaid x w).mono fun _ _ ⟨h, b⟩ => ⟨_, h, rfl, b ▸ Below.refl _ _⟩
section
variable {o : Oper} {a : Act} {W : World} {Q : Exit → Act → World → Prop}
theorem tn_index {x : Operand} {b n cap k : Nat} (ho : o.op = .indexAddr 47 x (.const (.int .i64 k))) (hx : a.eval x = .slice (some ⟨b, 0, none⟩) n cap) (hk : k < n) :
    o.wp Tryz.prog a W (TnPost (fun v _ => v = .pointer (some ⟨b, k, none⟩)) o a W) Q := by
  have e1 : (0 : Int) ≤ (k : Int) := by omega
  have e2 : (k : Int) < (n : Int) := by omega
  have e3 : a.eval (.const (.int .i64 k)) = .int .i64 k := rfl
  unfold Oper.wp
  simp only [execOp, ho]
  rw [hx, e3]
  simp [go_sem, e1, e2]
  exact ⟨_, rfl, rfl, Below.refl _ _⟩
theorem tn_loadS {x : Operand} {b k : Nat} {s : ByteArray} (ho : o.op = .load 9 x) (hx : a.eval x = .pointer (some ⟨b, k, none⟩)) (hc : W.cell? ⟨b, k, none⟩ = some (.string s)) :
    o.wp Tryz.prog a W (TnPost (fun v _ => v = .string s) o a W) Q := by
  unfold Oper.wp
  simp only [execOp, ho]
  rw [hx]
  simp [go_sem, hc]
  exact ⟨_, rfl, rfl, Below.refl _ _⟩
end

set_option maxRecDepth 100000 in
set_option maxHeartbeats 16000000 in
theorem specDeskLine (d : Pl.Dk) (pv : Value) (A : ByteArray) (w : World) (hp : Ints w pv d.past) (hx : d.past.length ≤ 100000000) (hs : A.size ≤ 1000000000) :
    Calls Tryz.prog 21 #[.agg #[.int .i64 d.b, .int .i64 d.n, pv], .string A] w (LinePost w (Pl.lineA d A.data.toList)) := by
  obtain ⟨b, m, p⟩ := d
  simp only at hp hx ⊢
  have hp' := hp
  obtain ⟨a0, cap0, rfl, _⟩ := hp'
  have hb0 : Below w.heap.size w ((w.alloc (.cells #[.int .i64 b, .int .i64 m, .slice a0 p.length cap0] 30)).alloc (.cells #[.int .i64 0, .int .i64 0, .slice none 0 0] 30)) :=
    ((Below.refl _ w).alloc (Nat.le_refl _) _).alloc (by simp) _
  have hA0 : SBox ((w.alloc (.cells #[.int .i64 b, .int .i64 m, .slice a0 p.length cap0] 30)).alloc (.cells #[.int .i64 0, .int .i64 0, .slice none 0 0] 30)) w.heap.size 30 #[.int .i64 b, .int .i64 m, .slice a0 p.length cap0] :=
    (SBox.new w 30 #[.int .i64 b, .int .i64 m, .slice a0 p.length cap0]).alloc _
  have hR0 : SBox ((w.alloc (.cells #[.int .i64 b, .int .i64 m, .slice a0 p.length cap0] 30)).alloc (.cells #[.int .i64 0, .int .i64 0, .slice none 0 0] 30)) (w.heap.size + 1) 30 #[.int .i64 0, .int .i64 0, .slice none 0 0] := by
    have := SBox.new (w.alloc (.cells #[.int .i64 b, .int .i64 m, .slice a0 p.length cap0] 30)) 30 #[.int .i64 0, .int .i64 0, .slice none 0 0]
    rwa [World.size_alloc] at this
  have hz0 : ((w.alloc (.cells #[.int .i64 b, .int .i64 m, .slice a0 p.length cap0] 30)).alloc (.cells #[.int .i64 0, .int .i64 0, .slice none 0 0] 30)).heap.size = w.heap.size + 1 + 1 := by simp
  have hI0 := hp.below hb0
  have HOK := Lib.hid (fun W (h : Ints W (.slice a0 p.length cap0) p) => specDeskOk ⟨b, m, p⟩ (.slice a0 p.length cap0) W h (Nat.le_trans hx (by omega)))
  have HCP := Lib.hid (fun W (h : Ints W (.slice a0 p.length cap0) p) => spec12Copy ⟨b, m, p⟩ (.slice a0 p.length cap0) W h hx)
  have HRD := Lib.hid (fun W => specReadDeed A hs W)
  have HDO := Lib.hid (fun k n W (h : Ints W (.slice a0 p.length cap0) p) => specDeskDo ⟨b, m, p⟩ (.slice a0 p.length cap0) k n W h hx)
  simp only at HOK HCP HDO
  go_enter Tryz.func21, Tryz.ntmps21
  go_wp2_with fail
  generalize ((w.alloc (.cells #[.int .i64 b, .int .i64 m, .slice a0 p.length cap0] 30)).alloc (.cells #[.int .i64 0, .int .i64 0, .slice none 0 0] 30)) = w0 at *
  refine (HOK.out _ hI0).mono ?_
  rintro e w1 ⟨rfl, b1⟩
  have HA1 := Lib.hid (hA0.kept b1)
  have HR1 := Lib.hid (hR0.kept b1)
  have HI1 := Lib.hid (hI0.below b1)
  have hb1 := hb0.trans (b1.mono hb0.size)
  have hz1 : w.heap.size + 2 ≤ w1.heap.size := by have := b1.size; omega
  clear hA0 hR0 hI0 hb0 hz0 b1 HOK hp
  by_cases hok : Pl.dkB ⟨b, m, p⟩ = true
  · rw [hok]
    have hOK : Pl.okB m b = true := ((Pl.dkB_iff _).1 hok).1
    go_wp2_with (refine desk_load rfl _ rfl rfl HA1.out ?_)
    refine (HCP.out _ HI1.out).mono ?_
    rintro e w2 ⟨v2, rfl, r2', b2⟩
    have r2 : Row w1.heap.size w2 v2 p := r2'
    clear r2'
    have HV1 : v2.oneCell' = true := by obtain ⟨a2, c2, rfl⟩ := r2.shape; rfl
    obtain ⟨a2, c2, hv2⟩ := r2.shape
    have HA2 := Lib.hid ((HA1.out.kept b2).alloc (.cells #[.int .i64 b, .int .i64 m, v2] 30))
    have HR2 := Lib.hid ((HR1.out.kept b2).alloc (.cells #[.int .i64 b, .int .i64 m, v2] 30))
    have HI2 := Lib.hid ((HI1.out.below b2).below ((Below.refl _ w2).alloc (Nat.le_refl _) (.cells #[.int .i64 b, .int .i64 m, v2] 30)))
    have HV2 := Lib.hid (r2.below ((Below.refl _ w2).alloc (Nat.le_refl _) (.cells #[.int .i64 b, .int .i64 m, v2] 30)))
    have HS2 := Lib.hid (SBox.new w2 30 #[.int .i64 b, .int .i64 m, v2])
    have hb2' := hb1.trans (b2.mono hb1.size)
    have hb2 := hb2'.alloc hb2'.size (.cells #[.int .i64 b, .int .i64 m, v2] 30)
    have hz2 := b2.size
    have hz2a : w.heap.size + 3 ≤ (w2.alloc (.cells #[.int .i64 b, .int .i64 m, v2] 30)).heap.size := by simp; omega
    rw [hv2] at HA2 HR2 HI2 HV2 HS2 hb2 hz2a ⊢
    clear HA1 HR1 HI1 HCP hb1 hb2' b2 r2
    go_wp2_with fail
    rw [← hv2] at HA2 HR2 HI2 HV2 HS2 hb2 hz2a ⊢
    clear hv2
    generalize w2.alloc (.cells #[.int .i64 b, .int .i64 m, v2] 30) = w2a at *
    generalize hS6 : w2.heap.size = S6 at *
    refine (HRD.out _).mono ?_
    rintro e w3 ⟨rfl, b3⟩
    cases hr : Pl.readL A.data.toList with
    | some q =>
      obtain ⟨k, n⟩ := q
      have HEnd := Lib.hid (Pl.lineA_deed hok hr)
      simp only [Pl.rdK, Pl.rdN, Pl.rdB] at HEnd ⊢
      have HA3 := Lib.hid ((HA2.out.kept b3).alloc (.cells #[.int .i64 k, .int .i64 n] 38))
      have HR3 := Lib.hid ((HR2.out.kept b3).alloc (.cells #[.int .i64 k, .int .i64 n] 38))
      have HE3 := Lib.hid (SBox.new w3 38 #[.int .i64 k, .int .i64 n])
      have b3a := b3.alloc b3.size (.cells #[.int .i64 k, .int .i64 n] 38)
      have HI3 := Lib.hid (HI2.out.below b3a)
      have hb3 := hb2.trans (b3a.mono hb2.size)
      have hz3 := hb3.size
      clear HA2 HR2 HI2 HV2 HS2 HRD hb2 b3 hr
      go_wp2_with (first | (refine desk_load rfl _ rfl rfl HA3.out ?_) | (refine deed_load rfl _ rfl rfl HE3.out ?_))
      generalize w3.alloc (.cells #[.int .i64 k, .int .i64 n] 38) = w3a at *
      refine (HDO.out k n _ HI3.out).mono ?_
      rintro e w4 ⟨v4, rfl, o4, _, b4⟩
      have hb4 := hb3.trans (b4.mono hb3.size)
      have HR4' := HR3.out.kept b4
      obtain ⟨a4, n4, c4, rfl⟩ : ∃ a n c, v4 = .slice a n c := by
        rcases o4 with o4 | ⟨g, off, cap, capY, ys, hv, _⟩
        · obtain ⟨a4, c4, rfl⟩ := o4.shape; exact ⟨_, _, _, rfl⟩
        · exact ⟨_, _, _, hv⟩
      have HV4 : (Value.slice a4 n4 c4).oneCell' = true := rfl
      generalize hv4 : Value.slice a4 n4 c4 = v4 at *
      have hz4 : w.heap.size + 2 ≤ w3a.heap.size := by have := b3a.size; omega
      generalize Pl.doA ⟨b, m, p⟩ k n = R at *
      obtain ⟨⟨rb, rn, rp⟩, rt⟩ := R
      simp only at HEnd o4 ⊢
      have HS4 := Lib.hid (SBox.new w4 30 #[.int .i64 rb, .int .i64 rn, v4])
      have HR4 := Lib.hid (HR4'.alloc (.cells #[.int .i64 rb, .int .i64 rn, v4] 30))
      have HO4 := Lib.hid (o4.below ((Below.refl _ w4).alloc (Nat.le_refl _) (.cells #[.int .i64 rb, .int .i64 rn, v4] 30)))
      have hb4a := hb4.alloc hb4.size (.cells #[.int .i64 rb, .int .i64 rn, v4] 30)
      rw [← hv4] at *
      clear o4 HR4' b4 hb4 HI3 HR3 HE3 HA3 HDO
      cases rt
      all_goals
        go_wp2_with (first | (refine desk_load rfl _ rfl rfl HS4.out ?_) | (refine desk_store rfl _ _ rfl rfl rfl HV4 HR4.out ?_; intro w5 hS5 hbl5 hsz5 hO5))
        refine bodyPost_ret (results_cell_tmp rfl _ _ (w.heap.size + 1) #[.int .i64 rb, .int .i64 rn, Value.slice a4 n4 c4] _ _ rfl rfl hS5 rfl Tryz.underlying30 (by rw [size_desk]; rfl)) rfl ?_
        rw [HEnd.out]
        exact ⟨_, rfl, (HO4.out.stored HR4.out (by decide) hO5).mono (by omega), hb4a.trans (hbl5 w.heap.size (by omega))⟩
    | none =>
      have HEnd := Lib.hid (Pl.lineA_ask hok hr)
      simp only [Pl.rdK, Pl.rdN, Pl.rdB] at ⊢
      have b3a := b3.alloc b3.size (.cells #[.int .i64 0, .int .i64 0] 38)
      have HA3 := (HA2.out.kept b3).alloc (.cells #[.int .i64 0, .int .i64 0] 38)
      have HR4 := (HR2.out.kept b3).alloc (.cells #[.int .i64 0, .int .i64 0] 38)
      have HS3 := (HS2.out.kept b3).alloc (.cells #[.int .i64 0, .int .i64 0] 38)
      have HV3 := HV2.out.below b3a
      have hb3 := hb2.trans (b3a.mono hb2.size)
      have hz3 := hb3.size
      have ac0 := HA3.cell 0
      have ac1 := HA3.cell 1
      have hz4 : S6 < (w3.alloc (.cells #[.int .i64 0, .int .i64 0] 38)).heap.size := HS3.lt
      have HFin := Lib.hid (fun (g : Nat) (hg : g = w.heap.size + 1) (ans : List UInt8) (W' : World) (hgr : (w3.alloc (.cells #[.int .i64 0, .int .i64 0] 38)).grownBy W' (some g)) (hR : Pl.lineA ⟨b, m, p⟩ A.data.toList = (⟨b, m, p⟩, ans)) =>
        line_end hb3 (g := g) (by omega) HV3 (by omega) hgr hR)
      have hm9 : 0 ≤ m ∧ m ≤ 1000000000000 := by have := Pl.okB_whole hOK; omega
      have hne6 : S6 ≠ w.heap.size + 1 := by omega
      clear HA3 HA2 HR2 HI2 HV2 HS2 HRD hb2 b3 hr HDO b3a hb3
      go_upto_region 12 with (fail)
      generalize w3.alloc (.cells #[.int .i64 0, .int .i64 0] 38) = W at *
      clear ac0 ac1
      have HS := HS3
      rcases Pl.ask_or A.data.toList with ⟨⟨j, hj⟩, hi⟩ | ⟨hno, hnone⟩
      · rcases j with _ | _ | _ | _ | _ | _ | _ | _ | _ | _ | j
        · -- number
          replace hi : A.data.toList = [110, 117, 109, 98, 101, 114] := hi
          have q0 : (A.toList == ([110, 117, 109, 98, 101, 114] : List UInt8)) = true := word_yes (b := [110, 117, 109, 98, 101, 114]) hi
          go_wp2_with fail
          refine wp_region_tq (w.heap.size + 1) 3 (fun W' => SBox W' (w.heap.size + 1) 30 #[.int .i64 b, .int .i64 m, v2]) (fun _ _ h hb => h.kept hb)
            (fun t => match t with | 4 => some (.is (.pointer (some ⟨w.heap.size + 1, 0, none⟩))) | 5 => some (.is (.string (Pl.str (Pl.decI m)))) | 6 => some (.is (.pointer (some ⟨S6, 0, none⟩))) | 11 => some (.is (.int .i64 m)) | 12 => some (.is (.int .i64 b)) | 49 => some (.is (.agg #[.int .i64 b, .int .i64 m, v2])) | 50 => some (.is (.int .i64 m)) | 51 => some (.is (.string (Pl.str (Pl.decI m)))) | _ => none) mixed (by decide) (by kernel_rfl) ?_ ?_ ?_ ?_
          · intro t z h hn
            split at h <;> first | (cases h; done) | (cases h; rfl) | exact absurd (by decide) hn
          · intro i o hne hio a W' hin hgr
            rcases i with _ | _ | _ | _ | _ | i
            all_goals first
              | (cases hio; done)
              | exact absurd rfl hne
              | (obtain rfl := Option.some.inj hio)
            · refine ⟨_, fun d hd => by cases hd; rfl, ?_⟩
              exact tn_load rfl (hin 6 _ (by simp [Op.operands]) rfl) (HS.grown hgr (by simp; omega)) rfl rfl
            · refine ⟨_, fun d hd => by cases hd; rfl, ?_⟩
              exact tn_copy (.inl rfl) (hin 11 _ (by simp [Op.operands]) rfl)
            · refine ⟨_, fun d hd => by cases hd; rfl, ?_⟩
              have e50 : a.eval (.tmp 50) = .int .i64 m := hin 50 _ (by simp [Op.operands, Call.operands]) rfl
              refine tn_call rfl rfl (enters_of Tryz.func63 (by kernel_rfl) rfl) (args := #[.int .i64 m]) (by show #[a.eval (.tmp 50)] = _; rw [e50]) ?_
              exact specNumberI m hm9 W'
            · refine ⟨_, fun d hd => by cases hd; rfl, ?_⟩
              exact tn_copy (.inr rfl) (hin 51 _ (by simp [Op.operands]) rfl)
          · intro o ho a W' hin hb
            obtain rfl := Option.some.inj ho
            exact tn_store rfl rfl (hin 4 _ (by simp [Op.operands]) rfl) (hin 49 _ (by simp [Op.operands]) rfl) HV1 (HR4.kept hb) rfl (fun _ hS _ => hS)
          · intro f W' hin hold hS hgr
            have h4 : f 4 = .pointer (some ⟨w.heap.size + 1, 0, none⟩) := hin 4 _ rfl
            have h5 : f 5 = .string (Pl.str (Pl.decI m)) := hin 5 _ rfl
            go_wp2
            refine bodyPost_ret (results_cell_tmp rfl _ _ (w.heap.size + 1) #[.int .i64 b, .int .i64 m, v2] _ (.string (Pl.str (Pl.decI m))) ((slot_of f (by decide : 4 < 166)).trans h4) ((slot_of f (by decide : 5 < 166)).trans h5) hS rfl Tryz.underlying30 (by rw [size_desk]; rfl)) rfl ?_
            exact HFin.out _ rfl _ _ hgr (by rw [HEnd.out, hi]; exact congrArg (Prod.mk _) (ansL_at ⟨b, m, p⟩ _ 0 (by decide)))
        · -- digits
          replace hi : A.data.toList = [100, 105, 103, 105, 116, 115] := hi
          have q0 : (A.toList == ([110, 117, 109, 98, 101, 114] : List UInt8)) = false := word_no (b := [110, 117, 109, 98, 101, 114]) (by rw [hi]; decide)
          have q1 : (A.toList == ([100, 105, 103, 105, 116, 115] : List UInt8)) = true := word_yes (b := [100, 105, 103, 105, 116, 115]) hi
          go_wp2_with fail
          refine wp_region_tq (w.heap.size + 1) 5 (fun W' => SBox W' (w.heap.size + 1) 30 #[.int .i64 b, .int .i64 m, v2]) (fun _ _ h hb => h.kept hb)
            (fun t => match t with | 4 => some (.is (.pointer (some ⟨w.heap.size + 1, 0, none⟩))) | 5 => some (.is (.string (Pl.str (Pl.rowT (Pl.digA m b))))) | 6 => some (.is (.pointer (some ⟨S6, 0, none⟩))) | 11 => some (.is (.int .i64 m)) | 12 => some (.is (.int .i64 b)) | 54 => some (.is (.agg #[.int .i64 b, .int .i64 m, v2])) | 55 => some (.is (.int .i64 m)) | 56 => some (.is (.int .i64 b)) | 57 => some (.row W.heap.size (Pl.digA m b)) | 58 => some (.is (.string (Pl.str (Pl.rowT (Pl.digA m b))))) | _ => none) mixed (by decide) (by kernel_rfl) ?_ ?_ ?_ ?_
          · intro t z h hn
            split at h <;> first | (cases h; done) | (cases h; rfl) | exact absurd (by decide) hn
          · intro i o hne hio a W' hin hgr
            rcases i with _ | _ | _ | _ | _ | _ | _ | i
            all_goals first
              | (cases hio; done)
              | exact absurd rfl hne
              | (obtain rfl := Option.some.inj hio)
            · refine ⟨_, fun d hd => by cases hd; rfl, ?_⟩
              exact tn_load rfl (hin 6 _ (by simp [Op.operands]) rfl) (HS.grown hgr (by simp; omega)) rfl rfl
            · refine ⟨_, fun d hd => by cases hd; rfl, ?_⟩
              exact tn_copy (.inl rfl) (hin 11 _ (by simp [Op.operands]) rfl)
            · refine ⟨_, fun d hd => by cases hd; rfl, ?_⟩
              exact tn_copy (.inl rfl) (hin 12 _ (by simp [Op.operands]) rfl)
            · refine ⟨_, fun d hd => by cases hd; rfl, ?_⟩
              have e55 : a.eval (.tmp 55) = .int .i64 m := hin 55 _ (by simp [Op.operands, Call.operands]) rfl
              have e56 : a.eval (.tmp 56) = .int .i64 b := hin 56 _ (by simp [Op.operands, Call.operands]) rfl
              refine tn_call rfl rfl (enters_of Tryz.func65 (by kernel_rfl) rfl) (args := #[.int .i64 m, .int .i64 b]) (by show #[a.eval (.tmp 55), a.eval (.tmp 56)] = _; rw [e55, e56]) ?_
              refine (specDigitsOf m b W').mono ?_
              rintro e W2 ⟨v, rfl, hr, hb⟩
              exact ⟨v, rfl, ⟨by omega, hr.mono hgr.size⟩, hb⟩
            · refine ⟨_, fun d hd => by cases hd; rfl, ?_⟩
              obtain ⟨_, hrow⟩ := hin 57 _ (by simp [Op.operands, Call.operands]) rfl
              exact tn_call rfl rfl (enters_of Tryz.func64 (by kernel_rfl) rfl) (args := #[a.eval (.tmp 57)]) rfl (specRowI _ _ _ W' hrow (Pl.dig_few hOK).1 (Nat.le_trans (Pl.digA_len30 m b) (by omega)))
            · refine ⟨_, fun d hd => by cases hd; rfl, ?_⟩
              exact tn_copy (.inr rfl) (hin 58 _ (by simp [Op.operands]) rfl)
          · intro o ho a W' hin hb
            obtain rfl := Option.some.inj ho
            exact tn_store rfl rfl (hin 4 _ (by simp [Op.operands]) rfl) (hin 54 _ (by simp [Op.operands]) rfl) HV1 (HR4.kept hb) rfl (fun _ hS _ => hS)
          · intro f W' hin hold hS hgr
            have h4 : f 4 = .pointer (some ⟨w.heap.size + 1, 0, none⟩) := hin 4 _ rfl
            have h5 : f 5 = .string (Pl.str (Pl.rowT (Pl.digA m b))) := hin 5 _ rfl
            go_wp2
            refine bodyPost_ret (results_cell_tmp rfl _ _ (w.heap.size + 1) #[.int .i64 b, .int .i64 m, v2] _ (.string (Pl.str (Pl.rowT (Pl.digA m b)))) ((slot_of f (by decide : 4 < 166)).trans h4) ((slot_of f (by decide : 5 < 166)).trans h5) hS rfl Tryz.underlying30 (by rw [size_desk]; rfl)) rfl ?_
            exact HFin.out _ rfl _ _ hgr (by rw [HEnd.out, hi, Pl.rowT, if_neg (Pl.dig_few hOK).2]; exact congrArg (Prod.mk _) (ansL_at ⟨b, m, p⟩ _ 1 (by decide)))
        · -- root
          replace hi : A.data.toList = [114, 111, 111, 116] := hi
          have q0 : (A.toList == ([110, 117, 109, 98, 101, 114] : List UInt8)) = false := word_no (b := [110, 117, 109, 98, 101, 114]) (by rw [hi]; decide)
          have q1 : (A.toList == ([100, 105, 103, 105, 116, 115] : List UInt8)) = false := word_no (b := [100, 105, 103, 105, 116, 115]) (by rw [hi]; decide)
          have q2 : (A.toList == ([114, 111, 111, 116] : List UInt8)) = true := word_yes (b := [114, 111, 111, 116]) hi
          go_wp2_with fail
          refine wp_region_tq (w.heap.size + 1) 5 (fun W' => SBox W' (w.heap.size + 1) 30 #[.int .i64 b, .int .i64 m, v2]) (fun _ _ h hb => h.kept hb)
            (fun t => match t with | 4 => some (.is (.pointer (some ⟨w.heap.size + 1, 0, none⟩))) | 5 => some (.is (.string (Pl.str (Pl.decI (Pl.rootI m b))))) | 6 => some (.is (.pointer (some ⟨S6, 0, none⟩))) | 11 => some (.is (.int .i64 m)) | 12 => some (.is (.int .i64 b)) | 61 => some (.is (.agg #[.int .i64 b, .int .i64 m, v2])) | 62 => some (.is (.int .i64 m)) | 63 => some (.is (.int .i64 b)) | 64 => some (.is (.int .i64 (Pl.rootI m b))) | 65 => some (.is (.string (Pl.str (Pl.decI (Pl.rootI m b))))) | _ => none) mixed (by decide) (by kernel_rfl) ?_ ?_ ?_ ?_
          · intro t z h hn
            split at h <;> first | (cases h; done) | (cases h; rfl) | exact absurd (by decide) hn
          · intro i o hne hio a W' hin hgr
            rcases i with _ | _ | _ | _ | _ | _ | _ | i
            all_goals first
              | (cases hio; done)
              | exact absurd rfl hne
              | (obtain rfl := Option.some.inj hio)
            · refine ⟨_, fun d hd => by cases hd; rfl, ?_⟩
              exact tn_load rfl (hin 6 _ (by simp [Op.operands]) rfl) (HS.grown hgr (by simp; omega)) rfl rfl
            · refine ⟨_, fun d hd => by cases hd; rfl, ?_⟩
              exact tn_copy (.inl rfl) (hin 11 _ (by simp [Op.operands]) rfl)
            · refine ⟨_, fun d hd => by cases hd; rfl, ?_⟩
              exact tn_copy (.inl rfl) (hin 12 _ (by simp [Op.operands]) rfl)
            · refine ⟨_, fun d hd => by cases hd; rfl, ?_⟩
              have e62 : a.eval (.tmp 62) = .int .i64 m := hin 62 _ (by simp [Op.operands, Call.operands]) rfl
              have e63 : a.eval (.tmp 63) = .int .i64 b := hin 63 _ (by simp [Op.operands, Call.operands]) rfl
              refine tn_call rfl rfl (enters_of Tryz.func66 (by kernel_rfl) rfl) (args := #[.int .i64 m, .int .i64 b]) (by show #[a.eval (.tmp 62), a.eval (.tmp 63)] = _; rw [e62, e63]) ?_
              refine (specRootOf m b W').mono ?_
              rintro e W2 ⟨rfl, rfl⟩
              exact ⟨_, rfl, rfl, Below.refl _ _⟩
            · refine ⟨_, fun d hd => by cases hd; rfl, ?_⟩
              have e64 : a.eval (.tmp 64) = .int .i64 (Pl.rootI m b) := hin 64 _ (by simp [Op.operands, Call.operands]) rfl
              refine tn_call rfl rfl (enters_of Tryz.func63 (by kernel_rfl) rfl) (args := #[.int .i64 (Pl.rootI m b)]) (by show #[a.eval (.tmp 64)] = _; rw [e64]) ?_
              exact specNumberI (Pl.rootI m b) (by have := Pl.root_bnd hOK; omega) W'
            · refine ⟨_, fun d hd => by cases hd; rfl, ?_⟩
              exact tn_copy (.inr rfl) (hin 65 _ (by simp [Op.operands]) rfl)
          · intro o ho a W' hin hb
            obtain rfl := Option.some.inj ho
            exact tn_store rfl rfl (hin 4 _ (by simp [Op.operands]) rfl) (hin 61 _ (by simp [Op.operands]) rfl) HV1 (HR4.kept hb) rfl (fun _ hS _ => hS)
          · intro f W' hin hold hS hgr
            have h4 : f 4 = .pointer (some ⟨w.heap.size + 1, 0, none⟩) := hin 4 _ rfl
            have h5 : f 5 = .string (Pl.str (Pl.decI (Pl.rootI m b))) := hin 5 _ rfl
            go_wp2
            refine bodyPost_ret (results_cell_tmp rfl _ _ (w.heap.size + 1) #[.int .i64 b, .int .i64 m, v2] _ (.string (Pl.str (Pl.decI (Pl.rootI m b)))) ((slot_of f (by decide : 4 < 166)).trans h4) ((slot_of f (by decide : 5 < 166)).trans h5) hS rfl Tryz.underlying30 (by rw [size_desk]; rfl)) rfl ?_
            exact HFin.out _ rfl _ _ hgr (by rw [HEnd.out, hi]; exact congrArg (Prod.mk _) (ansL_at ⟨b, m, p⟩ _ 2 (by decide)))
        · -- round
          replace hi : A.data.toList = [114, 111, 117, 110, 100] := hi
          have q0 : (A.toList == ([110, 117, 109, 98, 101, 114] : List UInt8)) = false := word_no (b := [110, 117, 109, 98, 101, 114]) (by rw [hi]; decide)
          have q1 : (A.toList == ([100, 105, 103, 105, 116, 115] : List UInt8)) = false := word_no (b := [100, 105, 103, 105, 116, 115]) (by rw [hi]; decide)
          have q2 : (A.toList == ([114, 111, 111, 116] : List UInt8)) = false := word_no (b := [114, 111, 111, 116]) (by rw [hi]; decide)
          have q3 : (A.toList == ([114, 111, 117, 110, 100] : List UInt8)) = true := word_yes (b := [114, 111, 117, 110, 100]) hi
          go_wp2_with fail
          refine wp_region_tq (w.heap.size + 1) 5 (fun W' => SBox W' (w.heap.size + 1) 30 #[.int .i64 b, .int .i64 m, v2]) (fun _ _ h hb => h.kept hb)
            (fun t => match t with | 4 => some (.is (.pointer (some ⟨w.heap.size + 1, 0, none⟩))) | 5 => some (.is (.string (Pl.str (Pl.rowT (Pl.roundA m 2 b))))) | 6 => some (.is (.pointer (some ⟨S6, 0, none⟩))) | 11 => some (.is (.int .i64 m)) | 12 => some (.is (.int .i64 b)) | 68 => some (.is (.agg #[.int .i64 b, .int .i64 m, v2])) | 69 => some (.is (.int .i64 m)) | 70 => some (.is (.int .i64 b)) | 71 => some (.row W.heap.size (Pl.roundA m 2 b)) | 72 => some (.is (.string (Pl.str (Pl.rowT (Pl.roundA m 2 b))))) | _ => none) mixed (by decide) (by kernel_rfl) ?_ ?_ ?_ ?_
          · intro t z h hn
            split at h <;> first | (cases h; done) | (cases h; rfl) | exact absurd (by decide) hn
          · intro i o hne hio a W' hin hgr
            rcases i with _ | _ | _ | _ | _ | _ | _ | i
            all_goals first
              | (cases hio; done)
              | exact absurd rfl hne
              | (obtain rfl := Option.some.inj hio)
            · refine ⟨_, fun d hd => by cases hd; rfl, ?_⟩
              exact tn_load rfl (hin 6 _ (by simp [Op.operands]) rfl) (HS.grown hgr (by simp; omega)) rfl rfl
            · refine ⟨_, fun d hd => by cases hd; rfl, ?_⟩
              exact tn_copy (.inl rfl) (hin 11 _ (by simp [Op.operands]) rfl)
            · refine ⟨_, fun d hd => by cases hd; rfl, ?_⟩
              exact tn_copy (.inl rfl) (hin 12 _ (by simp [Op.operands]) rfl)
            · refine ⟨_, fun d hd => by cases hd; rfl, ?_⟩
              have e69 : a.eval (.tmp 69) = .int .i64 m := hin 69 _ (by simp [Op.operands, Call.operands]) rfl
              have e70 : a.eval (.tmp 70) = .int .i64 b := hin 70 _ (by simp [Op.operands, Call.operands]) rfl
              refine tn_call rfl rfl (enters_of Tryz.func67 (by kernel_rfl) rfl) (args := #[.int .i64 m, .int .i64 2, .int .i64 b]) (by show #[a.eval (.tmp 69), .int .i64 2, a.eval (.tmp 70)] = _; rw [e69, e70]) ?_
              refine (specRoundFrom m 2 b W').mono ?_
              rintro e W2 ⟨v, rfl, hr, hb⟩
              exact ⟨v, rfl, ⟨by omega, hr.mono hgr.size⟩, hb⟩
            · refine ⟨_, fun d hd => by cases hd; rfl, ?_⟩
              obtain ⟨_, hrow⟩ := hin 71 _ (by simp [Op.operands, Call.operands]) rfl
              exact tn_call rfl rfl (enters_of Tryz.func64 (by kernel_rfl) rfl) (args := #[a.eval (.tmp 71)]) rfl (specRowI _ _ _ W' hrow (Pl.round_few hOK).1 (Nat.le_trans (Pl.roundA_len m 2 b) (by omega)))
            · refine ⟨_, fun d hd => by cases hd; rfl, ?_⟩
              exact tn_copy (.inr rfl) (hin 72 _ (by simp [Op.operands]) rfl)
          · intro o ho a W' hin hb
            obtain rfl := Option.some.inj ho
            exact tn_store rfl rfl (hin 4 _ (by simp [Op.operands]) rfl) (hin 68 _ (by simp [Op.operands]) rfl) HV1 (HR4.kept hb) rfl (fun _ hS _ => hS)
          · intro f W' hin hold hS hgr
            have h4 : f 4 = .pointer (some ⟨w.heap.size + 1, 0, none⟩) := hin 4 _ rfl
            have h5 : f 5 = .string (Pl.str (Pl.rowT (Pl.roundA m 2 b))) := hin 5 _ rfl
            go_wp2
            refine bodyPost_ret (results_cell_tmp rfl _ _ (w.heap.size + 1) #[.int .i64 b, .int .i64 m, v2] _ (.string (Pl.str (Pl.rowT (Pl.roundA m 2 b)))) ((slot_of f (by decide : 4 < 166)).trans h4) ((slot_of f (by decide : 5 < 166)).trans h5) hS rfl Tryz.underlying30 (by rw [size_desk]; rfl)) rfl ?_
            exact HFin.out _ rfl _ _ hgr (by rw [HEnd.out, hi, Pl.rowT, if_neg (Pl.round_few hOK).2]; exact congrArg (Prod.mk _) (ansL_at ⟨b, m, p⟩ _ 3 (by decide)))
        · -- happy
          replace hi : A.data.toList = [104, 97, 112, 112, 121] := hi
          have q0 : (A.toList == ([110, 117, 109, 98, 101, 114] : List UInt8)) = false := word_no (b := [110, 117, 109, 98, 101, 114]) (by rw [hi]; decide)
          have q1 : (A.toList == ([100, 105, 103, 105, 116, 115] : List UInt8)) = false := word_no (b := [100, 105, 103, 105, 116, 115]) (by rw [hi]; decide)
          have q2 : (A.toList == ([114, 111, 111, 116] : List UInt8)) = false := word_no (b := [114, 111, 111, 116]) (by rw [hi]; decide)
          have q3 : (A.toList == ([114, 111, 117, 110, 100] : List UInt8)) = false := word_no (b := [114, 111, 117, 110, 100]) (by rw [hi]; decide)
          have q4 : (A.toList == ([104, 97, 112, 112, 121] : List UInt8)) = true := word_yes (b := [104, 97, 112, 112, 121]) hi
          go_wp2_with fail
          refine wp_region_tq (w.heap.size + 1) 5 (fun W' => SBox W' (w.heap.size + 1) 30 #[.int .i64 b, .int .i64 m, v2]) (fun _ _ h hb => h.kept hb)
            (fun t => match t with | 4 => some (.is (.pointer (some ⟨w.heap.size + 1, 0, none⟩))) | 5 => some (.is (.string (Pl.str (Pl.saidL (Pl.happyB m b))))) | 6 => some (.is (.pointer (some ⟨S6, 0, none⟩))) | 11 => some (.is (.int .i64 m)) | 12 => some (.is (.int .i64 b)) | 75 => some (.is (.agg #[.int .i64 b, .int .i64 m, v2])) | 76 => some (.is (.int .i64 m)) | 77 => some (.is (.int .i64 b)) | 78 => some (.is (.bool (Pl.happyB m b))) | 79 => some (.is (.string (Pl.str (Pl.saidL (Pl.happyB m b))))) | _ => none) mixed (by decide) (by kernel_rfl) ?_ ?_ ?_ ?_
          · intro t z h hn
            split at h <;> first | (cases h; done) | (cases h; rfl) | exact absurd (by decide) hn
          · intro i o hne hio a W' hin hgr
            rcases i with _ | _ | _ | _ | _ | _ | _ | i
            all_goals first
              | (cases hio; done)
              | exact absurd rfl hne
              | (obtain rfl := Option.some.inj hio)
            · refine ⟨_, fun d hd => by cases hd; rfl, ?_⟩
              exact tn_load rfl (hin 6 _ (by simp [Op.operands]) rfl) (HS.grown hgr (by simp; omega)) rfl rfl
            · refine ⟨_, fun d hd => by cases hd; rfl, ?_⟩
              exact tn_copy (.inl rfl) (hin 11 _ (by simp [Op.operands]) rfl)
            · refine ⟨_, fun d hd => by cases hd; rfl, ?_⟩
              exact tn_copy (.inl rfl) (hin 12 _ (by simp [Op.operands]) rfl)
            · refine ⟨_, fun d hd => by cases hd; rfl, ?_⟩
              have e76 : a.eval (.tmp 76) = .int .i64 m := hin 76 _ (by simp [Op.operands, Call.operands]) rfl
              have e77 : a.eval (.tmp 77) = .int .i64 b := hin 77 _ (by simp [Op.operands, Call.operands]) rfl
              refine tn_call rfl rfl (enters_of Tryz.func69 (by kernel_rfl) rfl) (args := #[.int .i64 m, .int .i64 b]) (by show #[a.eval (.tmp 76), a.eval (.tmp 77)] = _; rw [e76, e77]) ?_
              refine (specHappyOk m b W').mono ?_
              rintro e W2 ⟨rfl, hb⟩
              exact ⟨_, rfl, rfl, hb⟩
            · refine ⟨_, fun d hd => by cases hd; rfl, ?_⟩
              have e78 : a.eval (.tmp 78) = .bool (Pl.happyB m b) := hin 78 _ (by simp [Op.operands, Call.operands]) rfl
              refine tn_call rfl rfl (enters_of Tryz.func68 (by kernel_rfl) rfl) (args := #[.bool (Pl.happyB m b)]) (by show #[a.eval (.tmp 78)] = _; rw [e78]) ?_
              exact specSaidI (Pl.happyB m b) W'
            · refine ⟨_, fun d hd => by cases hd; rfl, ?_⟩
              exact tn_copy (.inr rfl) (hin 79 _ (by simp [Op.operands]) rfl)
          · intro o ho a W' hin hb
            obtain rfl := Option.some.inj ho
            exact tn_store rfl rfl (hin 4 _ (by simp [Op.operands]) rfl) (hin 75 _ (by simp [Op.operands]) rfl) HV1 (HR4.kept hb) rfl (fun _ hS _ => hS)
          · intro f W' hin hold hS hgr
            have h4 : f 4 = .pointer (some ⟨w.heap.size + 1, 0, none⟩) := hin 4 _ rfl
            have h5 : f 5 = .string (Pl.str (Pl.saidL (Pl.happyB m b))) := hin 5 _ rfl
            go_wp2
            refine bodyPost_ret (results_cell_tmp rfl _ _ (w.heap.size + 1) #[.int .i64 b, .int .i64 m, v2] _ (.string (Pl.str (Pl.saidL (Pl.happyB m b)))) ((slot_of f (by decide : 4 < 166)).trans h4) ((slot_of f (by decide : 5 < 166)).trans h5) hS rfl Tryz.underlying30 (by rw [size_desk]; rfl)) rfl ?_
            exact HFin.out _ rfl _ _ hgr (by rw [HEnd.out, hi]; exact congrArg (Prod.mk _) (ansL_at ⟨b, m, p⟩ _ 4 (by decide)))
        · -- palindrome
          replace hi : A.data.toList = [112, 97, 108, 105, 110, 100, 114, 111, 109, 101] := hi
          have q0 : (A.toList == ([110, 117, 109, 98, 101, 114] : List UInt8)) = false := word_no (b := [110, 117, 109, 98, 101, 114]) (by rw [hi]; decide)
          have q1 : (A.toList == ([100, 105, 103, 105, 116, 115] : List UInt8)) = false := word_no (b := [100, 105, 103, 105, 116, 115]) (by rw [hi]; decide)
          have q2 : (A.toList == ([114, 111, 111, 116] : List UInt8)) = false := word_no (b := [114, 111, 111, 116]) (by rw [hi]; decide)
          have q3 : (A.toList == ([114, 111, 117, 110, 100] : List UInt8)) = false := word_no (b := [114, 111, 117, 110, 100]) (by rw [hi]; decide)
          have q4 : (A.toList == ([104, 97, 112, 112, 121] : List UInt8)) = false := word_no (b := [104, 97, 112, 112, 121]) (by rw [hi]; decide)
          have q5 : (A.toList == ([112, 97, 108, 105, 110, 100, 114, 111, 109, 101] : List UInt8)) = true := word_yes (b := [112, 97, 108, 105, 110, 100, 114, 111, 109, 101]) hi
          go_wp2_with fail
          refine wp_region_tq (w.heap.size + 1) 5 (fun W' => SBox W' (w.heap.size + 1) 30 #[.int .i64 b, .int .i64 m, v2]) (fun _ _ h hb => h.kept hb)
            (fun t => match t with | 4 => some (.is (.pointer (some ⟨w.heap.size + 1, 0, none⟩))) | 5 => some (.is (.string (Pl.str (Pl.saidL (Pl.palB m b))))) | 6 => some (.is (.pointer (some ⟨S6, 0, none⟩))) | 11 => some (.is (.int .i64 m)) | 12 => some (.is (.int .i64 b)) | 82 => some (.is (.agg #[.int .i64 b, .int .i64 m, v2])) | 83 => some (.is (.int .i64 m)) | 84 => some (.is (.int .i64 b)) | 85 => some (.is (.bool (Pl.palB m b))) | 86 => some (.is (.string (Pl.str (Pl.saidL (Pl.palB m b))))) | _ => none) mixed (by decide) (by kernel_rfl) ?_ ?_ ?_ ?_
          · intro t z h hn
            split at h <;> first | (cases h; done) | (cases h; rfl) | exact absurd (by decide) hn
          · intro i o hne hio a W' hin hgr
            rcases i with _ | _ | _ | _ | _ | _ | _ | i
            all_goals first
              | (cases hio; done)
              | exact absurd rfl hne
              | (obtain rfl := Option.some.inj hio)
            · refine ⟨_, fun d hd => by cases hd; rfl, ?_⟩
              exact tn_load rfl (hin 6 _ (by simp [Op.operands]) rfl) (HS.grown hgr (by simp; omega)) rfl rfl
            · refine ⟨_, fun d hd => by cases hd; rfl, ?_⟩
              exact tn_copy (.inl rfl) (hin 11 _ (by simp [Op.operands]) rfl)
            · refine ⟨_, fun d hd => by cases hd; rfl, ?_⟩
              exact tn_copy (.inl rfl) (hin 12 _ (by simp [Op.operands]) rfl)
            · refine ⟨_, fun d hd => by cases hd; rfl, ?_⟩
              have e83 : a.eval (.tmp 83) = .int .i64 m := hin 83 _ (by simp [Op.operands, Call.operands]) rfl
              have e84 : a.eval (.tmp 84) = .int .i64 b := hin 84 _ (by simp [Op.operands, Call.operands]) rfl
              refine tn_call rfl rfl (enters_of Tryz.func70 (by kernel_rfl) rfl) (args := #[.int .i64 m, .int .i64 b]) (by show #[a.eval (.tmp 83), a.eval (.tmp 84)] = _; rw [e83, e84]) ?_
              refine (specPalindromeOk m b W').mono ?_
              rintro e W2 ⟨rfl, rfl⟩
              exact ⟨_, rfl, rfl, Below.refl _ _⟩
            · refine ⟨_, fun d hd => by cases hd; rfl, ?_⟩
              have e85 : a.eval (.tmp 85) = .bool (Pl.palB m b) := hin 85 _ (by simp [Op.operands, Call.operands]) rfl
              refine tn_call rfl rfl (enters_of Tryz.func68 (by kernel_rfl) rfl) (args := #[.bool (Pl.palB m b)]) (by show #[a.eval (.tmp 85)] = _; rw [e85]) ?_
              exact specSaidI (Pl.palB m b) W'
            · refine ⟨_, fun d hd => by cases hd; rfl, ?_⟩
              exact tn_copy (.inr rfl) (hin 86 _ (by simp [Op.operands]) rfl)
          · intro o ho a W' hin hb
            obtain rfl := Option.some.inj ho
            exact tn_store rfl rfl (hin 4 _ (by simp [Op.operands]) rfl) (hin 82 _ (by simp [Op.operands]) rfl) HV1 (HR4.kept hb) rfl (fun _ hS _ => hS)
          · intro f W' hin hold hS hgr
            have h4 : f 4 = .pointer (some ⟨w.heap.size + 1, 0, none⟩) := hin 4 _ rfl
            have h5 : f 5 = .string (Pl.str (Pl.saidL (Pl.palB m b))) := hin 5 _ rfl
            go_wp2
            refine bodyPost_ret (results_cell_tmp rfl _ _ (w.heap.size + 1) #[.int .i64 b, .int .i64 m, v2] _ (.string (Pl.str (Pl.saidL (Pl.palB m b)))) ((slot_of f (by decide : 4 < 166)).trans h4) ((slot_of f (by decide : 5 < 166)).trans h5) hS rfl Tryz.underlying30 (by rw [size_desk]; rfl)) rfl ?_
            exact HFin.out _ rfl _ _ hgr (by rw [HEnd.out, hi]; exact congrArg (Prod.mk _) (ansL_at ⟨b, m, p⟩ _ 5 (by decide)))
        · -- self
          replace hi : A.data.toList = [115, 101, 108, 102] := hi
          have q0 : (A.toList == ([110, 117, 109, 98, 101, 114] : List UInt8)) = false := word_no (b := [110, 117, 109, 98, 101, 114]) (by rw [hi]; decide)
          have q1 : (A.toList == ([100, 105, 103, 105, 116, 115] : List UInt8)) = false := word_no (b := [100, 105, 103, 105, 116, 115]) (by rw [hi]; decide)
          have q2 : (A.toList == ([114, 111, 111, 116] : List UInt8)) = false := word_no (b := [114, 111, 111, 116]) (by rw [hi]; decide)
          have q3 : (A.toList == ([114, 111, 117, 110, 100] : List UInt8)) = false := word_no (b := [114, 111, 117, 110, 100]) (by rw [hi]; decide)
          have q4 : (A.toList == ([104, 97, 112, 112, 121] : List UInt8)) = false := word_no (b := [104, 97, 112, 112, 121]) (by rw [hi]; decide)
          have q5 : (A.toList == ([112, 97, 108, 105, 110, 100, 114, 111, 109, 101] : List UInt8)) = false := word_no (b := [112, 97, 108, 105, 110, 100, 114, 111, 109, 101]) (by rw [hi]; decide)
          have q6 : (A.toList == ([115, 101, 108, 102] : List UInt8)) = true := word_yes (b := [115, 101, 108, 102]) hi
          go_wp2_with fail
          refine wp_region_tq (w.heap.size + 1) 5 (fun W' => SBox W' (w.heap.size + 1) 30 #[.int .i64 b, .int .i64 m, v2]) (fun _ _ h hb => h.kept hb)
            (fun t => match t with | 4 => some (.is (.pointer (some ⟨w.heap.size + 1, 0, none⟩))) | 5 => some (.is (.string (Pl.str (Pl.saidL (Pl.selfB m b))))) | 6 => some (.is (.pointer (some ⟨S6, 0, none⟩))) | 11 => some (.is (.int .i64 m)) | 12 => some (.is (.int .i64 b)) | 89 => some (.is (.agg #[.int .i64 b, .int .i64 m, v2])) | 90 => some (.is (.int .i64 m)) | 91 => some (.is (.int .i64 b)) | 92 => some (.is (.bool (Pl.selfB m b))) | 93 => some (.is (.string (Pl.str (Pl.saidL (Pl.selfB m b))))) | _ => none) mixed (by decide) (by kernel_rfl) ?_ ?_ ?_ ?_
          · intro t z h hn
            split at h <;> first | (cases h; done) | (cases h; rfl) | exact absurd (by decide) hn
          · intro i o hne hio a W' hin hgr
            rcases i with _ | _ | _ | _ | _ | _ | _ | i
            all_goals first
              | (cases hio; done)
              | exact absurd rfl hne
              | (obtain rfl := Option.some.inj hio)
            · refine ⟨_, fun d hd => by cases hd; rfl, ?_⟩
              exact tn_load rfl (hin 6 _ (by simp [Op.operands]) rfl) (HS.grown hgr (by simp; omega)) rfl rfl
            · refine ⟨_, fun d hd => by cases hd; rfl, ?_⟩
              exact tn_copy (.inl rfl) (hin 11 _ (by simp [Op.operands]) rfl)
            · refine ⟨_, fun d hd => by cases hd; rfl, ?_⟩
              exact tn_copy (.inl rfl) (hin 12 _ (by simp [Op.operands]) rfl)
            · refine ⟨_, fun d hd => by cases hd; rfl, ?_⟩
              have e90 : a.eval (.tmp 90) = .int .i64 m := hin 90 _ (by simp [Op.operands, Call.operands]) rfl
              have e91 : a.eval (.tmp 91) = .int .i64 b := hin 91 _ (by simp [Op.operands, Call.operands]) rfl
              refine tn_call rfl rfl (enters_of Tryz.func71 (by kernel_rfl) rfl) (args := #[.int .i64 m, .int .i64 b]) (by show #[a.eval (.tmp 90), a.eval (.tmp 91)] = _; rw [e90, e91]) ?_
              refine (specSelfOk m b W').mono ?_
              rintro e W2 ⟨rfl, hb⟩
              exact ⟨_, rfl, rfl, hb⟩
            · refine ⟨_, fun d hd => by cases hd; rfl, ?_⟩
              have e92 : a.eval (.tmp 92) = .bool (Pl.selfB m b) := hin 92 _ (by simp [Op.operands, Call.operands]) rfl
              refine tn_call rfl rfl (enters_of Tryz.func68 (by kernel_rfl) rfl) (args := #[.bool (Pl.selfB m b)]) (by show #[a.eval (.tmp 92)] = _; rw [e92]) ?_
              exact specSaidI (Pl.selfB m b) W'
            · refine ⟨_, fun d hd => by cases hd; rfl, ?_⟩
              exact tn_copy (.inr rfl) (hin 93 _ (by simp [Op.operands]) rfl)
          · intro o ho a W' hin hb
            obtain rfl := Option.some.inj ho
            exact tn_store rfl rfl (hin 4 _ (by simp [Op.operands]) rfl) (hin 89 _ (by simp [Op.operands]) rfl) HV1 (HR4.kept hb) rfl (fun _ hS _ => hS)
          · intro f W' hin hold hS hgr
            have h4 : f 4 = .pointer (some ⟨w.heap.size + 1, 0, none⟩) := hin 4 _ rfl
            have h5 : f 5 = .string (Pl.str (Pl.saidL (Pl.selfB m b))) := hin 5 _ rfl
            go_wp2
            refine bodyPost_ret (results_cell_tmp rfl _ _ (w.heap.size + 1) #[.int .i64 b, .int .i64 m, v2] _ (.string (Pl.str (Pl.saidL (Pl.selfB m b)))) ((slot_of f (by decide : 4 < 166)).trans h4) ((slot_of f (by decide : 5 < 166)).trans h5) hS rfl Tryz.underlying30 (by rw [size_desk]; rfl)) rfl ?_
            exact HFin.out _ rfl _ _ hgr (by rw [HEnd.out, hi]; exact congrArg (Prod.mk _) (ansL_at ⟨b, m, p⟩ _ 6 (by decide)))
        · -- persists
          replace hi : A.data.toList = [112, 101, 114, 115, 105, 115, 116, 115] := hi
          have q0 : (A.toList == ([110, 117, 109, 98, 101, 114] : List UInt8)) = false := word_no (b := [110, 117, 109, 98, 101, 114]) (by rw [hi]; decide)
          have q1 : (A.toList == ([100, 105, 103, 105, 116, 115] : List UInt8)) = false := word_no (b := [100, 105, 103, 105, 116, 115]) (by rw [hi]; decide)
          have q2 : (A.toList == ([114, 111, 111, 116] : List UInt8)) = false := word_no (b := [114, 111, 111, 116]) (by rw [hi]; decide)
          have q3 : (A.toList == ([114, 111, 117, 110, 100] : List UInt8)) = false := word_no (b := [114, 111, 117, 110, 100]) (by rw [hi]; decide)
          have q4 : (A.toList == ([104, 97, 112, 112, 121] : List UInt8)) = false := word_no (b := [104, 97, 112, 112, 121]) (by rw [hi]; decide)
          have q5 : (A.toList == ([112, 97, 108, 105, 110, 100, 114, 111, 109, 101] : List UInt8)) = false := word_no (b := [112, 97, 108, 105, 110, 100, 114, 111, 109, 101]) (by rw [hi]; decide)
          have q6 : (A.toList == ([115, 101, 108, 102] : List UInt8)) = false := word_no (b := [115, 101, 108, 102]) (by rw [hi]; decide)
          have q7 : (A.toList == ([112, 101, 114, 115, 105, 115, 116, 115] : List UInt8)) = true := word_yes (b := [112, 101, 114, 115, 105, 115, 116, 115]) hi
          have hprf : Pl.lineA ⟨b, m, p⟩ A.data.toList = (⟨b, m, p⟩, Pl.decI (Pl.peK (Pl.persA m b))) := by rw [HEnd.out, hi]; exact congrArg (Prod.mk _) (ansL_at ⟨b, m, p⟩ _ 7 (by decide))
          have HPE := Lib.hid (fun W => specPersistsOf m b W)
          have hpb := Pl.pers_bnd hOK
          generalize Pl.peK (Pl.persA m b) = PK at *
          go_wp2_with fail
          refine (HPE.out _).mono ?_
          rintro e w9 ⟨rfl, rfl⟩
          go_wp2_with fail
          refine wp_region_tq (w.heap.size + 1) 3 (fun W' => SBox W' (w.heap.size + 1) 30 #[.int .i64 b, .int .i64 m, v2]) (fun _ _ h hb => h.kept hb)
            (fun t => match t with | 4 => some (.is (.pointer (some ⟨w.heap.size + 1, 0, none⟩))) | 5 => some (.is (.string (Pl.str (Pl.decI PK)))) | 6 => some (.is (.pointer (some ⟨S6, 0, none⟩))) | 11 => some (.is (.int .i64 m)) | 12 => some (.is (.int .i64 b)) | 13 => some (.is (.int .i64 PK)) | 103 => some (.is (.agg #[.int .i64 b, .int .i64 m, v2])) | 104 => some (.is (.int .i64 PK)) | 105 => some (.is (.string (Pl.str (Pl.decI PK)))) | _ => none) mixed (by decide) (by kernel_rfl) ?_ ?_ ?_ ?_
          · intro t z h hn
            split at h <;> first | (cases h; done) | (cases h; rfl) | exact absurd (by decide) hn
          · intro i o hne hio a W' hin hgr
            rcases i with _ | _ | _ | _ | _ | i
            all_goals first
              | (cases hio; done)
              | exact absurd rfl hne
              | (obtain rfl := Option.some.inj hio)
            · refine ⟨_, fun d hd => by cases hd; rfl, ?_⟩
              exact tn_load rfl (hin 6 _ (by simp [Op.operands]) rfl) (HS.grown hgr (by simp; omega)) rfl rfl
            · refine ⟨_, fun d hd => by cases hd; rfl, ?_⟩
              exact tn_copy (.inl rfl) (hin 13 _ (by simp [Op.operands]) rfl)
            · refine ⟨_, fun d hd => by cases hd; rfl, ?_⟩
              have e104 : a.eval (.tmp 104) = .int .i64 PK := hin 104 _ (by simp [Op.operands, Call.operands]) rfl
              refine tn_call rfl rfl (enters_of Tryz.func63 (by kernel_rfl) rfl) (args := #[.int .i64 PK]) (by show #[a.eval (.tmp 104)] = _; rw [e104]) ?_
              exact specNumberI PK (by omega) W'
            · refine ⟨_, fun d hd => by cases hd; rfl, ?_⟩
              exact tn_copy (.inr rfl) (hin 105 _ (by simp [Op.operands]) rfl)
          · intro o ho a W' hin hb
            obtain rfl := Option.some.inj ho
            exact tn_store rfl rfl (hin 4 _ (by simp [Op.operands]) rfl) (hin 103 _ (by simp [Op.operands]) rfl) HV1 (HR4.kept hb) rfl (fun _ hS _ => hS)
          · intro f W' hin hold hS hgr
            have h4 : f 4 = .pointer (some ⟨w.heap.size + 1, 0, none⟩) := hin 4 _ rfl
            have h5 : f 5 = .string (Pl.str (Pl.decI PK)) := hin 5 _ rfl
            go_wp2
            refine bodyPost_ret (results_cell_tmp rfl _ _ (w.heap.size + 1) #[.int .i64 b, .int .i64 m, v2] _ (.string (Pl.str (Pl.decI PK))) ((slot_of f (by decide : 4 < 166)).trans h4) ((slot_of f (by decide : 5 < 166)).trans h5) hS rfl Tryz.underlying30 (by rw [size_desk]; rfl)) rfl ?_
            exact HFin.out _ rfl _ _ hgr (hprf)
        · -- noughts
          replace hi : A.data.toList = [110, 111, 117, 103, 104, 116, 115] := hi
          have q0 : (A.toList == ([110, 117, 109, 98, 101, 114] : List UInt8)) = false := word_no (b := [110, 117, 109, 98, 101, 114]) (by rw [hi]; decide)
          have q1 : (A.toList == ([100, 105, 103, 105, 116, 115] : List UInt8)) = false := word_no (b := [100, 105, 103, 105, 116, 115]) (by rw [hi]; decide)
          have q2 : (A.toList == ([114, 111, 111, 116] : List UInt8)) = false := word_no (b := [114, 111, 111, 116]) (by rw [hi]; decide)
          have q3 : (A.toList == ([114, 111, 117, 110, 100] : List UInt8)) = false := word_no (b := [114, 111, 117, 110, 100]) (by rw [hi]; decide)
          have q4 : (A.toList == ([104, 97, 112, 112, 121] : List UInt8)) = false := word_no (b := [104, 97, 112, 112, 121]) (by rw [hi]; decide)
          have q5 : (A.toList == ([112, 97, 108, 105, 110, 100, 114, 111, 109, 101] : List UInt8)) = false := word_no (b := [112, 97, 108, 105, 110, 100, 114, 111, 109, 101]) (by rw [hi]; decide)
          have q6 : (A.toList == ([115, 101, 108, 102] : List UInt8)) = false := word_no (b := [115, 101, 108, 102]) (by rw [hi]; decide)
          have q7 : (A.toList == ([112, 101, 114, 115, 105, 115, 116, 115] : List UInt8)) = false := word_no (b := [112, 101, 114, 115, 105, 115, 116, 115]) (by rw [hi]; decide)
          have q8 : (A.toList == ([110, 111, 117, 103, 104, 116, 115] : List UInt8)) = true := word_yes (b := [110, 111, 117, 103, 104, 116, 115]) hi
          go_wp2_with fail
          refine wp_region_tq (w.heap.size + 1) 5 (fun W' => SBox W' (w.heap.size + 1) 30 #[.int .i64 b, .int .i64 m, v2]) (fun _ _ h hb => h.kept hb)
            (fun t => match t with | 4 => some (.is (.pointer (some ⟨w.heap.size + 1, 0, none⟩))) | 5 => some (.is (.string (Pl.str (Pl.decI (Pl.nouI m b))))) | 6 => some (.is (.pointer (some ⟨S6, 0, none⟩))) | 11 => some (.is (.int .i64 m)) | 12 => some (.is (.int .i64 b)) | 108 => some (.is (.agg #[.int .i64 b, .int .i64 m, v2])) | 109 => some (.is (.int .i64 m)) | 110 => some (.is (.int .i64 b)) | 111 => some (.is (.int .i64 (Pl.nouI m b))) | 112 => some (.is (.string (Pl.str (Pl.decI (Pl.nouI m b))))) | _ => none) mixed (by decide) (by kernel_rfl) ?_ ?_ ?_ ?_
          · intro t z h hn
            split at h <;> first | (cases h; done) | (cases h; rfl) | exact absurd (by decide) hn
          · intro i o hne hio a W' hin hgr
            rcases i with _ | _ | _ | _ | _ | _ | _ | i
            all_goals first
              | (cases hio; done)
              | exact absurd rfl hne
              | (obtain rfl := Option.some.inj hio)
            · refine ⟨_, fun d hd => by cases hd; rfl, ?_⟩
              exact tn_load rfl (hin 6 _ (by simp [Op.operands]) rfl) (HS.grown hgr (by simp; omega)) rfl rfl
            · refine ⟨_, fun d hd => by cases hd; rfl, ?_⟩
              exact tn_copy (.inl rfl) (hin 11 _ (by simp [Op.operands]) rfl)
            · refine ⟨_, fun d hd => by cases hd; rfl, ?_⟩
              exact tn_copy (.inl rfl) (hin 12 _ (by simp [Op.operands]) rfl)
            · refine ⟨_, fun d hd => by cases hd; rfl, ?_⟩
              have e109 : a.eval (.tmp 109) = .int .i64 m := hin 109 _ (by simp [Op.operands, Call.operands]) rfl
              have e110 : a.eval (.tmp 110) = .int .i64 b := hin 110 _ (by simp [Op.operands, Call.operands]) rfl
              refine tn_call rfl rfl (enters_of Tryz.func73 (by kernel_rfl) rfl) (args := #[.int .i64 m, .int .i64 b]) (by show #[a.eval (.tmp 109), a.eval (.tmp 110)] = _; rw [e109, e110]) ?_
              refine (specNoughtsAtEnd m b W').mono ?_
              rintro e W2 ⟨rfl, rfl⟩
              exact ⟨_, rfl, rfl, Below.refl _ _⟩
            · refine ⟨_, fun d hd => by cases hd; rfl, ?_⟩
              have e111 : a.eval (.tmp 111) = .int .i64 (Pl.nouI m b) := hin 111 _ (by simp [Op.operands, Call.operands]) rfl
              refine tn_call rfl rfl (enters_of Tryz.func63 (by kernel_rfl) rfl) (args := #[.int .i64 (Pl.nouI m b)]) (by show #[a.eval (.tmp 111)] = _; rw [e111]) ?_
              exact specNumberI (Pl.nouI m b) (by have := Pl.nou_bnd hOK; omega) W'
            · refine ⟨_, fun d hd => by cases hd; rfl, ?_⟩
              exact tn_copy (.inr rfl) (hin 112 _ (by simp [Op.operands]) rfl)
          · intro o ho a W' hin hb
            obtain rfl := Option.some.inj ho
            exact tn_store rfl rfl (hin 4 _ (by simp [Op.operands]) rfl) (hin 108 _ (by simp [Op.operands]) rfl) HV1 (HR4.kept hb) rfl (fun _ hS _ => hS)
          · intro f W' hin hold hS hgr
            have h4 : f 4 = .pointer (some ⟨w.heap.size + 1, 0, none⟩) := hin 4 _ rfl
            have h5 : f 5 = .string (Pl.str (Pl.decI (Pl.nouI m b))) := hin 5 _ rfl
            go_wp2
            refine bodyPost_ret (results_cell_tmp rfl _ _ (w.heap.size + 1) #[.int .i64 b, .int .i64 m, v2] _ (.string (Pl.str (Pl.decI (Pl.nouI m b)))) ((slot_of f (by decide : 4 < 166)).trans h4) ((slot_of f (by decide : 5 < 166)).trans h5) hS rfl Tryz.underlying30 (by rw [size_desk]; rfl)) rfl ?_
            exact HFin.out _ rfl _ _ hgr (by rw [HEnd.out, hi]; exact congrArg (Prod.mk _) (ansL_at ⟨b, m, p⟩ _ 8 (by decide)))
        · -- steps
          replace hi : A.data.toList = [115, 116, 101, 112, 115] := hi
          have q0 : (A.toList == ([110, 117, 109, 98, 101, 114] : List UInt8)) = false := word_no (b := [110, 117, 109, 98, 101, 114]) (by rw [hi]; decide)
          have q1 : (A.toList == ([100, 105, 103, 105, 116, 115] : List UInt8)) = false := word_no (b := [100, 105, 103, 105, 116, 115]) (by rw [hi]; decide)
          have q2 : (A.toList == ([114, 111, 111, 116] : List UInt8)) = false := word_no (b := [114, 111, 111, 116]) (by rw [hi]; decide)
          have q3 : (A.toList == ([114, 111, 117, 110, 100] : List UInt8)) = false := word_no (b := [114, 111, 117, 110, 100]) (by rw [hi]; decide)
          have q4 : (A.toList == ([104, 97, 112, 112, 121] : List UInt8)) = false := word_no (b := [104, 97, 112, 112, 121]) (by rw [hi]; decide)
          have q5 : (A.toList == ([112, 97, 108, 105, 110, 100, 114, 111, 109, 101] : List UInt8)) = false := word_no (b := [112, 97, 108, 105, 110, 100, 114, 111, 109, 101]) (by rw [hi]; decide)
          have q6 : (A.toList == ([115, 101, 108, 102] : List UInt8)) = false := word_no (b := [115, 101, 108, 102]) (by rw [hi]; decide)
          have q7 : (A.toList == ([112, 101, 114, 115, 105, 115, 116, 115] : List UInt8)) = false := word_no (b := [112, 101, 114, 115, 105, 115, 116, 115]) (by rw [hi]; decide)
          have q8 : (A.toList == ([110, 111, 117, 103, 104, 116, 115] : List UInt8)) = false := word_no (b := [110, 111, 117, 103, 104, 116, 115]) (by rw [hi]; decide)
          have q9 : (A.toList == ([115, 116, 101, 112, 115] : List UInt8)) = true := word_yes (b := [115, 116, 101, 112, 115]) hi
          have HPE := Lib.hid (fun W => specPalSteps m b W)
          have hprf : Pl.lineA ⟨b, m, p⟩ A.data.toList = (⟨b, m, p⟩, if Pl.stB (Pl.stpA m b) = true then Pl.decI (Pl.stK (Pl.stpA m b)) else Pl.noneW) := by rw [HEnd.out, hi]; exact congrArg (Prod.mk _) (ansL_at ⟨b, m, p⟩ _ 9 (by decide))
          have hsb := fun h => Pl.steps_bnd (n := m) (b := b) hOK h
          generalize Pl.stK (Pl.stpA m b) = SK at *
          cases hst : Pl.stB (Pl.stpA m b)
          · rw [hst] at hprf HPE
            clear hst hsb
            go_wp2_with fail
            refine (HPE.out _).mono ?_
            rintro e w9 ⟨rfl, rfl⟩
            go_wp2_with (first | (refine desk_load rfl _ rfl rfl HS ?_) | (refine desk_store rfl _ _ rfl rfl rfl HV1 HR4 ?_; intro w5 hS5 hbl5 hsz5 hO5))
            refine bodyPost_ret (results_cell_tmp rfl _ _ (w.heap.size + 1) #[.int .i64 b, .int .i64 m, v2] _ _ rfl rfl hS5 rfl Tryz.underlying30 (by rw [size_desk]; rfl)) rfl ?_
            exact HFin.out _ rfl _ _ (grown_but (hbl5 _ (Nat.le_refl _)) hsz5 hO5) hprf
          · rw [hst] at hprf HPE
            replace hsb := hsb hst
            clear hst
            go_wp2_with fail
            refine (HPE.out _).mono ?_
            rintro e w9 ⟨rfl, rfl⟩
            go_wp2_with fail
            refine wp_region_tq (w.heap.size + 1) 3 (fun W' => SBox W' (w.heap.size + 1) 30 #[.int .i64 b, .int .i64 m, v2]) (fun _ _ h hb => h.kept hb)
              (fun t => match t with | 4 => some (.is (.pointer (some ⟨w.heap.size + 1, 0, none⟩))) | 5 => some (.is (.string (Pl.str (Pl.decI SK)))) | 6 => some (.is (.pointer (some ⟨S6, 0, none⟩))) | 11 => some (.is (.int .i64 m)) | 12 => some (.is (.int .i64 b)) | 16 => some (.is (.int .i64 SK)) | 125 => some (.is (.agg #[.int .i64 b, .int .i64 m, v2])) | 126 => some (.is (.int .i64 SK)) | 127 => some (.is (.string (Pl.str (Pl.decI SK)))) | _ => none) mixed (by decide) (by kernel_rfl) ?_ ?_ ?_ ?_
            · intro t z h hn
              split at h <;> first | (cases h; done) | (cases h; rfl) | exact absurd (by decide) hn
            · intro i o hne hio a W' hin hgr
              rcases i with _ | _ | _ | _ | _ | i
              all_goals first
                | (cases hio; done)
                | exact absurd rfl hne
                | (obtain rfl := Option.some.inj hio)
              · refine ⟨_, fun d hd => by cases hd; rfl, ?_⟩
                exact tn_load rfl (hin 6 _ (by simp [Op.operands]) rfl) (HS.grown hgr (by simp; omega)) rfl rfl
              · refine ⟨_, fun d hd => by cases hd; rfl, ?_⟩
                exact tn_copy (.inl rfl) (hin 16 _ (by simp [Op.operands]) rfl)
              · refine ⟨_, fun d hd => by cases hd; rfl, ?_⟩
                have e126 : a.eval (.tmp 126) = .int .i64 SK := hin 126 _ (by simp [Op.operands, Call.operands]) rfl
                refine tn_call rfl rfl (enters_of Tryz.func63 (by kernel_rfl) rfl) (args := #[.int .i64 SK]) (by show #[a.eval (.tmp 126)] = _; rw [e126]) ?_
                exact specNumberI SK (by omega) W'
              · refine ⟨_, fun d hd => by cases hd; rfl, ?_⟩
                exact tn_copy (.inr rfl) (hin 127 _ (by simp [Op.operands]) rfl)
            · intro o ho a W' hin hb
              obtain rfl := Option.some.inj ho
              exact tn_store rfl rfl (hin 4 _ (by simp [Op.operands]) rfl) (hin 125 _ (by simp [Op.operands]) rfl) HV1 (HR4.kept hb) rfl (fun _ hS _ => hS)
            · intro f W' hin hold hS hgr
              have h4 : f 4 = .pointer (some ⟨w.heap.size + 1, 0, none⟩) := hin 4 _ rfl
              have h5 : f 5 = .string (Pl.str (Pl.decI SK)) := hin 5 _ rfl
              go_wp2
              refine bodyPost_ret (results_cell_tmp rfl _ _ (w.heap.size + 1) #[.int .i64 b, .int .i64 m, v2] _ (.string (Pl.str (Pl.decI SK))) ((slot_of f (by decide : 4 < 166)).trans h4) ((slot_of f (by decide : 5 < 166)).trans h5) hS rfl Tryz.underlying30 (by rw [size_desk]; rfl)) rfl ?_
              exact HFin.out _ rfl _ _ hgr (hprf)
        · exact absurd hj (by omega)
      · -- none of these
        have q0 : (A.toList == ([110, 117, 109, 98, 101, 114] : List UInt8)) = false := word_no (b := [110, 117, 109, 98, 101, 114]) (hno ⟨0, by decide⟩)
        have q1 : (A.toList == ([100, 105, 103, 105, 116, 115] : List UInt8)) = false := word_no (b := [100, 105, 103, 105, 116, 115]) (hno ⟨1, by decide⟩)
        have q2 : (A.toList == ([114, 111, 111, 116] : List UInt8)) = false := word_no (b := [114, 111, 111, 116]) (hno ⟨2, by decide⟩)
        have q3 : (A.toList == ([114, 111, 117, 110, 100] : List UInt8)) = false := word_no (b := [114, 111, 117, 110, 100]) (hno ⟨3, by decide⟩)
        have q4 : (A.toList == ([104, 97, 112, 112, 121] : List UInt8)) = false := word_no (b := [104, 97, 112, 112, 121]) (hno ⟨4, by decide⟩)
        have q5 : (A.toList == ([112, 97, 108, 105, 110, 100, 114, 111, 109, 101] : List UInt8)) = false := word_no (b := [112, 97, 108, 105, 110, 100, 114, 111, 109, 101]) (hno ⟨5, by decide⟩)
        have q6 : (A.toList == ([115, 101, 108, 102] : List UInt8)) = false := word_no (b := [115, 101, 108, 102]) (hno ⟨6, by decide⟩)
        have q7 : (A.toList == ([112, 101, 114, 115, 105, 115, 116, 115] : List UInt8)) = false := word_no (b := [112, 101, 114, 115, 105, 115, 116, 115]) (hno ⟨7, by decide⟩)
        have q8 : (A.toList == ([110, 111, 117, 103, 104, 116, 115] : List UInt8)) = false := word_no (b := [110, 111, 117, 103, 104, 116, 115]) (hno ⟨8, by decide⟩)
        have q9 : (A.toList == ([115, 116, 101, 112, 115] : List UInt8)) = false := word_no (b := [115, 116, 101, 112, 115]) (hno ⟨9, by decide⟩)
        have HC := Lib.hid (fun W => specCut A hs W)
        go_wp2_with fail
        refine (HC.out _).mono ?_
        rintro e w5 ⟨wv, rfl, ht, b5⟩
        have hg5 : W.grownBy w5 (some (w.heap.size + 1)) := ⟨b5.os, b5.tape, b5.output, b5.size, fun k hk _ => b5.block k hk⟩
        replace HS := HS.kept b5
        replace HR4 := HR4.kept b5
        have hW5 := b5.size
        have hlen := Pl.cutL_mem 32 A.data.toList
        have hAl := Pl.data_len A
        clear HS3 HC b5
        by_cases hl : (Pl.cutL 32 A.data.toList).length = 2
        · obtain ⟨x, y, hws⟩ := len_two hl
          have hY : (Pl.str y).size ≤ 1000000000 := by have := hlen y (by rw [hws]; simp); rw [Pl.str_size]; omega
          have hX : (Pl.str x).size ≤ 1000000000 := by have := hlen x (by rw [hws]; simp); rw [Pl.str_size]; omega
          have HRY := Lib.hid (fun W => specRead (Pl.str y) hY W)
          simp only [Pl.str_data] at HRY
          have HRS := Pl.restL_yes ⟨b, m, p⟩ (line := A.data.toList)
          have HRN := Pl.restL_no ⟨b, m, p⟩ (line := A.data.toList)
          rw [hws] at ht HRS HRN
          obtain ⟨g', cap', hv, hgb, hgl, _, hcell⟩ := ht.lies (by simp)
          have c0 : w5.cell? ⟨g', 0, none⟩ = some (.string (Pl.str x)) := hcell 0 (by simp)
          have c1 : w5.cell? ⟨g', 1, none⟩ = some (.string (Pl.str y)) := hcell 1 (by simp)
          replace hv : wv = .slice (some ⟨g', 0, none⟩) 2 cap' := hv
          simp only [List.length_cons, List.length_nil, List.getElem?_cons_zero, List.getElem?_cons_succ, Option.getD_some, true_and, Nat.zero_add, Nat.reduceAdd] at HRS HRN
          subst hv
          have hne1 : g' ≠ w.heap.size + 1 := by omega
          have HW1 : ∀ W', w5.grownBy W' (some (w.heap.size + 1)) → W'.cell? ⟨g', 1, none⟩ = some (.string (Pl.str y)) := fun W' hgr => hgr.cell c1 (fun e => by injection e with e; exact hne1 e)
          have hrb := Pl.readN_le y
          clear hcell ht hlen hws hl
          generalize Pl.str y = Y at *
          generalize Pl.readN y = N at *
          by_cases hn : 0 ≤ N
          · replace HRS := HRS hn
            have hnl : ¬ N < 0 := by omega
            have hNB : 0 ≤ N ∧ N ≤ 1000000000 := ⟨hn, hrb.2⟩
            clear HRN hn hrb
            by_cases hxc : x = Pl.carriesW
            · have hprf : Pl.lineA ⟨b, m, p⟩ A.data.toList = (⟨b, m, p⟩, Pl.decI (Pl.carI m N b)) := by rw [HEnd.out, Pl.ansL_rest _ hnone, HRS, Pl.ask2, if_pos hxc]
              have k0 : ((Pl.str x).toList == ([99, 97, 114, 114, 105, 101, 115] : List UInt8)) = true := word_yes (b := [99, 97, 114, 114, 105, 101, 115]) hxc
              generalize Pl.str x = X at *
              go_wp2_with fail
              refine (HRY.out _).mono ?_
              rintro e w6 ⟨rfl, rfl⟩
              go_wp2_with fail
              refine wp_region_tq (w.heap.size + 1) 9 (fun W' => SBox W' (w.heap.size + 1) 30 #[.int .i64 b, .int .i64 m, v2]) (fun _ _ h hb => h.kept hb)
                (fun t => match t with | 4 => some (.is (.pointer (some ⟨w.heap.size + 1, 0, none⟩))) | 5 => some (.is (.string (Pl.str (Pl.decI (Pl.carI m N b))))) | 6 => some (.is (.pointer (some ⟨S6, 0, none⟩))) | 11 => some (.is (.int .i64 m)) | 12 => some (.is (.int .i64 b)) | 19 => some (.is (.slice (some ⟨g', 0, none⟩) 2 cap')) | 146 => some (.is (.agg #[.int .i64 b, .int .i64 m, v2])) | 147 => some (.is (.int .i64 m)) | 148 => some (.is (.slice (some ⟨g', 0, none⟩) 2 cap')) | 149 => some (.is (.pointer (some ⟨g', 1, none⟩))) | 150 => some (.is (.string Y)) | 151 => some (.is (.int .i64 N)) | 152 => some (.is (.int .i64 b)) | 153 => some (.is (.int .i64 (Pl.carI m N b))) | 154 => some (.is (.string (Pl.str (Pl.decI (Pl.carI m N b))))) | _ => none) mixed (by decide) (by kernel_rfl) ?_ ?_ ?_ ?_
              · intro t z h hn
                split at h <;> first | (cases h; done) | (cases h; rfl) | exact absurd (by decide) hn
              · intro i o hne hio a W' hin hgr
                rcases i with _ | _ | _ | _ | _ | _ | _ | _ | _ | _ | _ | i
                all_goals first
                  | (cases hio; done)
                  | exact absurd rfl hne
                  | (obtain rfl := Option.some.inj hio)
                · refine ⟨_, fun d hd => by cases hd; rfl, ?_⟩
                  exact tn_load rfl (hin 6 _ (by simp [Op.operands]) rfl) (HS.grown hgr (by simp; omega)) rfl rfl
                · refine ⟨_, fun d hd => by cases hd; rfl, ?_⟩
                  exact tn_copy (.inl rfl) (hin 11 _ (by simp [Op.operands]) rfl)
                · refine ⟨_, fun d hd => by cases hd; rfl, ?_⟩
                  exact tn_copy (.inl rfl) (hin 19 _ (by simp [Op.operands]) rfl)
                · refine ⟨_, fun d hd => by cases hd; rfl, ?_⟩
                  exact tn_index (k := 1) rfl (hin 148 _ (by simp [Op.operands]) rfl) (by decide)
                · refine ⟨_, fun d hd => by cases hd; rfl, ?_⟩
                  exact tn_loadS rfl (hin 149 _ (by simp [Op.operands]) rfl) (HW1 _ hgr)
                · refine ⟨_, fun d hd => by cases hd; rfl, ?_⟩
                  have e150 : a.eval (.tmp 150) = .string Y := hin 150 _ (by simp [Op.operands, Call.operands]) rfl
                  refine tn_call rfl rfl (enters_of Tryz.func76 (by kernel_rfl) rfl) (args := #[.string Y]) (by show #[a.eval (.tmp 150)] = _; rw [e150]) ?_
                  refine (HRY.out W').mono ?_
                  rintro e W2 ⟨rfl, rfl⟩
                  exact ⟨_, rfl, rfl, Below.refl _ _⟩
                · refine ⟨_, fun d hd => by cases hd; rfl, ?_⟩
                  exact tn_copy (.inl rfl) (hin 12 _ (by simp [Op.operands]) rfl)
                · refine ⟨_, fun d hd => by cases hd; rfl, ?_⟩
                  have e147 : a.eval (.tmp 147) = .int .i64 m := hin 147 _ (by simp [Op.operands, Call.operands]) rfl
                  have e151 : a.eval (.tmp 151) = .int .i64 N := hin 151 _ (by simp [Op.operands, Call.operands]) rfl
                  have e152 : a.eval (.tmp 152) = .int .i64 b := hin 152 _ (by simp [Op.operands, Call.operands]) rfl
                  refine tn_call rfl rfl (enters_of Tryz.func77 (by kernel_rfl) rfl) (args := #[.int .i64 m, .int .i64 N, .int .i64 b]) (by show #[a.eval (.tmp 147), a.eval (.tmp 151), a.eval (.tmp 152)] = _; rw [e147, e151, e152]) ?_
                  refine (specCarriesOf m N b W').mono ?_
                  rintro e W2 ⟨rfl, hb⟩
                  exact ⟨_, rfl, rfl, hb⟩
                · refine ⟨_, fun d hd => by cases hd; rfl, ?_⟩
                  have e153 : a.eval (.tmp 153) = .int .i64 (Pl.carI m N b) := hin 153 _ (by simp [Op.operands, Call.operands]) rfl
                  refine tn_call rfl rfl (enters_of Tryz.func63 (by kernel_rfl) rfl) (args := #[.int .i64 (Pl.carI m N b)]) (by show #[a.eval (.tmp 153)] = _; rw [e153]) ?_
                  exact specNumberI (Pl.carI m N b) (by have := Pl.car_bnd hOK hNB; omega) W'
                · refine ⟨_, fun d hd => by cases hd; rfl, ?_⟩
                  exact tn_copy (.inr rfl) (hin 154 _ (by simp [Op.operands]) rfl)
              · intro o ho a W' hin hb
                obtain rfl := Option.some.inj ho
                exact tn_store rfl rfl (hin 4 _ (by simp [Op.operands]) rfl) (hin 146 _ (by simp [Op.operands]) rfl) HV1 (HR4.kept hb) rfl (fun _ hS _ => hS)
              · intro f W' hin hold hS hgr
                have h4 : f 4 = .pointer (some ⟨w.heap.size + 1, 0, none⟩) := hin 4 _ rfl
                have h5 : f 5 = .string (Pl.str (Pl.decI (Pl.carI m N b))) := hin 5 _ rfl
                go_wp2
                refine bodyPost_ret (results_cell_tmp rfl _ _ (w.heap.size + 1) #[.int .i64 b, .int .i64 m, v2] _ (.string (Pl.str (Pl.decI (Pl.carI m N b)))) ((slot_of f (by decide : 4 < 166)).trans h4) ((slot_of f (by decide : 5 < 166)).trans h5) hS rfl Tryz.underlying30 (by rw [size_desk]; rfl)) rfl ?_
                exact HFin.out _ rfl _ _ (hg5.trans hgr) hprf
            · have k0 : ((Pl.str x).toList == ([99, 97, 114, 114, 105, 101, 115] : List UInt8)) = false := word_no (b := [99, 97, 114, 114, 105, 101, 115]) hxc
              by_cases hxo : x = Pl.oneW
              · have hprf : Pl.lineA ⟨b, m, p⟩ A.data.toList = (⟨b, m, p⟩, Pl.rowT (Pl.roundP 1 N b)) := by rw [HEnd.out, Pl.ansL_rest _ hnone, HRS, Pl.ask2, if_neg hxc, if_pos hxo]
                have k1 : ((Pl.str x).toList == ([111, 110, 101] : List UInt8)) = true := word_yes (b := [111, 110, 101]) hxo
                generalize Pl.str x = X at *
                go_wp2_with fail
                refine (HRY.out _).mono ?_
                rintro e w6 ⟨rfl, rfl⟩
                go_wp2_with fail
                refine wp_region_tq (w.heap.size + 1) 8 (fun W' => SBox W' (w.heap.size + 1) 30 #[.int .i64 b, .int .i64 m, v2]) (fun _ _ h hb => h.kept hb)
                  (fun t => match t with | 4 => some (.is (.pointer (some ⟨w.heap.size + 1, 0, none⟩))) | 5 => some (.is (.string (Pl.str (Pl.rowT (Pl.roundP 1 N b))))) | 6 => some (.is (.pointer (some ⟨S6, 0, none⟩))) | 12 => some (.is (.int .i64 b)) | 19 => some (.is (.slice (some ⟨g', 0, none⟩) 2 cap')) | 157 => some (.is (.agg #[.int .i64 b, .int .i64 m, v2])) | 158 => some (.is (.slice (some ⟨g', 0, none⟩) 2 cap')) | 159 => some (.is (.pointer (some ⟨g', 1, none⟩))) | 160 => some (.is (.string Y)) | 161 => some (.is (.int .i64 N)) | 162 => some (.is (.int .i64 b)) | 163 => some (.row w5.heap.size (Pl.roundP 1 N b)) | 164 => some (.is (.string (Pl.str (Pl.rowT (Pl.roundP 1 N b))))) | _ => none) mixed (by decide) (by kernel_rfl) ?_ ?_ ?_ ?_
                · intro t z h hn
                  split at h <;> first | (cases h; done) | (cases h; rfl) | exact absurd (by decide) hn
                · intro i o hne hio a W' hin hgr
                  rcases i with _ | _ | _ | _ | _ | _ | _ | _ | _ | _ | i
                  all_goals first
                    | (cases hio; done)
                    | exact absurd rfl hne
                    | (obtain rfl := Option.some.inj hio)
                  · refine ⟨_, fun d hd => by cases hd; rfl, ?_⟩
                    exact tn_load rfl (hin 6 _ (by simp [Op.operands]) rfl) (HS.grown hgr (by simp; omega)) rfl rfl
                  · refine ⟨_, fun d hd => by cases hd; rfl, ?_⟩
                    exact tn_copy (.inl rfl) (hin 19 _ (by simp [Op.operands]) rfl)
                  · refine ⟨_, fun d hd => by cases hd; rfl, ?_⟩
                    exact tn_index (k := 1) rfl (hin 158 _ (by simp [Op.operands]) rfl) (by decide)
                  · refine ⟨_, fun d hd => by cases hd; rfl, ?_⟩
                    exact tn_loadS rfl (hin 159 _ (by simp [Op.operands]) rfl) (HW1 _ hgr)
                  · refine ⟨_, fun d hd => by cases hd; rfl, ?_⟩
                    have e160 : a.eval (.tmp 160) = .string Y := hin 160 _ (by simp [Op.operands, Call.operands]) rfl
                    refine tn_call rfl rfl (enters_of Tryz.func76 (by kernel_rfl) rfl) (args := #[.string Y]) (by show #[a.eval (.tmp 160)] = _; rw [e160]) ?_
                    refine (HRY.out W').mono ?_
                    rintro e W2 ⟨rfl, rfl⟩
                    exact ⟨_, rfl, rfl, Below.refl _ _⟩
                  · refine ⟨_, fun d hd => by cases hd; rfl, ?_⟩
                    exact tn_copy (.inl rfl) (hin 12 _ (by simp [Op.operands]) rfl)
                  · refine ⟨_, fun d hd => by cases hd; rfl, ?_⟩
                    have e161 : a.eval (.tmp 161) = .int .i64 N := hin 161 _ (by simp [Op.operands, Call.operands]) rfl
                    have e162 : a.eval (.tmp 162) = .int .i64 b := hin 162 _ (by simp [Op.operands, Call.operands]) rfl
                    refine tn_call rfl rfl (enters_of Tryz.func78 (by kernel_rfl) rfl) (args := #[.int .i64 1, .int .i64 N, .int .i64 b]) (by show #[.int .i64 1, a.eval (.tmp 161), a.eval (.tmp 162)] = _; rw [e161, e162]) ?_
                    refine (specRoundOf 1 N b W').mono ?_
                    rintro e W2 ⟨v, rfl, hr, hb⟩
                    exact ⟨v, rfl, ⟨by omega, hr.mono hgr.size⟩, hb⟩
                  · refine ⟨_, fun d hd => by cases hd; rfl, ?_⟩
                    obtain ⟨_, hrow⟩ := hin 163 _ (by simp [Op.operands, Call.operands]) rfl
                    exact tn_call rfl rfl (enters_of Tryz.func64 (by kernel_rfl) rfl) (args := #[a.eval (.tmp 163)]) rfl (specRowI _ _ _ W' hrow (Pl.over_few N b).1 (Nat.le_trans (Pl.over_few N b).2 (by omega)))
                  · refine ⟨_, fun d hd => by cases hd; rfl, ?_⟩
                    exact tn_copy (.inr rfl) (hin 164 _ (by simp [Op.operands]) rfl)
                · intro o ho a W' hin hb
                  obtain rfl := Option.some.inj ho
                  exact tn_store rfl rfl (hin 4 _ (by simp [Op.operands]) rfl) (hin 157 _ (by simp [Op.operands]) rfl) HV1 (HR4.kept hb) rfl (fun _ hS _ => hS)
                · intro f W' hin hold hS hgr
                  have h4 : f 4 = .pointer (some ⟨w.heap.size + 1, 0, none⟩) := hin 4 _ rfl
                  have h5 : f 5 = .string (Pl.str (Pl.rowT (Pl.roundP 1 N b))) := hin 5 _ rfl
                  go_wp2
                  refine bodyPost_ret (results_cell_tmp rfl _ _ (w.heap.size + 1) #[.int .i64 b, .int .i64 m, v2] _ (.string (Pl.str (Pl.rowT (Pl.roundP 1 N b)))) ((slot_of f (by decide : 4 < 166)).trans h4) ((slot_of f (by decide : 5 < 166)).trans h5) hS rfl Tryz.underlying30 (by rw [size_desk]; rfl)) rfl ?_
                  exact HFin.out _ rfl _ _ (hg5.trans hgr) hprf
              · have hprf : Pl.lineA ⟨b, m, p⟩ A.data.toList = (⟨b, m, p⟩, Pl.whatW) := by rw [HEnd.out, Pl.ansL_rest _ hnone, HRS, Pl.ask2, if_neg hxc, if_neg hxo]
                have k1 : ((Pl.str x).toList == ([111, 110, 101] : List UInt8)) = false := word_no (b := [111, 110, 101]) hxo
                generalize Pl.str x = X at *
                go_wp2_with fail
                refine (HRY.out _).mono ?_
                rintro e w6 ⟨rfl, rfl⟩
                go_wp2_with (first | (refine desk_load rfl _ rfl rfl HS ?_) | (refine desk_store rfl _ _ rfl rfl rfl HV1 HR4 ?_; intro w6 hS6 hbl6 hsz6 hO6))
                refine bodyPost_ret (results_cell_tmp rfl _ _ (w.heap.size + 1) #[.int .i64 b, .int .i64 m, v2] _ _ rfl rfl hS6 rfl Tryz.underlying30 (by rw [size_desk]; rfl)) rfl ?_
                exact HFin.out _ rfl _ _ (hg5.trans (grown_but (hbl6 _ (Nat.le_refl _)) hsz6 hO6)) hprf
          · have hprf : Pl.lineA ⟨b, m, p⟩ A.data.toList = (⟨b, m, p⟩, Pl.whatW) := by rw [HEnd.out, Pl.ansL_rest _ hnone, HRN hn]
            have hnl : N < 0 := by omega
            clear HRN HRS hn hrb
            generalize Pl.str x = X at *
            go_wp2_with fail
            refine (HRY.out _).mono ?_
            rintro e w6 ⟨rfl, rfl⟩
            go_wp2_with (first | (refine desk_load rfl _ rfl rfl HS ?_) | (refine desk_store rfl _ _ rfl rfl rfl HV1 HR4 ?_; intro w6 hS6 hbl6 hsz6 hO6))
            refine bodyPost_ret (results_cell_tmp rfl _ _ (w.heap.size + 1) #[.int .i64 b, .int .i64 m, v2] _ _ rfl rfl hS6 rfl Tryz.underlying30 (by rw [size_desk]; rfl)) rfl ?_
            exact HFin.out _ rfl _ _ (hg5.trans (grown_but (hbl6 _ (Nat.le_refl _)) hsz6 hO6)) hprf
        · have hprf : Pl.lineA ⟨b, m, p⟩ A.data.toList = (⟨b, m, p⟩, Pl.whatW) := by rw [HEnd.out, Pl.ansL_rest _ hnone, Pl.restL_no _ (fun h => hl h.1)]
          obtain ⟨wa, wc, rfl⟩ := ht.shape
          have hl1 : (((Pl.cutL 32 A.data.toList).length : Int) != 2) = true := by rw [bne_iff_ne]; omega
          clear ht hlen
          generalize (Pl.cutL 32 A.data.toList).length = L at *
          go_wp2_with (first | (refine desk_load rfl _ rfl rfl HS ?_) | (refine desk_store rfl _ _ rfl rfl rfl HV1 HR4 ?_; intro w6 hS6 hbl6 hsz6 hO6))
          refine bodyPost_ret (results_cell_tmp rfl _ _ (w.heap.size + 1) #[.int .i64 b, .int .i64 m, v2] _ _ rfl rfl hS6 rfl Tryz.underlying30 (by rw [size_desk]; rfl)) rfl ?_
          exact HFin.out _ rfl _ _ (hg5.trans (grown_but (hbl6 _ (Nat.le_refl _)) hsz6 hO6)) hprf
  · have HEnd := Lib.hid (Pl.lineA_no hok A.data.toList)
    have hf : Pl.dkB ⟨b, m, p⟩ = false := by simpa using hok
    rw [hf]
    clear hok hf HRD HDO HI1 HA1
    go_wp2_with (first | (refine desk_store rfl _ _ rfl rfl rfl rfl HR1.out ?_; intro w5 hS5 hbl5 hsz5 hO5))
    refine bodyPost_ret (results_cell_tmp rfl _ _ (w.heap.size + 1) #[.int .i64 0, .int .i64 0, .slice none 0 0] _ _ rfl rfl hS5 rfl Tryz.underlying30 (by rw [size_desk]; rfl)) rfl ?_
    rw [HEnd.out]
    exact ⟨.slice none 0 0, rfl, .inl ⟨by simp [Pl.dk0], .inl ⟨rfl, rfl⟩⟩, hb1.trans (hbl5 w.heap.size (by omega))⟩

end Go.Proofs.YtgkkoegfmhgcjaaGreatDoor

