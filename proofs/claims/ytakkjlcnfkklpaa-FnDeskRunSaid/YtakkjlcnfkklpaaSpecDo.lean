/-
  spec.DeskDo: a desk after a deed.
-/
import Derived.Deep.DeepCutAuto
import Derived.Test.YtakkjlcnfkklpaaSpecDesk
namespace Go.Proofs.Ytakkjlcnfkklpaa
open Go.RowKit Go.Shelf

/-- Integers in a call's own memory: a row, or the end of one. -/
def OwnTail (base : Nat) (w : World) (v : Value) (xs : List Int) : Prop := Row base w v xs ∨ RowTail base w v xs
theorem OwnTail.ints {base : Nat} {w : World} {v : Value} {xs : List Int} (h : OwnTail base w v xs) : Ints w v xs := h.elim Row.ints RowTail.ints
theorem OwnTail.below {base : Nat} {w w' : World} {v : Value} {xs : List Int} (h : OwnTail base w v xs) (hb : Below w.heap.size w w') : OwnTail base w' v xs := h.imp (fun h => h.below hb) (fun h => h.below hb)
/-- A beginning of a row is one. -/
theorem Row.front {base : Nat} {w : World} {g cap n : Nat} {xs : List Int} (h : Row base w (.slice (some ⟨g, 0, none⟩) n cap) xs) (hn : xs.length = n) {m : Nat} (hm : m ≤ n) : Row base w (.slice (some ⟨g, 0, none⟩) m cap) (xs.take m) := by
  subst hn
  rcases h with ⟨h1, h2 | ⟨g', cap', cur, hv, hg, hh, h3, h4, h5, h6⟩⟩
  · simp at h2
  · simp only [Value.slice.injEq, Option.some.injEq, Addr.mk.injEq, and_true, true_and] at hv
    obtain ⟨rfl, rfl⟩ := hv
    have hl : (xs.take m).length = m := by rw [List.length_take]; omega
    refine ⟨by simp, .inr ⟨g, cap, cur, by rw [hl], hg, hh, by rw [hl]; omega, h4, h5, ?_⟩⟩
    rw [hl, List.map_take, ← h6, List.take_take]
    congr 1; omega

/-- A row lies as it lay where a struct's field is written. -/
theorem Row.setBox {base : Nat} {w : World} {v : Value} {xs : List Int} (h : Row base w v xs) {B : Nat} {T : TypeId} {cs : Array Value} (hB : SBox w B T cs) (hT : T ≠ 3) (i : Nat) (u : Value) : Row base (w.setCell ⟨B, i, none⟩ u) v xs := by
  rcases h with ⟨h1, h2 | ⟨g, cap, cur, hv, hg, hh, r⟩⟩
  · exact ⟨h1, .inl h2⟩
  · refine ⟨h1, .inr ⟨g, cap, cur, hv, hg, ?_, r⟩⟩
    rw [Below.heap_setCell _ _ _ _ ?_]
    · exact hh
    · rintro rfl
      unfold SBox at hB
      rw [hB] at hh
      injection hh with hh
      injection hh with _ ht _
      exact hT ht
/-- A call that hands back a desk in new memory, and a truth. -/
def DoPost (w : World) (few : Prop) (r : Pl.Dk × Bool) (e : Ending) (w' : World) : Prop :=
  ∃ v, e = .returned (.tuple #[.agg #[.int .i64 r.1.b, .int .i64 r.1.n, v], .bool r.2]) ∧ OwnTail w.heap.size w' v r.1.past ∧ (few → Row w.heap.size w' v r.1.past) ∧ Below w.heap.size w w'

set_option maxRecDepth 100000 in
set_option maxHeartbeats 4000000 in
theorem specDeskDo (d : Pl.Dk) (pv : Value) (k n : Int) (w : World) (hp : Ints w pv d.past) (hx : d.past.length ≤ 100000000) :
    Calls Try.prog 22 #[.agg #[.int .i64 d.b, .int .i64 d.n, pv], .agg #[.int .i64 k, .int .i64 n]] w (DoPost w (d.past.length < 8) (Pl.doA d k n)) := by
  obtain ⟨b, m, p⟩ := d
  simp only at hp hx ⊢
  have hp' := hp
  obtain ⟨a0, cap0, rfl, _⟩ := hp'
  have hb0 : Below w.heap.size w (((w.alloc (.cells #[.int .i64 b, .int .i64 m, (.slice a0 p.length cap0)] 25)).alloc (.cells #[.int .i64 k, .int .i64 n] 36)).alloc (.cells #[.int .i64 0, .int .i64 0, .slice none 0 0] 25)) :=
    (((Below.refl _ w).alloc (Nat.le_refl _) _).alloc (by simp) _).alloc (by simp; omega) _
  have hA0 : SBox (((w.alloc (.cells #[.int .i64 b, .int .i64 m, (.slice a0 p.length cap0)] 25)).alloc (.cells #[.int .i64 k, .int .i64 n] 36)).alloc (.cells #[.int .i64 0, .int .i64 0, .slice none 0 0] 25)) w.heap.size 25 #[.int .i64 b, .int .i64 m, (.slice a0 p.length cap0)] :=
    ((SBox.new w 25 #[.int .i64 b, .int .i64 m, (.slice a0 p.length cap0)]).alloc _).alloc _
  have hE0 : SBox (((w.alloc (.cells #[.int .i64 b, .int .i64 m, (.slice a0 p.length cap0)] 25)).alloc (.cells #[.int .i64 k, .int .i64 n] 36)).alloc (.cells #[.int .i64 0, .int .i64 0, .slice none 0 0] 25)) (w.heap.size + 1) 36 #[.int .i64 k, .int .i64 n] := by
    have := (SBox.new (w.alloc (.cells #[.int .i64 b, .int .i64 m, (.slice a0 p.length cap0)] 25)) 36 #[.int .i64 k, .int .i64 n]).alloc (.cells #[.int .i64 0, .int .i64 0, .slice none 0 0] 25)
    rwa [World.size_alloc] at this
  have hR0 : SBox (((w.alloc (.cells #[.int .i64 b, .int .i64 m, (.slice a0 p.length cap0)] 25)).alloc (.cells #[.int .i64 k, .int .i64 n] 36)).alloc (.cells #[.int .i64 0, .int .i64 0, .slice none 0 0] 25)) (w.heap.size + 1 + 1) 25 #[.int .i64 0, .int .i64 0, .slice none 0 0] := by
    have := SBox.new ((w.alloc (.cells #[.int .i64 b, .int .i64 m, (.slice a0 p.length cap0)] 25)).alloc (.cells #[.int .i64 k, .int .i64 n] 36)) 25 #[.int .i64 0, .int .i64 0, .slice none 0 0]
    rwa [World.size_alloc, World.size_alloc] at this
  have hI0 := hp.below hb0
  have hz0 : (((w.alloc (.cells #[.int .i64 b, .int .i64 m, (.slice a0 p.length cap0)] 25)).alloc (.cells #[.int .i64 k, .int .i64 n] 36)).alloc (.cells #[.int .i64 0, .int .i64 0, .slice none 0 0] 25)).heap.size = w.heap.size + 1 + 1 + 1 := by simp
  have HOK := Lib.hid (fun W (h : Ints W (.slice a0 p.length cap0) p) => specDeskOk ⟨b, m, p⟩ (.slice a0 p.length cap0) W h (Nat.le_trans hx (by omega)))
  have HCP := Lib.hid (fun W (h : Ints W (.slice a0 p.length cap0) p) => spec12Copy ⟨b, m, p⟩ (.slice a0 p.length cap0) W h hx)
  have HMK := Lib.hid (fun W => spec12Made ⟨b, m, p⟩ (.slice a0 p.length cap0) k n W)
  simp only at HOK HCP HMK
  go_enter Try.func22, Try.ntmps22
  go_wp2_with fail
  generalize (((w.alloc (.cells #[.int .i64 b, .int .i64 m, (.slice a0 p.length cap0)] 25)).alloc (.cells #[.int .i64 k, .int .i64 n] 36)).alloc (.cells #[.int .i64 0, .int .i64 0, .slice none 0 0] 25)) = w0 at *
  refine (HOK.out _ hI0).mono ?_
  rintro e w1 ⟨rfl, b1⟩
  have hA1 := hA0.kept b1
  have hE1 := hE0.kept b1
  have hR1 := hR0.kept b1
  have hI1 := hI0.below b1
  have hb1 := hb0.trans (b1.mono hb0.size)
  have hz1 : w.heap.size + 3 ≤ w1.heap.size := by have := b1.size; omega
  clear hA0 hE0 hR0 hI0 hb0 hz0 b1 HOK hp
  by_cases hok : Pl.dkB ⟨b, m, p⟩ = true
  · rw [hok]
    have HA1 := Lib.hid hA1
    have HE1 := Lib.hid hE1
    have HR1 := Lib.hid hR1
    have HI1 := Lib.hid hI1
    clear hA1 hE1 hR1 hI1
    go_wp2_with (refine desk_load rfl _ rfl rfl HA1.out ?_)
    refine (HCP.out _ HI1.out).mono ?_
    rintro e w2 ⟨v2, rfl, r2', b2⟩
    have r2 : Row w1.heap.size w2 v2 p := r2'
    clear r2'
    have HA2 := Lib.hid (HA1.out.kept b2)
    have HE2 := Lib.hid (HE1.out.kept b2)
    have HR2 := Lib.hid (HR1.out.kept b2)
    have HI2 := Lib.hid (HI1.out.below b2)
    have hb2 := hb1.trans (b2.mono hb1.size)
    have hz2 := b2.size
    clear HA1 HE1 HR1 HI1 HCP
    by_cases hback : (k = 7 ∧ n = 0) ∧ p ≠ []
    · have hR := Lib.hid (Pl.doA_back hok hback.1 hback.2)
      obtain ⟨⟨rfl, rfl⟩, hne⟩ := hback
      have hl : 1 ≤ p.length := List.length_pos_iff.2 hne
      obtain ⟨g, cap, rfl, hg0, hg, hgc, _, hcell⟩ := r2.lies hl
      obtain ⟨q, hq⟩ : ∃ q, p.length = q + 1 := ⟨p.length - 1, by omega⟩
      have hlast := hcell q (by omega)
      have hrow := Lib.hid (r2.front rfl (m := q) (by omega))
      have hrow' : Hid (Row w1.heap.size w2 (.slice (some ⟨g, 0, none⟩) q cap) (p.take (p.length - 1))) := Lib.hid (by rw [hq, Nat.add_sub_cancel]; exact hrow.out)
      have ha2 := (HA2.out.alloc (.cells #[.int .i64 b, .int .i64 m, .slice (some ⟨g, 0, none⟩) p.length cap] 25)).cell 2
      rw [hq] at hR hgc HA2 ha2 ⊢
      rw [Nat.add_sub_cancel] at hR
      have hwq : IntKind.i64.wrap (q : Int) = (q : Int) := IntWalk.i64_in _ (by omega)
      have i1 : (q : Int) < (q : Int) + 1 := by omega
      have i2 : 0 ≤ (q : Int) := by omega
      have i3 : q < q + 1 := by omega
      have i4 : q ≤ cap := by omega
      have i5 : (q : Int) ≤ (cap : Int) := by omega
      have i6 : (0 : Int) < (q : Int) + 1 := by omega
      have hrow2 := hrow'
      rw [hq, Nat.add_sub_cancel] at hrow'
      have hcw : (w2.alloc (.cells #[.int .i64 b, .int .i64 m, .slice (some ⟨g, 0, none⟩) (q + 1) cap] 25)).cell? ⟨g, q, none⟩ = some (.int .i64 (p[q]?.getD 0)) := cell_alloc_l _ hlast
      clear r2 hcell hlast hrow hq hne hl hok HI2 HMK
      generalize p[q]?.getD 0 = L at *
      go_wp2_with (first | (refine deed_load rfl _ rfl rfl (HE2.out.alloc _) ?_) | (refine desk_store rfl _ _ rfl rfl rfl rfl (HR2.out.alloc _) ?_; intro w3 hS3 hbl3 hsz3 hO3))
      refine bodyPost_ret (results_cell_tmp rfl _ _ (w.heap.size + 1 + 1) #[.int .i64 b, .int .i64 L, .slice (some ⟨g, 0, none⟩) q cap] _ (.bool true) rfl rfl hS3 rfl Try.underlying25 (by rw [size_desk]; rfl)) rfl ?_
      rw [hR.out]
      have hrf : Row w.heap.size w3 (.slice (some ⟨g, 0, none⟩) q cap) (p.take q) := Row.mono (Row.others (World.ownsRow.alloc hrow'.out _) (B := w.heap.size + 1 + 1) (by omega) hO3) (by omega)
      have hfin := (hb2.alloc hb2.size (.cells #[.int .i64 b, .int .i64 L, .slice (some ⟨g, 0, none⟩) q cap] 25)).trans (hbl3 w.heap.size (by omega))
      exact ⟨.slice (some ⟨g, 0, none⟩) q cap, rfl, .inl hrf, fun _ => hrf, hfin⟩
    · have hcase : (((k == 7) = true ∧ (n == 0) = true) ∧ ¬ 0 < p.length) ∨ (k == 7) = false ∨ ((k == 7) = true ∧ (n == 0) = false) := by
        by_cases h7 : k = 7
        · by_cases hn : n = 0
          · left
            refine ⟨⟨by rw [h7]; rfl, by rw [hn]; rfl⟩, ?_⟩
            have : p = [] := Classical.byContradiction fun h => hback ⟨⟨h7, hn⟩, h⟩
            rw [this]; simp
          · right; right
            exact ⟨by rw [h7]; rfl, by rw [beq_eq_false_iff_ne]; exact hn⟩
        · right; left
          rw [beq_eq_false_iff_ne]; exact h7
      have hp8 := ((Pl.dkB_iff _).1 hok).2.2
      have hp8' : p.length ≤ 8 := hp8
      have HY := Lib.hid (fun h => Pl.doA_yes (d := ⟨b, m, p⟩) (k := k) (n := n) hok hback h)
      have HNO := Lib.hid (fun h => Pl.doA_not (d := ⟨b, m, p⟩) (k := k) (n := n) hok hback h)
      generalize Pl.mkI ⟨b, m, p⟩ k n = M at *
      have HR2r := Lib.hid r2
      obtain ⟨a2, c2, rfl⟩ := r2.shape
      have ha2 := (HA2.out.alloc (.cells #[.int .i64 b, .int .i64 m, .slice a2 p.length c2] 25)).cell 2
      have HB3 : Hid (SBox (w2.alloc (.cells #[.int .i64 b, .int .i64 m, .slice a2 p.length c2] 25)) w2.heap.size 25 #[.int .i64 b, .int .i64 m, .slice a2 p.length c2]) := Lib.hid (SBox.new _ _ _)
      have HA3 := Lib.hid (HA2.out.alloc (.cells #[.int .i64 b, .int .i64 m, .slice a2 p.length c2] 25))
      have HE3 := Lib.hid (HE2.out.alloc (.cells #[.int .i64 b, .int .i64 m, .slice a2 p.length c2] 25))
      have HR3 := Lib.hid (HR2.out.alloc (.cells #[.int .i64 b, .int .i64 m, .slice a2 p.length c2] 25))
      have HV3 : Hid (Row w1.heap.size (w2.alloc (.cells #[.int .i64 b, .int .i64 m, .slice a2 p.length c2] 25)) (.slice a2 p.length c2) p) := Lib.hid (World.ownsRow.alloc r2 _)
      have hb3 := hb2.alloc hb2.size (.cells #[.int .i64 b, .int .i64 m, .slice a2 p.length c2] 25)
      have hz3 : (w2.alloc (.cells #[.int .i64 b, .int .i64 m, .slice a2 p.length c2] 25)).heap.size = w2.heap.size + 1 := by simp
      have HOWN : Hid ((Value.slice a2 p.length c2).ownBlock ≠ some w2.heap.size) := Lib.hid fun e => by
        have := (World.ownsRow.lt r2 _ e).2
        omega
      clear r2 hp8 hok hback HA2 HE2 HR2 HI2 hb2 b2 hb1 HR2r
      go_upto_region 4 with (fail)
      generalize w2.alloc (.cells #[.int .i64 b, .int .i64 m, .slice a2 p.length c2] 25) = w3 at *
      go_cut [23] (fun t wc => t = .bool false ∧ wc = w3)
      case first =>
        rcases hcase with ⟨⟨k7, n0⟩, hl0⟩ | k7 | ⟨k7, n0⟩
        all_goals
          go_wp2_with (refine deed_load rfl _ rfl rfl HE3.out ?_)
          go_meet
          exact ⟨rfl, rfl⟩
      case rest =>
        obtain ⟨rfl, rfl⟩ := hcut
        go_wp2_with (first | (refine deed_load rfl _ rfl rfl HE3.out ?_) | (refine desk_load rfl _ rfl rfl HA3.out ?_))
        refine (HMK.out _).mono ?_
        rintro e w5 ⟨rfl, b5⟩
        have HB5 := Lib.hid (HB3.out.kept b5)
        have HA5 := Lib.hid (HA3.out.kept b5)
        have HR5 := Lib.hid (HR3.out.kept b5)
        have HV5 := Lib.hid (HV3.out.below b5)
        have hb5 := hb3.trans (b5.mono hb3.size)
        have hz5 := b5.size
        have ha1 := HA5.out.cell 1
        clear HB3 HA3 HE3 HR3 HV3 hb3 b5 ha2
        by_cases hw : Pl.wholeB M = true
        · have HIN : Hid (∀ W, Calls Try.prog 40 #[.int .i64 M, .int .i64 0, .int .i64 1000000000] W fun e w' => e = .returned (.bool true) ∧ W = w') := Lib.hid fun W => by
            have := specIn M 0 1000000000 W
            unfold Pl.wholeB at hw
            rwa [hw] at this
          by_cases hm : M = m
          · have hR := Lib.hid (HNO.out fun h => h.2 hm)
            have hmm : (M == m) = true := by rw [hm]; simp
            clear hw hm HY HNO
            go_wp2_with (first | (go_at_call 40; refine (HIN.out _).mono ?_; rintro e w' ⟨rfl, rfl⟩) | (refine desk_load rfl _ rfl rfl HB5.out ?_) | (refine desk_store rfl _ _ rfl rfl rfl rfl HR5.out ?_; intro w6 hS6 hbl6 hsz6 hO6))
            refine bodyPost_ret (results_cell_tmp rfl _ _ (w.heap.size + 1 + 1) #[.int .i64 b, .int .i64 m, .slice a2 p.length c2] _ (.bool false) rfl rfl hS6 rfl Try.underlying25 (by rw [size_desk]; rfl)) rfl ?_
            rw [hR.out]
            have hrf : Row w.heap.size w6 (.slice a2 p.length c2) p := Row.mono (Row.others HV5.out (B := w.heap.size + 1 + 1) (by omega) hO6) (by omega)
            exact ⟨_, rfl, .inl hrf, fun _ => hrf, hb5.trans (hbl6 w.heap.size (by omega))⟩
          · have hR := Lib.hid (HY.out ⟨hw, hm⟩)
            have hmm : (M == m) = false := by rw [beq_eq_false_iff_ne]; exact hm
            obtain ⟨i0, hi0, hz0, hz1, hz2'⟩ := info_parts info_int
            have hr2 : w5.ownsRow w1.heap.size 3 1 (.slice a2 p.length c2) p.length (p.map (Value.int .i64)) := HV5.out
            have e1 := HB5.out.cell 1
            have e2 := HB5.out.cell 2
            have H8 : Hid (∀ (v8 : Value) (w8 : World), w8.ownsRow w1.heap.size 3 1 v8 (p.length + 1) (p.map (Value.int .i64) ++ [.int .i64 m]) → (w5.alloc (.cells #[.int .i64 m] 3)).grownBy w8 (Value.slice a2 p.length c2).ownBlock →
              Row w1.heap.size w8 v8 (p ++ [m]) ∧ SBox w8 w2.heap.size 25 #[.int .i64 b, .int .i64 m, .slice a2 p.length c2] ∧ SBox w8 (w.heap.size + 1 + 1) 25 #[.int .i64 0, .int .i64 0, .slice none 0 0] ∧ Below w.heap.size w w8 ∧ w5.heap.size < w8.heap.size) := Lib.hid fun v8 w8 hown hgrow => by
              have hbA : Below w1.heap.size (w5.alloc (.cells #[.int .i64 m] 3)) w8 := (Below.refl _ _).grown hgrow (by simp; omega) fun k e => (World.ownsRow.lt hr2 k e).1
              refine ⟨row_snoc hown, (HB5.out.alloc _).grown hgrow HOWN.out, (HR5.out.alloc _).below hbA (by omega), ?_, ?_⟩
              · exact (hb5.alloc hb5.size _).trans (hbA.mono (by omega))
              · have := hgrow.size; simp at this; omega
            have hne : w.heap.size + 1 + 1 ≠ w2.heap.size := by omega
            clear hw hm HY HNO HV5
            by_cases h8 : 8 ≤ p.length
            · have h8t : (8 : Int) < (p.length : Int) + 1 := by omega
              have h8f : (1 : Int) ≤ (p.length : Int) + 1 := by omega
              go_upto_region 16 with (first
                | (go_at_call 40; refine (HIN.out _).mono ?_; rintro e w' ⟨rfl, rfl⟩)
                | (at_builtin; refine wpList_append_own _ rfl _ _ 23 rfl w1.heap.size 3 i0 (.int .i64 0) 1 8 Try.underlying23 hi0 hz0 hz1 hz2' rfl (by decide) _ _ _ rfl (hr2.alloc _) ⟨w5.heap.size, 0, none⟩ 1 1 [.int .i64 m] rfl rfl (cell_one_new _ _ _) (by simp [Value.oneCell']) (by unfold maxLen; omega) (by omega) (by rw [World.size_alloc]; omega) ?_; intro v8 w8 hown8 hgrow8 _; obtain ⟨r8, hB8, hR8, hb8, hz8⟩ := H8.out v8 w8 hown8 hgrow8; obtain ⟨g3, c3, rfl, hg3, hg3', hgc3, _, _⟩ := r8.lies (by simp); have f2 := hB8.frozen 2; have d2 := hB8.cell 2; have f1 := hB8.frozen 1; have d1 := hB8.cell 1; have d0 := hB8.cell 0; have HB8 := Lib.hid hB8; have HR8 := Lib.hid hR8; have HV8 := Lib.hid r8; have hgc4 : p.length + 1 ≤ c3 := (by simpa using hgc3); have hc31 : ¬ c3 = 1 := (by omega); clear r8 hB8 hR8 hown8 hgrow8 e1 e2; clear hgc3; simp only [List.length_append, List.length_cons, List.length_nil, Nat.zero_add]))
              have hSB : SBox (((w8.setCell ⟨w2.heap.size, 2, none⟩ (.slice (some ⟨g3, 0, none⟩) (p.length + 1) c3)).setCell ⟨w2.heap.size, 2, none⟩ (.slice (some ⟨g3, 1, none⟩) p.length (c3 - 1))).setCell ⟨w2.heap.size, 1, none⟩ (.int .i64 M)) w2.heap.size 25 #[.int .i64 b, .int .i64 M, .slice (some ⟨g3, 1, none⟩) p.length (c3 - 1)] := ((HB8.out.set 2 _).set 2 _).set 1 _
              have hSR : SBox (((w8.setCell ⟨w2.heap.size, 2, none⟩ (.slice (some ⟨g3, 0, none⟩) (p.length + 1) c3)).setCell ⟨w2.heap.size, 2, none⟩ (.slice (some ⟨g3, 1, none⟩) p.length (c3 - 1))).setCell ⟨w2.heap.size, 1, none⟩ (.int .i64 M)) (w.heap.size + 1 + 1) 25 #[.int .i64 0, .int .i64 0, .slice none 0 0] := ((HR8.out.far (p := ⟨w2.heap.size, 2, none⟩) hne _).far (p := ⟨w2.heap.size, 2, none⟩) hne _).far (p := ⟨w2.heap.size, 1, none⟩) hne _
              have hRW : Row w1.heap.size (((w8.setCell ⟨w2.heap.size, 2, none⟩ (.slice (some ⟨g3, 0, none⟩) (p.length + 1) c3)).setCell ⟨w2.heap.size, 2, none⟩ (.slice (some ⟨g3, 1, none⟩) p.length (c3 - 1))).setCell ⟨w2.heap.size, 1, none⟩ (.int .i64 M)) (.slice (some ⟨g3, 0, none⟩) (p ++ [m]).length c3) (p ++ [m]) := ((HV8.out.setBox HB8.out (by decide) 2 _).setBox (HB8.out.set 2 _) (by decide) 2 _).setBox ((HB8.out.set 2 _).set 2 _) (by decide) 1 _
              have hBW : Below w.heap.size w (((w8.setCell ⟨w2.heap.size, 2, none⟩ (.slice (some ⟨g3, 0, none⟩) (p.length + 1) c3)).setCell ⟨w2.heap.size, 2, none⟩ (.slice (some ⟨g3, 1, none⟩) p.length (c3 - 1))).setCell ⟨w2.heap.size, 1, none⟩ (.int .i64 M)) := ((hb8.setCell (p := ⟨w2.heap.size, 2, none⟩) (by simp; omega) _).setCell (p := ⟨w2.heap.size, 2, none⟩) (by simp; omega) _).setCell (p := ⟨w2.heap.size, 1, none⟩) (by simp; omega) _
              have HSB := Lib.hid hSB
              have HSR := Lib.hid hSR
              clear hSB hSR f2 d2 f1 d1 d0 ha1
              generalize (((w8.setCell ⟨w2.heap.size, 2, none⟩ (.slice (some ⟨g3, 0, none⟩) (p.length + 1) c3)).setCell ⟨w2.heap.size, 2, none⟩ (.slice (some ⟨g3, 1, none⟩) p.length (c3 - 1))).setCell ⟨w2.heap.size, 1, none⟩ (.int .i64 M)) = W9 at *
              go_wp2_with (first | (refine desk_load rfl _ rfl rfl HSB.out ?_) | (refine desk_store rfl _ _ rfl rfl rfl rfl HSR.out ?_; intro w9 hS9 hbl9 hsz9 hO9))
              refine bodyPost_ret (results_cell_tmp rfl _ _ (w.heap.size + 1 + 1) #[.int .i64 b, .int .i64 M, .slice (some ⟨g3, 1, none⟩) p.length (c3 - 1)] _ (.bool true) rfl rfl hS9 rfl Try.underlying25 (by rw [size_desk]; rfl)) rfl ?_
              rw [hR.out]
              have hcut : Pl.cut8 (p ++ [m]) = (p ++ [m]).drop 1 := by unfold Pl.cut8; rw [if_pos (by simp; omega)]
              have hrf : RowTail w.heap.size w9 (.slice (some ⟨g3, 1, none⟩) p.length (c3 - 1)) ((p ++ [m]).drop 1) :=
                ⟨g3, 1, c3 - 1, c3, p ++ [m], by simp, rfl, by simp; omega, Row.mono (Row.others hRW (B := w.heap.size + 1 + 1) (by omega) hO9) (by omega)⟩
              exact ⟨_, rfl, .inr (by rw [hcut]; exact hrf), fun h => by omega, hBW.trans (hbl9 w.heap.size (by omega))⟩
            · have h8t : ¬ (8 : Int) < (p.length : Int) + 1 := by omega
              go_upto_region 16 with (first
                | (go_at_call 40; refine (HIN.out _).mono ?_; rintro e w' ⟨rfl, rfl⟩)
                | (at_builtin; refine wpList_append_own _ rfl _ _ 23 rfl w1.heap.size 3 i0 (.int .i64 0) 1 8 Try.underlying23 hi0 hz0 hz1 hz2' rfl (by decide) _ _ _ rfl (hr2.alloc _) ⟨w5.heap.size, 0, none⟩ 1 1 [.int .i64 m] rfl rfl (cell_one_new _ _ _) (by simp [Value.oneCell']) (by unfold maxLen; omega) (by omega) (by rw [World.size_alloc]; omega) ?_; intro v8 w8 hown8 hgrow8 _; obtain ⟨r8, hB8, hR8, hb8, hz8⟩ := H8.out v8 w8 hown8 hgrow8; obtain ⟨g3, c3, rfl, hg3, hg3', hgc3, _, _⟩ := r8.lies (by simp); have f2 := hB8.frozen 2; have d2 := hB8.cell 2; have f1 := hB8.frozen 1; have d1 := hB8.cell 1; have d0 := hB8.cell 0; have HB8 := Lib.hid hB8; have HR8 := Lib.hid hR8; have HV8 := Lib.hid r8; clear r8 hB8 hR8 hown8 hgrow8 e1 e2; clear hgc3; simp only [List.length_append, List.length_cons, List.length_nil, Nat.zero_add]))
              have hSB : SBox ((w8.setCell ⟨w2.heap.size, 2, none⟩ (.slice (some ⟨g3, 0, none⟩) (p.length + 1) c3)).setCell ⟨w2.heap.size, 1, none⟩ (.int .i64 M)) w2.heap.size 25 #[.int .i64 b, .int .i64 M, .slice (some ⟨g3, 0, none⟩) (p.length + 1) c3] := (HB8.out.set 2 _).set 1 _
              have hSR : SBox ((w8.setCell ⟨w2.heap.size, 2, none⟩ (.slice (some ⟨g3, 0, none⟩) (p.length + 1) c3)).setCell ⟨w2.heap.size, 1, none⟩ (.int .i64 M)) (w.heap.size + 1 + 1) 25 #[.int .i64 0, .int .i64 0, .slice none 0 0] := (HR8.out.far (p := ⟨w2.heap.size, 2, none⟩) hne _).far (p := ⟨w2.heap.size, 1, none⟩) hne _
              have hRW : Row w1.heap.size ((w8.setCell ⟨w2.heap.size, 2, none⟩ (.slice (some ⟨g3, 0, none⟩) (p.length + 1) c3)).setCell ⟨w2.heap.size, 1, none⟩ (.int .i64 M)) (.slice (some ⟨g3, 0, none⟩) (p ++ [m]).length c3) (p ++ [m]) := (HV8.out.setBox HB8.out (by decide) 2 _).setBox (HB8.out.set 2 _) (by decide) 1 _
              have hBW : Below w.heap.size w ((w8.setCell ⟨w2.heap.size, 2, none⟩ (.slice (some ⟨g3, 0, none⟩) (p.length + 1) c3)).setCell ⟨w2.heap.size, 1, none⟩ (.int .i64 M)) := (hb8.setCell (p := ⟨w2.heap.size, 2, none⟩) (by simp; omega) _).setCell (p := ⟨w2.heap.size, 1, none⟩) (by simp; omega) _
              have HSB := Lib.hid hSB
              have HSR := Lib.hid hSR
              clear hSB hSR f2 d2 f1 d1 d0 ha1
              generalize ((w8.setCell ⟨w2.heap.size, 2, none⟩ (.slice (some ⟨g3, 0, none⟩) (p.length + 1) c3)).setCell ⟨w2.heap.size, 1, none⟩ (.int .i64 M)) = W9 at *
              go_wp2_with (first | (refine desk_load rfl _ rfl rfl HSB.out ?_) | (refine desk_store rfl _ _ rfl rfl rfl rfl HSR.out ?_; intro w9 hS9 hbl9 hsz9 hO9))
              refine bodyPost_ret (results_cell_tmp rfl _ _ (w.heap.size + 1 + 1) #[.int .i64 b, .int .i64 M, .slice (some ⟨g3, 0, none⟩) (p.length + 1) c3] _ (.bool true) rfl rfl hS9 rfl Try.underlying25 (by rw [size_desk]; rfl)) rfl ?_
              rw [hR.out]
              have hcut : Pl.cut8 (p ++ [m]) = p ++ [m] := Pl.cut8_few (by simp; omega)
              have hrf : Row w.heap.size w9 (.slice (some ⟨g3, 0, none⟩) (p.length + 1) c3) (p ++ [m]) := by
                have := Row.mono (Row.others hRW (B := w.heap.size + 1 + 1) (by omega) hO9) (show w.heap.size ≤ w1.heap.size by omega)
                simpa using this
              exact ⟨_, rfl, .inl (by rw [hcut]; exact hrf), fun _ => by rw [hcut]; exact hrf, hBW.trans (hbl9 w.heap.size (by omega))⟩
        · have hw' : Pl.wholeB M = false := by simpa using hw
          have HIN : Hid (∀ W, Calls Try.prog 40 #[.int .i64 M, .int .i64 0, .int .i64 1000000000] W fun e w' => e = .returned (.bool false) ∧ W = w') := Lib.hid fun W => by
            have := specIn M 0 1000000000 W
            unfold Pl.wholeB at hw'
            rwa [hw'] at this
          have hR := Lib.hid (HNO.out fun h => hw h.1)
          clear hw hw' HY HNO
          go_wp2_with (first | (go_at_call 40; refine (HIN.out _).mono ?_; rintro e w' ⟨rfl, rfl⟩) | (refine desk_load rfl _ rfl rfl HB5.out ?_) | (refine desk_store rfl _ _ rfl rfl rfl rfl HR5.out ?_; intro w6 hS6 hbl6 hsz6 hO6))
          refine bodyPost_ret (results_cell_tmp rfl _ _ (w.heap.size + 1 + 1) #[.int .i64 b, .int .i64 m, .slice a2 p.length c2] _ (.bool false) rfl rfl hS6 rfl Try.underlying25 (by rw [size_desk]; rfl)) rfl ?_
          rw [hR.out]
          have hrf : Row w.heap.size w6 (.slice a2 p.length c2) p := Row.mono (Row.others HV5.out (B := w.heap.size + 1 + 1) (by omega) hO6) (by omega)
          exact ⟨_, rfl, .inl hrf, fun _ => hrf, hb5.trans (hbl6 w.heap.size (by omega))⟩
  · have hno : Pl.dkB ⟨b, m, p⟩ = false := by simpa using hok
    rw [hno]
    have HR1 := Lib.hid hR1
    have hR := Lib.hid (Pl.doA_none (k := k) (n := n) hok)
    clear hA1 hE1 hR1 hI1 hok hno HCP HMK
    go_wp2_with (refine desk_store rfl _ _ rfl rfl rfl rfl HR1.out ?_; intro w2 hS2 hbl2 hsz2 _)
    refine bodyPost_ret (results_cell_tmp rfl _ _ (w.heap.size + 1 + 1) #[.int .i64 0, .int .i64 0, .slice none 0 0] _ (.bool false) rfl rfl hS2 rfl Try.underlying25 (by rw [size_desk]; rfl)) rfl ?_
    rw [hR.out]
    have hfin := hb1.trans (hbl2 w.heap.size (by omega))
    exact ⟨.slice none 0 0, rfl, .inl (World.ownsRow_nil _ _ _ _), fun _ => World.ownsRow_nil _ _ _ _, hfin⟩

end Go.Proofs.Ytakkjlcnfkklpaa
