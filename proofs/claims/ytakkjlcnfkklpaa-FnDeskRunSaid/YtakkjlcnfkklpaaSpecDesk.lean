/-
  spec.DeskOk, l12Copy, l12Made: desks.
-/
import Derived.Deep.RegionHeld3
import Derived.Test.YtakkjlcnfkklpaaMathDesk
import Derived.Test.YtakkjlcnfkklpaaStructs
import Derived.Test.YtakkjlcnfkklpaaSpecSelf
import Derived.Test.YtakkjlcnfkklpaaSpecProd
namespace Go.Proofs.Ytakkjlcnfkklpaa
open Go.RowKit Go.Shelf

namespace Pl
theorem whole_take {l : List Int} {k : Nat} (hk : k < l.length) (h : (l.take k).all wholeB = true) (h1 : wholeB (l[k]?.getD 0) = true) : (l.take (k + 1)).all wholeB = true := by
  rw [List.getElem?_eq_getElem hk, Option.getD_some] at h1
  rw [List.take_succ_eq_append_getElem hk, List.all_append, h]
  simp [h1]
theorem whole_not {l : List Int} {k : Nat} (hk : k < l.length) (h1 : wholeB (l[k]?.getD 0) = false) : l.all wholeB = false := by
  rw [List.getElem?_eq_getElem hk, Option.getD_some] at h1
  refine Bool.eq_false_iff.2 fun h => ?_
  rw [List.all_eq_true] at h
  rw [h _ (List.getElem_mem hk)] at h1; cases h1
end Pl

set_option maxRecDepth 100000 in
set_option maxHeartbeats 2000000 in
theorem specDeskOk (d : Pl.Dk) (pv : Value) (w : World) (hp : Ints w pv d.past) (hx : d.past.length ≤ 1000000000) :
    Calls Try.prog 13 #[.agg #[.int .i64 d.b, .int .i64 d.n, pv]] w fun e w' => e = .returned (.bool (Pl.dkB d)) ∧ Below w.heap.size w w' := by
  obtain ⟨b, n, p⟩ := d
  simp only at hp hx ⊢
  obtain ⟨a, cap, rfl, hc⟩ := hp
  have HC := Lib.hid hc
  have b0 : Below w.heap.size w (w.alloc (.cells #[.int .i64 b, .int .i64 n, .slice a p.length cap] 25)) := (Below.refl _ _).alloc (Nat.le_refl _) _
  obtain ⟨R, hR⟩ : ∃ R, Pl.dkB ⟨b, n, p⟩ = R := ⟨_, rfl⟩
  rw [hR]
  have HRR := Lib.hid hR
  clear hc hR
  go_enter Try.func13, Try.ntmps13
  go_wp2_with fail
  go_loop [3] (fun kv => ∃ k : Nat, k ≤ p.length ∧ kv = .int .i64 k ∧ (p.take k).all Pl.wholeB = true) (fun kv => p.length - (intOf kv).toNat)
  case atStart => exact ⟨0, Nat.zero_le _, rfl, rfl⟩
  case round =>
    obtain ⟨k, hk, rfl, hall⟩ := hrel
    by_cases hlt : k < p.length
    · obtain ⟨g, off, rfl, ck⟩ := HC.out k hlt
      have hg : g < w.heap.size := World.block_lt_of_cell? _ _ ck
      have ck' : (w.alloc (.cells #[.int .i64 b, .int .i64 n, .slice (some ⟨g, off, none⟩) p.length cap] 25)).cell? ⟨g, off + k, none⟩ = some (.int .i64 (p[k]?.getD 0)) := cell_alloc_l _ ck
      have hi : (k : Int) < (p.length : Int) := by omega
      cases hw : Pl.wholeB (p[k]?.getD 0) with
      | false =>
        have HR : Hid (R = false) := Lib.hid (by
          rw [← HRR.out]
          unfold Pl.dkB
          simp only [Pl.whole_not hlt hw, Bool.false_and, Bool.and_false])
        have HIN : Hid (∀ W, Calls Try.prog 40 #[.int .i64 (p[k]?.getD 0), .int .i64 0, .int .i64 1000000000] W fun e w' => e = .returned (.bool false) ∧ W = w') := Lib.hid fun W => by
          have := specIn (p[k]?.getD 0) 0 1000000000 W
          unfold Pl.wholeB at hw
          rwa [hw] at this
        clear hw hall ck
        generalize p[k]?.getD 0 = q at *
        go_wp2_with (go_at_call 40; refine (HIN.out _).mono ?_; rintro e w' ⟨rfl, rfl⟩)
        go_ret
        exact ⟨ret_bool HR.out.symm, b0⟩
      | true =>
        have HA := Lib.hid (Pl.whole_take hlt hall hw)
        have HIN : Hid (∀ W, Calls Try.prog 40 #[.int .i64 (p[k]?.getD 0), .int .i64 0, .int .i64 1000000000] W fun e w' => e = .returned (.bool true) ∧ W = w') := Lib.hid fun W => by
          have := specIn (p[k]?.getD 0) 0 1000000000 W
          unfold Pl.wholeB at hw
          rwa [hw] at this
        clear hw hall ck
        generalize p[k]?.getD 0 = q at *
        go_wp2_with (go_at_call 40; refine (HIN.out _).mono ?_; rintro e w' ⟨rfl, rfl⟩)
        go_round
        case rel => exact ⟨k + 1, by omega, by go_num, HA.out⟩
        case measure => simp [intOf]; omega
    · obtain rfl : k = p.length := by omega
      have hi : ¬ (p.length : Int) < (p.length : Int) := by omega
      rw [List.take_of_length_le (Nat.le_refl _)] at hall
      have HR : Hid (R = ((Pl.baseB b && (decide (0 ≤ n) && decide (n ≤ 1000000000))) && decide (p.length ≤ 8))) := Lib.hid (by
        rw [← HRR.out]
        unfold Pl.dkB
        simp only [hall, Pl.okB, Bool.true_and])
      clear hall
      cases hB : Pl.baseB b with
      | false =>
        go_wp2_with (go_at_call 41; refine (specBaseOk _ _).mono ?_; rintro e w' ⟨rfl, rfl⟩; rw [hB])
        go_ret
        exact ⟨ret_bool (by rw [HR.out, hB]; rfl), b0⟩
      | true =>
        cases hn : (decide (0 ≤ n) && decide (n ≤ 1000000000)) with
        | false =>
          go_wp2_with (first | (go_at_call 41; refine (specBaseOk _ _).mono ?_; rintro e w' ⟨rfl, rfl⟩; rw [hB]) | (go_at_call 40; refine (specIn _ _ _ _).mono ?_; rintro e w' ⟨rfl, rfl⟩; rw [hn]))
          go_ret
          exact ⟨ret_bool (by rw [HR.out, hB, hn]; rfl), b0⟩
        | true =>
          by_cases h8 : p.length ≤ 8
          · have h8' : (p.length : Int) ≤ 8 := by omega
            go_wp2_with (first | (go_at_call 41; refine (specBaseOk _ _).mono ?_; rintro e w' ⟨rfl, rfl⟩; rw [hB]) | (go_at_call 40; refine (specIn _ _ _ _).mono ?_; rintro e w' ⟨rfl, rfl⟩; rw [hn]))
            go_ret
            exact ⟨ret_bool (by rw [HR.out, hB, hn]; simp [h8] <;> omega), b0⟩
          · have h8' : ¬ (p.length : Int) ≤ 8 := by omega
            go_wp2_with (first | (go_at_call 41; refine (specBaseOk _ _).mono ?_; rintro e w' ⟨rfl, rfl⟩; rw [hB]) | (go_at_call 40; refine (specIn _ _ _ _).mono ?_; rintro e w' ⟨rfl, rfl⟩; rw [hn]))
            go_ret
            exact ⟨ret_bool (by rw [HR.out, hB, hn]; simp [h8] <;> omega), b0⟩

/-- A struct of three cells is stored over one that lies there. -/
theorem SBox.three {W : World} {B : Nat} {T : TypeId} {a b c : Value} (h : SBox W B T #[a, b, c]) (x y z : Value) :
    SBox (((W.setCell ⟨B, 0, none⟩ x).setCell ⟨B, 1, none⟩ y).setCell ⟨B, 2, none⟩ z) B T #[x, y, z] := ((h.set 0 x).set 1 y).set 2 z
theorem below_three {W w : World} {n B : Nat} (h : Below n w W) (hB : n ≤ B) (x y z : Value) : Below n w (((W.setCell ⟨B, 0, none⟩ x).setCell ⟨B, 1, none⟩ y).setCell ⟨B, 2, none⟩ z) :=
  ((h.setCell (p := ⟨B, 0, none⟩) hB _).setCell (p := ⟨B, 1, none⟩) hB _).setCell (p := ⟨B, 2, none⟩) hB _

theorem Row.setOther {base : Nat} {w : World} {v : Value} {xs : List Int} (h : Row base w v xs) {p : Addr} (hp : p.block < base) (u : Value) : Row base (w.setCell p u) v xs := by
  rcases h with ⟨h1, h2 | ⟨g, cap, cur, hv, hg, hh, r⟩⟩
  · exact ⟨h1, .inl h2⟩
  · exact ⟨h1, .inr ⟨g, cap, cur, hv, hg, by rw [Below.heap_setCell _ _ _ _ (by omega)]; exact hh, r⟩⟩
/-- A call that hands back a desk whose numbers of before lie in new memory. -/
def DeskPost (w : World) (d : Pl.Dk) (e : Ending) (w' : World) : Prop := ∃ v, e = .returned (.agg #[.int .i64 d.b, .int .i64 d.n, v]) ∧ Row w.heap.size w' v d.past ∧ Below w.heap.size w w'

set_option maxRecDepth 100000 in
set_option maxHeartbeats 2000000 in
theorem spec12Copy (d : Pl.Dk) (pv : Value) (w : World) (hp : Ints w pv d.past) (hx : d.past.length ≤ 100000000) :
    Calls Try.prog 50 #[.agg #[.int .i64 d.b, .int .i64 d.n, pv]] w (DeskPost w d) := by
  obtain ⟨b, n, p⟩ := d
  simp only at hp hx ⊢
  have hbw : Below w.heap.size w (((w.alloc (.cells #[.int .i64 b, .int .i64 n, pv] 25)).alloc (.cells #[.int .i64 0, .int .i64 0, .slice none 0 0] 25)).alloc (.cells #[] 3)) :=
    (((Below.refl _ w).alloc (Nat.le_refl _) _).alloc (by simp) _).alloc (by simp; omega) _
  have hrow : Row (w.heap.size + 1 + 1) (((w.alloc (.cells #[.int .i64 b, .int .i64 n, pv] 25)).alloc (.cells #[.int .i64 0, .int .i64 0, .slice none 0 0] 25)).alloc (.cells #[] 3)) (.slice (some ⟨w.heap.size + 1 + 1, 0, none⟩) 0 0) [] := by
    have := row_empty ((w.alloc (.cells #[.int .i64 b, .int .i64 n, pv] 25)).alloc (.cells #[.int .i64 0, .int .i64 0, .slice none 0 0] 25))
    simpa only [World.size_alloc] using this
  have hbox : SBox (((w.alloc (.cells #[.int .i64 b, .int .i64 n, pv] 25)).alloc (.cells #[.int .i64 0, .int .i64 0, .slice none 0 0] 25)).alloc (.cells #[] 3)) (w.heap.size + 1) 25 #[.int .i64 0, .int .i64 0, .slice none 0 0] := by
    have := (SBox.new (w.alloc (.cells #[.int .i64 b, .int .i64 n, pv] 25)) 25 #[.int .i64 0, .int .i64 0, .slice none 0 0]).alloc (.cells #[] 3)
    rwa [World.size_alloc] at this
  have hboxd : SBox ((((w.alloc (.cells #[.int .i64 b, .int .i64 n, pv] 25)).alloc (.cells #[.int .i64 0, .int .i64 0, .slice none 0 0] 25)).alloc (.cells #[] 3)).drew) (w.heap.size + 1) 25 #[.int .i64 0, .int .i64 0, .slice none 0 0] := hbox
  have hbwd : Below w.heap.size w ((((w.alloc (.cells #[.int .i64 b, .int .i64 n, pv] 25)).alloc (.cells #[.int .i64 0, .int .i64 0, .slice none 0 0] 25)).alloc (.cells #[] 3)).drew) := hbw.drew
  have HI := Lib.hid (hp.below hbw)
  have HRow := Lib.hid hrow
  have HBox := Lib.hid hboxd
  have hargd : SBox ((((w.alloc (.cells #[.int .i64 b, .int .i64 n, pv] 25)).alloc (.cells #[.int .i64 0, .int .i64 0, .slice none 0 0] 25)).alloc (.cells #[] 3)).drew) w.heap.size 25 #[.int .i64 b, .int .i64 n, pv] := ((SBox.new w 25 #[.int .i64 b, .int .i64 n, pv]).alloc _).alloc _
  have HArg := Lib.hid hargd
  obtain ⟨a, cap, rfl, _⟩ := hp
  have HBW := Lib.hid hbwd
  clear hbw hrow hbox hboxd hbwd hargd
  go_enter Try.func50, Try.ntmps50
  go_wp2_with fail
  go_region_held3 (fun w' => w'.cell? ⟨w.heap.size, 0, none⟩ = some (.int .i64 b) ∧ w'.cell? ⟨w.heap.size, 1, none⟩ = some (.int .i64 n) ∧ w'.cell? ⟨w.heap.size, 2, none⟩ = some (.slice a p.length cap))
    (first
      | exact ⟨g0, g1, g2⟩
      | (refine ⟨?_, ?_, ?_⟩ <;> (rw [World.cell?_setCell_other _ _ _ _ (by simp), World.cell?_setCell_other _ _ _ _ (by simp), World.cell?_setCell_other _ _ _ _ (by simp)]; assumption))
      | (refine ⟨?_, ?_, ?_⟩ <;> simp [go_sem]))
    (first
      | (refine step_append_ints rfl _ _ rfl (w.heap.size + 1 + 1) (.slice (some ⟨w.heap.size + 1 + 1, 0, none⟩) 0 0) (.slice a p.length cap) [] p rfl HRow.out rfl HI.out (by simp; omega) (by simp) ?_; intro v3 w3 r3 b3; obtain ⟨a3, c3, rfl⟩ := r3.shape; have hB3 := SBox.below HBox.out b3 (by omega); have e0 := hB3.cell 0; have e1 := hB3.cell 1; have e2 := hB3.cell 2; have hA3 := SBox.below HArg.out b3 (by omega); have g0 := hA3.cell 0; have g1 := hA3.cell 1; have g2 := hA3.cell 2; clear hA3; have f0 := hB3.frozen 0; have f1 := hB3.frozen 1; have f2 := hB3.frozen 2; have HB3 := Lib.hid hB3; have R3 := Lib.hid r3; have HBl := Lib.hid b3; clear hB3 r3 b3))
  all_goals
    go_wp2_with fail
    refine bodyPost_ret (results_cell_row rfl _ _ (w.heap.size + 1) 25 _ (0, 0) _ rfl (HB3.out.three _ _ _) Try.underlying25 rfl (by rw [size_desk]; rfl)) rfl ?_
    exact ⟨_, rfl, (((R3.out.setOther (p := ⟨w.heap.size + 1, 0, none⟩) (by simp) _).setOther (p := ⟨w.heap.size + 1, 1, none⟩) (by simp) _).setOther (p := ⟨w.heap.size + 1, 2, none⟩) (by simp) _).mono (by omega),
      below_three (HBW.out.trans (HBl.out.mono (by omega))) (by omega) _ _ _⟩

set_option maxRecDepth 100000 in
set_option maxHeartbeats 4000000 in
theorem spec12Made (d : Pl.Dk) (pv : Value) (k n : Int) (w : World) :
    Calls Try.prog 51 #[.agg #[.int .i64 d.b, .int .i64 d.n, pv], .agg #[.int .i64 k, .int .i64 n]] w fun e w' => e = .returned (.int .i64 (Pl.mkI d k n)) ∧ Below w.heap.size w w' := by
  obtain ⟨b, m, p⟩ := d
  obtain ⟨R, hR⟩ : ∃ R, Pl.mkI ⟨b, m, p⟩ k n = R := ⟨_, rfl⟩
  rw [hR]
  unfold Pl.mkI at hR
  simp only at hR ⊢
  have hbw : Below w.heap.size w ((w.alloc (.cells #[.int .i64 b, .int .i64 m, pv] 25)).alloc (.cells #[.int .i64 k, .int .i64 n] 36)) :=
    ((Below.refl _ w).alloc (Nat.le_refl _) _).alloc (by simp) _
  by_cases h0 : k = 0
  · rw [if_pos h0] at hR
    subst h0 hR
    go_enter Try.func51, Try.ntmps51
    go_wp2_with fail
    go_ret
    exact ⟨rfl, hbw⟩
  · rw [if_neg h0] at hR
    have e0 : (k == 0) = false := by rw [beq_eq_false_iff_ne]; exact h0
    by_cases hn : n = 0
    · rw [if_pos hn] at hR
      subst hn
      by_cases h1 : k = 1
      · rw [if_pos h1] at hR
        subst h1
        have HC := Lib.hid (specSumOf m b)
        rw [hR] at HC
        clear hR h0 e0
        go_enter Try.func51, Try.ntmps51
        go_wp2_with (go_at_call 70; refine (HC.out _).mono ?_; rintro e w' ⟨rfl, rfl⟩)
        go_ret
        exact ⟨rfl, hbw⟩
      · rw [if_neg h1] at hR
        have e1 : (k == 1) = false := by rw [beq_eq_false_iff_ne]; exact h1
        by_cases h2 : k = 2
        · rw [if_pos h2] at hR
          subst h2
          have HC := Lib.hid (specDigitProduct m b)
          rw [hR] at HC
          clear hR h0 h1 e0 e1
          go_enter Try.func51, Try.ntmps51
          go_wp2_with (go_at_call 71; refine (HC.out _).mono ?_; rintro e w' ⟨rfl, rfl⟩)
          go_ret
          exact ⟨rfl, hbw⟩
        · rw [if_neg h2] at hR
          have e2 : (k == 2) = false := by rw [beq_eq_false_iff_ne]; exact h2
          by_cases h3 : k = 3
          · rw [if_pos h3] at hR
            subst h3
            have HC := Lib.hid (specNextOf m 2 b)
            rw [hR] at HC
            clear hR h0 h1 h2 e0 e1 e2
            go_enter Try.func51, Try.ntmps51
            go_wp2_with (go_at_call 72; refine (HC.out _).mono ?_; rintro e w' ⟨rfl, rfl⟩)
            go_ret
            exact ⟨rfl, hbw⟩
          · rw [if_neg h3] at hR
            have e3 : (k == 3) = false := by rw [beq_eq_false_iff_ne]; exact h3
            by_cases h4 : k = 4
            · rw [if_pos h4] at hR
              subst h4
              have HC := Lib.hid (specTurnedOf m b)
              rw [hR] at HC
              clear hR h0 h1 h2 h3 e0 e1 e2 e3
              go_enter Try.func51, Try.ntmps51
              go_wp2_with (go_at_call 73; refine (HC.out _).mono ?_; rintro e w' ⟨rfl, rfl⟩)
              go_ret
              exact ⟨rfl, hbw⟩
            · rw [if_neg h4] at hR
              have e4 : (k == 4) = false := by rw [beq_eq_false_iff_ne]; exact h4
              by_cases h5 : k = 5
              · rw [if_pos h5] at hR
                subst h5
                have HC := Lib.hid (specAddedTurned m b)
                rw [hR] at HC
                clear hR h0 h1 h2 h3 h4 e0 e1 e2 e3 e4
                go_enter Try.func51, Try.ntmps51
                go_wp2_with (go_at_call 74; refine (HC.out _).mono ?_; rintro e w' ⟨rfl, rfl⟩)
                go_ret
                exact ⟨rfl, hbw⟩
              · rw [if_neg h5] at hR
                have e5 : (k == 5) = false := by rw [beq_eq_false_iff_ne]; exact h5
                by_cases h6 : k = 6
                · rw [if_pos h6] at hR
                  subst h6
                  have HC := Lib.hid (specMadeBy m b)
                  rw [hR] at HC
                  clear hR h0 h1 h2 h3 h4 h5 e0 e1 e2 e3 e4 e5
                  go_enter Try.func51, Try.ntmps51
                  go_wp2_with (go_at_call 75; refine (HC.out _).mono ?_; rintro e w' ⟨rfl, rfl⟩)
                  go_ret
                  exact ⟨rfl, hbw⟩
                · rw [if_neg h6] at hR
                  have e6 : (k == 6) = false := by rw [beq_eq_false_iff_ne]; exact h6
                  subst hR
                  clear h0 h1 h2 h3 h4 h5 h6
                  go_enter Try.func51, Try.ntmps51
                  go_wp2_with fail
                  go_ret
                  exact ⟨rfl, hbw⟩
    · rw [if_neg hn] at hR
      have en : (n == 0) = false := by rw [beq_eq_false_iff_ne]; exact hn
      subst hR
      clear h0 hn
      go_enter Try.func51, Try.ntmps51
      go_wp2_with fail
      all_goals
        go_ret
        exact ⟨rfl, hbw⟩

end Go.Proofs.Ytakkjlcnfkklpaa
