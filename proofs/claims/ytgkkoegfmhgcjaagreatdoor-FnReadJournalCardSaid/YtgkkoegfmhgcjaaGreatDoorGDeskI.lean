/-
  impl: desks: DeskOk, alone, leadsTo, changed.
-/
import Derived.Deep.DeepCutAuto
import Derived.Test.YtgkkoegfmhgcjaaGreatDoorGDesk
import Derived.Test.YtgkkoegfmhgcjaaGreatDoorGNum
import Derived.Test.YtgkkoegfmhgcjaaGreatDoorGSelf
import Derived.Test.YtgkkoegfmhgcjaaGreatDoorGRound
import Derived.Deep.RegionHeld3
namespace Go.Proofs.YtgkkoegfmhgcjaaGreatDoor
open Go.RowKit Go.Shelf

theorem wpList_append_ints {ops : Array Oper} {rest : List Oper} {o : Oper} {a : Act} {Q : Exit → Act → World → Prop} {W : World} (hgd : o.guard = none) (s x : Operand)
    (ho : o.op = .call { callee := .builtin .append, args := #[s, x], argTypes := #[28, 28] }) (base : Nat) (v u : Value) (xs ys : List Int) (hs : a.eval s = v) (hv : Row base W v xs)
    (hx : a.eval x = u) (hu : Ints W u ys) (hl : xs.length + ys.length ≤ 1000000000) (hbase : base ≤ W.heap.size)
    (h : ∀ v' W', Row base W' v' (xs ++ ys) → Below base W W' → wpList Tryz.prog ops Q rest (a.put o.dst v') W') : wpList Tryz.prog ops Q (o :: rest) a W :=
  wpList_plain hgd fun _ hK => wp_append_ints s x ho base v u xs ys hs hv hx hu hl hbase fun v' W' r b => hK _ _ (h v' W' r b)

set_option maxRecDepth 100000 in
set_option maxHeartbeats 2000000 in
theorem implDeskOk (d : Pl.Dk) (pv : Value) (w : World) (hp : Ints w pv d.past) (hx : d.past.length ≤ 100000000) :
    Calls Tryz.prog 23 #[.agg #[.int .i64 d.b, .int .i64 d.n, pv]] w fun e w' => e = .returned (.bool (Pl.dkB d)) ∧ Below w.heap.size w w' := by
  obtain ⟨b, n, p⟩ := d
  simp only at hp hx ⊢
  obtain ⟨a, cap, rfl, hc⟩ := hp
  have HC := Lib.hid hc
  have b0 : Below w.heap.size w (w.alloc (.cells #[.int .i64 b, .int .i64 n, .slice a p.length cap] 30)) := (Below.refl _ _).alloc (Nat.le_refl _) _
  obtain ⟨R, hR⟩ : ∃ R, Pl.dkB ⟨b, n, p⟩ = R := ⟨_, rfl⟩
  rw [hR]
  have HRR := Lib.hid hR
  clear hc hR
  cases hok : Pl.okB n b with
  | false =>
    have HR : Hid (R = false) := Lib.hid (by
      rw [← HRR.out]
      unfold Pl.dkB
      simp only [hok, Bool.false_and])
    go_enter Tryz.func23, Tryz.ntmps23
    go_wp2_with (go_at_call 79; refine (hasDigits _ _ _).mono ?_; rintro e w' ⟨rfl, rfl⟩; rw [hok])
    go_ret
    exact ⟨ret_bool HR.out.symm, b0⟩
  | true =>
    have hbase : Pl.baseB b = true := by
      unfold Pl.okB at hok
      rw [Bool.and_eq_true] at hok
      exact hok.1
    by_cases h8 : p.length ≤ 8
    · have h8' : ¬ (8 : Int) < (p.length : Int) := by omega
      have HOK := Lib.hid hok
      have HAS : Hid (∀ x W, Calls Tryz.prog 79 #[.int .i64 x, .int .i64 b] W fun e w' => e = .returned (.bool (Pl.wholeB x)) ∧ W = w') := Lib.hid fun x W => by
        refine (hasDigits x b W).mono ?_
        rintro e w' ⟨rfl, rfl⟩
        refine ⟨ret_bool ?_, rfl⟩
        unfold Pl.okB Pl.wholeB
        rw [hbase, Bool.true_and]
      have HN : Hid (Pl.wholeB n = true) := Lib.hid (by
        unfold Pl.okB at hok
        rw [hbase, Bool.true_and] at hok
        exact hok)
      clear hok
      go_enter Tryz.func23, Tryz.ntmps23
      go_wp2_with (go_at_call 79; refine (HAS.out _ _).mono ?_; rintro e w' ⟨rfl, rfl⟩; rw [HN.out])
      go_loop [20] (fun kv => ∃ k : Nat, k ≤ p.length ∧ kv = .int .i64 k ∧ (p.take k).all Pl.wholeB = true) (fun kv => p.length - (intOf kv).toNat)
      case atStart => exact ⟨0, Nat.zero_le _, rfl, rfl⟩
      case round =>
        obtain ⟨k, hk, rfl, hall⟩ := hrel
        by_cases hlt : k < p.length
        · obtain ⟨g, off, rfl, ck⟩ := HC.out k hlt
          have hg : g < w.heap.size := World.block_lt_of_cell? _ _ ck
          have ck' : (w.alloc (.cells #[.int .i64 b, .int .i64 n, .slice (some ⟨g, off, none⟩) p.length cap] 30)).cell? ⟨g, off + k, none⟩ = some (.int .i64 (p[k]?.getD 0)) := cell_alloc_l _ ck
          have hi : (k : Int) < (p.length : Int) := by omega
          cases hw : Pl.wholeB (p[k]?.getD 0) with
          | false =>
            have HR : Hid (R = false) := Lib.hid (by
              rw [← HRR.out]
              unfold Pl.dkB
              simp only [Pl.whole_not hlt hw, Bool.false_and, Bool.and_false])
            have HW := Lib.hid hw
            clear hw hall ck
            generalize p[k]?.getD 0 = q at *
            go_wp2_with (go_at_call 79; refine (HAS.out _ _).mono ?_; rintro e w' ⟨rfl, rfl⟩; rw [HW.out])
            go_ret
            exact ⟨ret_bool HR.out.symm, b0⟩
          | true =>
            have HA := Lib.hid (Pl.whole_take hlt hall hw)
            have HW := Lib.hid hw
            clear hw hall ck
            generalize p[k]?.getD 0 = q at *
            go_wp2_with (go_at_call 79; refine (HAS.out _ _).mono ?_; rintro e w' ⟨rfl, rfl⟩; rw [HW.out])
            go_round
            case rel => exact ⟨k + 1, by omega, by go_num, HA.out⟩
            case measure => simp [intOf]; omega
        · obtain rfl : k = p.length := by omega
          have hi : ¬ (p.length : Int) < (p.length : Int) := by omega
          rw [List.take_of_length_le (Nat.le_refl _)] at hall
          have HR : Hid (R = true) := Lib.hid (by
            rw [← HRR.out]
            unfold Pl.dkB
            simp only [hall, HOK.out, Bool.true_and]
            simpa using h8)
          clear hall
          go_wp2_with fail
          go_ret
          exact ⟨ret_bool HR.out.symm, b0⟩
    · have h8' : (8 : Int) < (p.length : Int) := by omega
      have HR : Hid (R = false) := Lib.hid (by
        rw [← HRR.out]
        unfold Pl.dkB
        simp only [hok, Bool.true_and]
        simp; omega)
      go_enter Tryz.func23, Tryz.ntmps23
      go_wp2_with (go_at_call 79; refine (hasDigits _ _ _).mono ?_; rintro e w' ⟨rfl, rfl⟩; rw [hok])
      go_ret
      exact ⟨ret_bool HR.out.symm, b0⟩

set_option maxRecDepth 100000 in
set_option maxHeartbeats 2000000 in
theorem implAlone (d : Pl.Dk) (pv : Value) (w : World) (hp : Ints w pv d.past) (hx : d.past.length ≤ 100000000) :
    Calls Tryz.prog 51 #[.agg #[.int .i64 d.b, .int .i64 d.n, pv]] w (DeskPost w d) := by
  obtain ⟨b, n, p⟩ := d
  simp only at hp hx ⊢
  have hp' := hp
  obtain ⟨a, cap, rfl, _⟩ := hp'
  have hb0 : Below w.heap.size w ((w.alloc (.cells #[.int .i64 b, .int .i64 n, .slice a p.length cap] 30)).alloc (.cells #[.int .i64 0, .int .i64 0, .slice none 0 0] 30)) := ((Below.refl _ w).alloc (Nat.le_refl _) _).alloc (by simp) _
  have hA0 : SBox ((w.alloc (.cells #[.int .i64 b, .int .i64 n, .slice a p.length cap] 30)).alloc (.cells #[.int .i64 0, .int .i64 0, .slice none 0 0] 30)) w.heap.size 30 #[.int .i64 b, .int .i64 n, .slice a p.length cap] := (SBox.new w 30 _).alloc _
  have hR0 : SBox ((w.alloc (.cells #[.int .i64 b, .int .i64 n, .slice a p.length cap] 30)).alloc (.cells #[.int .i64 0, .int .i64 0, .slice none 0 0] 30)) (w.heap.size + 1) 30 #[.int .i64 0, .int .i64 0, .slice none 0 0] := by
    have := SBox.new (w.alloc (.cells #[.int .i64 b, .int .i64 n, .slice a p.length cap] 30)) 30 #[.int .i64 0, .int .i64 0, .slice none 0 0]
    rwa [World.size_alloc] at this
  have HI := Lib.hid (hp.below hb0)
  have HA := Lib.hid hA0
  have HR := Lib.hid hR0
  have hz : ((w.alloc (.cells #[.int .i64 b, .int .i64 n, .slice a p.length cap] 30)).alloc (.cells #[.int .i64 0, .int .i64 0, .slice none 0 0] 30)).heap.size = w.heap.size + 2 := by simp
  have HZ := Lib.hid hz
  clear hA0 hR0 hp hz
  go_enter Tryz.func51, Tryz.ntmps51
  go_wp2_with (first
    | (at_builtin; refine wpList_append_ints rfl _ _ rfl (w.heap.size + 2) (.slice none 0 0) (.slice a p.length cap) [] p rfl (World.ownsRow_nil _ _ _ _) rfl HI.out (by simp; omega) (by rw [HZ.out]; omega) ?_; intro v1 w1 r1 b1; have hA1 := HA.out.below b1 (by omega); have hR1 := HR.out.below b1 (by omega); have c2 := hA1.cell 2; have f2 := hA1.frozen 2; have HA1 := Lib.hid hA1; have HR1 := Lib.hid hR1; have HW1 := Lib.hid r1; have hb1 := hb0.trans (b1.mono (by omega)); obtain ⟨a1, c1, rfl⟩ := r1.shape; clear hA1 hR1 r1 b1)
    | (refine desk_load rfl _ rfl rfl (HA1.out.set 2 _) ?_) | (refine desk_store rfl _ _ rfl rfl rfl rfl (HR1.out.far (p := ⟨w.heap.size, 2, none⟩) (by simp) _) ?_; intro w2 hS2 hbl2 hsz2 hO2))
  refine bodyPost_ret (results_cell_row rfl _ _ (w.heap.size + 1) 30 _ (0, 0) _ rfl hS2 Tryz.underlying30 rfl (by rw [size_desk]; rfl)) rfl ?_
  have r2 : Row (w.heap.size + 2) w2 (.slice a1 p.length c1) p := Row.others ((HW1.out.setOther (p := ⟨w.heap.size, 2, none⟩) (by simp) _)) (B := w.heap.size + 1) (by omega) hO2
  exact ⟨_, rfl, Row.mono r2 (by omega), (hb1.setCell (p := ⟨w.heap.size, 2, none⟩) (Nat.le_refl _) _).trans (hbl2 w.heap.size (by omega))⟩

/-- The number to which a deed leads that changes the number; -1 for other kinds. -/
def Pl.leadI (b m k n : Int) : Int :=
  if k = 0 then n else if k = 1 then Pl.sumI m b else if k = 2 then Pl.prodI m b else if k = 3 then Pl.nextI m 2 b else if k = 4 then Pl.turnI m b else if k = 5 then Pl.addI m b else if k = 6 then Pl.madeI m b else -1
theorem Pl.leadI_mk (d : Pl.Dk) (k n : Int) (h : ¬ (n ≠ 0 ∧ k ≠ 0)) : Pl.mkI d k n = Pl.leadI d.b d.n k n := by
  unfold Pl.mkI Pl.leadI
  by_cases h0 : k = 0
  · rw [if_pos h0, if_pos h0]
  · have hn : n = 0 := Classical.byContradiction fun hn => h ⟨hn, h0⟩
    rw [if_neg h0, if_neg h0, if_pos hn]
theorem Pl.doA_far {d : Pl.Dk} {k n : Int} (h : Pl.dkB d = true) (hn : n ≠ 0) (hk : k ≠ 0) : Pl.doA d k n = (d, false) := by
  refine Pl.doA_not h (fun hh => hn hh.1.2) fun hh => ?_
  have h1 := hh.1
  unfold Pl.mkI at h1
  rw [if_neg hk, if_neg hn] at h1
  exact absurd h1 (by decide)
theorem Pl.doA_none0 {d : Pl.Dk} (h : Pl.dkB d = true) (hp : d.past = []) : Pl.doA d 7 0 = (d, false) :=
  Pl.doA_not h (fun hh => hh.2 hp) fun hh => absurd hh.1 (by
    have : Pl.mkI d 7 0 = -1 := rfl
    rw [this]; decide)

set_option maxRecDepth 100000 in
set_option maxHeartbeats 4000000 in
theorem implLeadsTo (b m : Int) (pv : Value) (k n : Int) (w : World) :
    Calls Tryz.prog 97 #[.agg #[.int .i64 b, .int .i64 m, pv], .agg #[.int .i64 k, .int .i64 n]] w fun e w' => e = .returned (.int .i64 (Pl.leadI b m k n)) ∧ Below w.heap.size w w' := by
  obtain ⟨R, hR⟩ : ∃ R, Pl.leadI b m k n = R := ⟨_, rfl⟩
  rw [hR]
  unfold Pl.leadI at hR
  have hbw : Below w.heap.size w ((w.alloc (.cells #[.int .i64 b, .int .i64 m, pv] 30)).alloc (.cells #[.int .i64 k, .int .i64 n] 38)) :=
    ((Below.refl _ w).alloc (Nat.le_refl _) _).alloc (by simp) _
  by_cases h0 : k = 0
  · rw [if_pos h0] at hR
    subst h0 hR
    go_enter Tryz.func97, Tryz.ntmps97
    go_wp2_with fail
    go_ret
    exact ⟨rfl, hbw⟩
  · rw [if_neg h0] at hR
    have e0 : (k == 0) = false := by rw [beq_eq_false_iff_ne]; exact h0
    by_cases h1 : k = 1
    · rw [if_pos h1] at hR
      subst h1
      have HC := Lib.hid (implSumOf m b)
      rw [hR] at HC
      clear hR h0 e0
      go_enter Tryz.func97, Tryz.ntmps97
      go_wp2_with (go_at_call 126; refine (HC.out _).mono ?_; rintro e w' ⟨rfl, b1⟩)
      go_ret
      exact ⟨rfl, hbw.trans (b1.mono hbw.size)⟩
    · rw [if_neg h1] at hR
      have e1 : (k == 1) = false := by rw [beq_eq_false_iff_ne]; exact h1
      by_cases h2 : k = 2
      · rw [if_pos h2] at hR
        subst h2
        have HC := Lib.hid (implDigitProduct m b)
        rw [hR] at HC
        clear hR h0 e0 h1 e1
        go_enter Tryz.func97, Tryz.ntmps97
        go_wp2_with (go_at_call 127; refine (HC.out _).mono ?_; rintro e w' ⟨rfl, b1⟩)
        go_ret
        exact ⟨rfl, hbw.trans (b1.mono hbw.size)⟩
      · rw [if_neg h2] at hR
        have e2 : (k == 2) = false := by rw [beq_eq_false_iff_ne]; exact h2
        by_cases h3 : k = 3
        · rw [if_pos h3] at hR
          subst h3
          have HC := Lib.hid (implNextOf m 2 b)
          rw [hR] at HC
          clear hR h0 e0 h1 e1 h2 e2
          go_enter Tryz.func97, Tryz.ntmps97
          go_wp2_with (go_at_call 128; refine (HC.out _).mono ?_; rintro e w' ⟨rfl, b1⟩)
          go_ret
          exact ⟨rfl, hbw.trans (b1.mono hbw.size)⟩
        · rw [if_neg h3] at hR
          have e3 : (k == 3) = false := by rw [beq_eq_false_iff_ne]; exact h3
          by_cases h4 : k = 4
          · rw [if_pos h4] at hR
            subst h4
            have HC := Lib.hid (implTurnedOf m b)
            rw [hR] at HC
            clear hR h0 e0 h1 e1 h2 e2 h3 e3
            go_enter Tryz.func97, Tryz.ntmps97
            go_wp2_with (go_at_call 129; refine (HC.out _).mono ?_; rintro e w' ⟨rfl, b1⟩)
            go_ret
            exact ⟨rfl, hbw.trans (b1.mono hbw.size)⟩
          · rw [if_neg h4] at hR
            have e4 : (k == 4) = false := by rw [beq_eq_false_iff_ne]; exact h4
            by_cases h5 : k = 5
            · rw [if_pos h5] at hR
              subst h5
              have HC := Lib.hid (implAddedTurned m b)
              rw [hR] at HC
              clear hR h0 e0 h1 e1 h2 e2 h3 e3 h4 e4
              go_enter Tryz.func97, Tryz.ntmps97
              go_wp2_with (go_at_call 130; refine (HC.out _).mono ?_; rintro e w' ⟨rfl, b1⟩)
              go_ret
              exact ⟨rfl, hbw.trans (b1.mono hbw.size)⟩
            · rw [if_neg h5] at hR
              have e5 : (k == 5) = false := by rw [beq_eq_false_iff_ne]; exact h5
              by_cases h6 : k = 6
              · rw [if_pos h6] at hR
                subst h6
                have HC := Lib.hid (implMadeBy m b)
                rw [hR] at HC
                clear hR h0 e0 h1 e1 h2 e2 h3 e3 h4 e4 h5 e5
                go_enter Tryz.func97, Tryz.ntmps97
                go_wp2_with (go_at_call 131; refine (HC.out _).mono ?_; rintro e w' ⟨rfl, b1⟩)
                go_ret
                exact ⟨rfl, hbw.trans (b1.mono hbw.size)⟩
              · rw [if_neg h6] at hR
                have e6 : (k == 6) = false := by rw [beq_eq_false_iff_ne]; exact h6
                subst hR
                clear h0 h1 h2 h3 h4 h5 h6
                go_enter Tryz.func97, Tryz.ntmps97
                go_wp2_with fail
                go_ret
                exact ⟨rfl, hbw⟩

/-- A call that hands back a desk, the numbers of before in new memory. -/
def ChPost (w : World) (r : Pl.Dk) (e : Ending) (w' : World) : Prop := ∃ v, e = .returned (.agg #[.int .i64 r.b, .int .i64 r.n, v]) ∧ OwnTail w.heap.size w' v r.past ∧ Below w.heap.size w w'

set_option maxRecDepth 100000 in
set_option maxHeartbeats 4000000 in
theorem implChanged (d : Pl.Dk) (pv : Value) (M : Int) (w : World) (hp : Ints w pv d.past) (hx : d.past.length ≤ 8) :
    Calls Tryz.prog 98 #[.agg #[.int .i64 d.b, .int .i64 d.n, pv], .int .i64 M] w (ChPost w ⟨d.b, M, Pl.cut8 (d.past ++ [d.n])⟩) := by
  obtain ⟨b, m, p⟩ := d
  simp only at hp hx ⊢
  have hp' := hp
  obtain ⟨a0, cap0, rfl, _⟩ := hp'
  have hb0 : Below w.heap.size w ((w.alloc (.cells #[.int .i64 b, .int .i64 m, .slice a0 p.length cap0] 30)).alloc (.cells #[.int .i64 0, .int .i64 0, .slice none 0 0] 30)) := ((Below.refl _ w).alloc (Nat.le_refl _) _).alloc (by simp) _
  have hA0 : SBox ((w.alloc (.cells #[.int .i64 b, .int .i64 m, .slice a0 p.length cap0] 30)).alloc (.cells #[.int .i64 0, .int .i64 0, .slice none 0 0] 30)) w.heap.size 30 #[.int .i64 b, .int .i64 m, .slice a0 p.length cap0] := (SBox.new w 30 _).alloc _
  have hR0 : SBox ((w.alloc (.cells #[.int .i64 b, .int .i64 m, .slice a0 p.length cap0] 30)).alloc (.cells #[.int .i64 0, .int .i64 0, .slice none 0 0] 30)) (w.heap.size + 1) 30 #[.int .i64 0, .int .i64 0, .slice none 0 0] := by
    have := SBox.new (w.alloc (.cells #[.int .i64 b, .int .i64 m, .slice a0 p.length cap0] 30)) 30 #[.int .i64 0, .int .i64 0, .slice none 0 0]
    rwa [World.size_alloc] at this
  have hI0 := hp.below hb0
  have hz0 : w.heap.size + 1 + 1 ≤ ((w.alloc (.cells #[.int .i64 b, .int .i64 m, .slice a0 p.length cap0] 30)).alloc (.cells #[.int .i64 0, .int .i64 0, .slice none 0 0] 30)).heap.size := by simp
  have HAL := Lib.hid (fun W (h : Ints W (.slice a0 p.length cap0) p) => implAlone ⟨b, m, p⟩ (.slice a0 p.length cap0) W h (Nat.le_trans hx (by omega)))
  simp only at HAL
  go_enter Tryz.func98, Tryz.ntmps98
  go_wp2_with fail
  generalize ((w.alloc (.cells #[.int .i64 b, .int .i64 m, .slice a0 p.length cap0] 30)).alloc (.cells #[.int .i64 0, .int .i64 0, .slice none 0 0] 30)) = w0 at *
  refine (HAL.out _ hI0).mono ?_
  rintro e w1 ⟨v1, rfl, r1', b1⟩
  have r1 : Row w0.heap.size w1 v1 p := r1'
  have hA1 := hA0.kept b1
  have hR1 := hR0.kept b1
  have hb1 := hb0.trans (b1.mono hb0.size)
  have hz1 := b1.size
  clear hA0 hR0 hI0 hb0 b1 r1' hp HAL
  obtain ⟨a1, c1, rfl⟩ := r1.shape
  have HB2 : Hid (SBox (w1.alloc (.cells #[.int .i64 b, .int .i64 m, .slice a1 p.length c1] 30)) w1.heap.size 30 #[.int .i64 b, .int .i64 m, .slice a1 p.length c1]) := Lib.hid (SBox.new _ _ _)
  have HA2 := Lib.hid (hA1.alloc (.cells #[.int .i64 b, .int .i64 m, .slice a1 p.length c1] 30))
  have HR2 := Lib.hid (hR1.alloc (.cells #[.int .i64 b, .int .i64 m, .slice a1 p.length c1] 30))
  have HV2 : Hid (Row w0.heap.size (w1.alloc (.cells #[.int .i64 b, .int .i64 m, .slice a1 p.length c1] 30)) (.slice a1 p.length c1) p) := Lib.hid (World.ownsRow.alloc r1 _)
  have hb2 := hb1.alloc hb1.size (.cells #[.int .i64 b, .int .i64 m, .slice a1 p.length c1] 30)
  have hz2 : w1.heap.size + 1 ≤ (w1.alloc (.cells #[.int .i64 b, .int .i64 m, .slice a1 p.length c1] 30)).heap.size := by simp
  have HOWN : Hid ((Value.slice a1 p.length c1).ownBlock ≠ some w1.heap.size) := Lib.hid fun e => by
    have := (World.ownsRow.lt r1 _ e).2
    omega
  clear r1 hA1 hR1 hb1
  go_upto_region 2 with (fail)
  generalize w1.alloc (.cells #[.int .i64 b, .int .i64 m, .slice a1 p.length c1] 30) = w2 at *
  obtain ⟨i0, hi0, hz0', hz1', hz2'⟩ := info_parts info_int
  have hr2 : w2.ownsRow w0.heap.size 3 1 (.slice a1 p.length c1) p.length (p.map (Value.int .i64)) := HV2.out
  have e1 := HB2.out.cell 1
  have e2 := HB2.out.cell 2
  have am := HA2.out.cell 1
  have H8 : Hid (∀ (v8 : Value) (w8 : World), w8.ownsRow w0.heap.size 3 1 v8 (p.length + 1) (p.map (Value.int .i64) ++ [.int .i64 m]) → (w2.alloc (.cells #[.int .i64 m] 3)).grownBy w8 (Value.slice a1 p.length c1).ownBlock →
    Row w0.heap.size w8 v8 (p ++ [m]) ∧ SBox w8 w1.heap.size 30 #[.int .i64 b, .int .i64 m, .slice a1 p.length c1] ∧ SBox w8 (w.heap.size + 1) 30 #[.int .i64 0, .int .i64 0, .slice none 0 0] ∧ Below w.heap.size w w8 ∧ w2.heap.size < w8.heap.size) := Lib.hid fun v8 w8 hown hgrow => by
    have hbA : Below w0.heap.size (w2.alloc (.cells #[.int .i64 m] 3)) w8 := (Below.refl _ _).grown hgrow (by simp; omega) fun k e => (World.ownsRow.lt hr2 k e).1
    refine ⟨row_snoc hown, (HB2.out.alloc _).grown hgrow HOWN.out, (HR2.out.alloc _).below hbA (by omega), ?_, ?_⟩
    · exact (hb2.alloc hb2.size _).trans (hbA.mono (by omega))
    · have := hgrow.size; simp at this; omega
  have hne : w.heap.size + 1 ≠ w1.heap.size := by omega
  clear HV2
  by_cases h8 : 8 ≤ p.length
  · have h8t : (8 : Int) < (p.length : Int) + 1 := by omega
    have h8f : (1 : Int) ≤ (p.length : Int) + 1 := by omega
    go_upto_region 5 with (first
      | (at_builtin; refine wpList_append_own _ rfl _ _ 28 rfl w0.heap.size 3 i0 (.int .i64 0) 1 8 Tryz.underlying28 hi0 hz0' hz1' hz2' rfl (by decide) _ _ _ rfl (hr2.alloc _) ⟨w2.heap.size, 0, none⟩ 1 1 [.int .i64 m] rfl rfl (cell_one_new _ _ _) (by simp [Value.oneCell']) (by unfold maxLen; omega) (by omega) (by rw [World.size_alloc]; omega) ?_; intro v8 w8 hown8 hgrow8 _; obtain ⟨r8, hB8, hR8, hb8, hz8⟩ := H8.out v8 w8 hown8 hgrow8; obtain ⟨g3, c3, rfl, hg3, hg3', hgc3, _, _⟩ := r8.lies (by simp); have f2 := hB8.frozen 2; have d2 := hB8.cell 2; have f1 := hB8.frozen 1; have d1 := hB8.cell 1; have d0 := hB8.cell 0; have HB8 := Lib.hid hB8; have HR8 := Lib.hid hR8; have HV8 := Lib.hid r8; have hgc4 : p.length + 1 ≤ c3 := (by simpa using hgc3); have hc31 : ¬ c3 = 1 := (by omega); clear r8 hB8 hR8 hown8 hgrow8 e1 e2; clear hgc3; simp only [List.length_append, List.length_cons, List.length_nil, Nat.zero_add]))
    have e71 : p.length - 7 = 1 := by omega
    rw [e71, Nat.add_sub_cancel]
    clear e71
    have hSB : SBox (((w8.setCell ⟨w1.heap.size, 2, none⟩ (.slice (some ⟨g3, 0, none⟩) (p.length + 1) c3)).setCell ⟨w1.heap.size, 2, none⟩ (.slice (some ⟨g3, 1, none⟩) p.length (c3 - 1))).setCell ⟨w1.heap.size, 1, none⟩ (.int .i64 M)) w1.heap.size 30 #[.int .i64 b, .int .i64 M, .slice (some ⟨g3, 1, none⟩) p.length (c3 - 1)] := ((HB8.out.set 2 _).set 2 _).set 1 _
    have hSR : SBox (((w8.setCell ⟨w1.heap.size, 2, none⟩ (.slice (some ⟨g3, 0, none⟩) (p.length + 1) c3)).setCell ⟨w1.heap.size, 2, none⟩ (.slice (some ⟨g3, 1, none⟩) p.length (c3 - 1))).setCell ⟨w1.heap.size, 1, none⟩ (.int .i64 M)) (w.heap.size + 1) 30 #[.int .i64 0, .int .i64 0, .slice none 0 0] := ((HR8.out.far (p := ⟨w1.heap.size, 2, none⟩) hne _).far (p := ⟨w1.heap.size, 2, none⟩) hne _).far (p := ⟨w1.heap.size, 1, none⟩) hne _
    have hRW : Row w0.heap.size (((w8.setCell ⟨w1.heap.size, 2, none⟩ (.slice (some ⟨g3, 0, none⟩) (p.length + 1) c3)).setCell ⟨w1.heap.size, 2, none⟩ (.slice (some ⟨g3, 1, none⟩) p.length (c3 - 1))).setCell ⟨w1.heap.size, 1, none⟩ (.int .i64 M)) (.slice (some ⟨g3, 0, none⟩) (p ++ [m]).length c3) (p ++ [m]) := ((HV8.out.setBox HB8.out (by decide) 2 _).setBox (HB8.out.set 2 _) (by decide) 2 _).setBox ((HB8.out.set 2 _).set 2 _) (by decide) 1 _
    have hBW : Below w.heap.size w (((w8.setCell ⟨w1.heap.size, 2, none⟩ (.slice (some ⟨g3, 0, none⟩) (p.length + 1) c3)).setCell ⟨w1.heap.size, 2, none⟩ (.slice (some ⟨g3, 1, none⟩) p.length (c3 - 1))).setCell ⟨w1.heap.size, 1, none⟩ (.int .i64 M)) := ((hb8.setCell (p := ⟨w1.heap.size, 2, none⟩) (by simp; omega) _).setCell (p := ⟨w1.heap.size, 2, none⟩) (by simp; omega) _).setCell (p := ⟨w1.heap.size, 1, none⟩) (by simp; omega) _
    have HSB := Lib.hid hSB
    have HSR := Lib.hid hSR
    clear hSB hSR f2 d2 f1 d1 d0
    generalize (((w8.setCell ⟨w1.heap.size, 2, none⟩ (.slice (some ⟨g3, 0, none⟩) (p.length + 1) c3)).setCell ⟨w1.heap.size, 2, none⟩ (.slice (some ⟨g3, 1, none⟩) p.length (c3 - 1))).setCell ⟨w1.heap.size, 1, none⟩ (.int .i64 M)) = W9 at *
    go_wp2_with (first | (refine desk_load rfl _ rfl rfl HSB.out ?_) | (refine desk_store rfl _ _ rfl rfl rfl rfl HSR.out ?_; intro w9 hS9 hbl9 hsz9 hO9))
    refine bodyPost_ret (results_cell_row rfl _ _ (w.heap.size + 1) 30 _ (0, 0) _ rfl hS9 Tryz.underlying30 rfl (by rw [size_desk]; rfl)) rfl ?_
    have hcut : Pl.cut8 (p ++ [m]) = (p ++ [m]).drop 1 := by unfold Pl.cut8; rw [if_pos (by simp; omega)]
    have hrf : RowTail w.heap.size w9 (.slice (some ⟨g3, 1, none⟩) p.length (c3 - 1)) ((p ++ [m]).drop 1) :=
      ⟨g3, 1, c3 - 1, c3, p ++ [m], by simp, rfl, by simp; omega, Row.mono (Row.others hRW (B := w.heap.size + 1) (by omega) hO9) (by omega)⟩
    exact ⟨_, rfl, .inr (by rw [hcut]; exact hrf), hBW.trans (hbl9 w.heap.size (by omega))⟩
  · have h8t : ¬ (8 : Int) < (p.length : Int) + 1 := by omega
    go_upto_region 5 with (first
      | (at_builtin; refine wpList_append_own _ rfl _ _ 28 rfl w0.heap.size 3 i0 (.int .i64 0) 1 8 Tryz.underlying28 hi0 hz0' hz1' hz2' rfl (by decide) _ _ _ rfl (hr2.alloc _) ⟨w2.heap.size, 0, none⟩ 1 1 [.int .i64 m] rfl rfl (cell_one_new _ _ _) (by simp [Value.oneCell']) (by unfold maxLen; omega) (by omega) (by rw [World.size_alloc]; omega) ?_; intro v8 w8 hown8 hgrow8 _; obtain ⟨r8, hB8, hR8, hb8, hz8⟩ := H8.out v8 w8 hown8 hgrow8; obtain ⟨g3, c3, rfl, hg3, hg3', hgc3, _, _⟩ := r8.lies (by simp); have f2 := hB8.frozen 2; have d2 := hB8.cell 2; have f1 := hB8.frozen 1; have d1 := hB8.cell 1; have d0 := hB8.cell 0; have HB8 := Lib.hid hB8; have HR8 := Lib.hid hR8; have HV8 := Lib.hid r8; clear r8 hB8 hR8 hown8 hgrow8 e1 e2; clear hgc3; simp only [List.length_append, List.length_cons, List.length_nil, Nat.zero_add]))
    have hSB : SBox (((w8.setCell ⟨w1.heap.size, 2, none⟩ (.slice (some ⟨g3, 0, none⟩) (p.length + 1) c3)).setCell ⟨w1.heap.size, 2, none⟩ (.slice (some ⟨g3, 0, none⟩) (p.length + 1) c3)).setCell ⟨w1.heap.size, 1, none⟩ (.int .i64 M)) w1.heap.size 30 #[.int .i64 b, .int .i64 M, .slice (some ⟨g3, 0, none⟩) (p.length + 1) c3] := ((HB8.out.set 2 _).set 2 _).set 1 _
    have hSR : SBox (((w8.setCell ⟨w1.heap.size, 2, none⟩ (.slice (some ⟨g3, 0, none⟩) (p.length + 1) c3)).setCell ⟨w1.heap.size, 2, none⟩ (.slice (some ⟨g3, 0, none⟩) (p.length + 1) c3)).setCell ⟨w1.heap.size, 1, none⟩ (.int .i64 M)) (w.heap.size + 1) 30 #[.int .i64 0, .int .i64 0, .slice none 0 0] := ((HR8.out.far (p := ⟨w1.heap.size, 2, none⟩) hne _).far (p := ⟨w1.heap.size, 2, none⟩) hne _).far (p := ⟨w1.heap.size, 1, none⟩) hne _
    have hRW : Row w0.heap.size (((w8.setCell ⟨w1.heap.size, 2, none⟩ (.slice (some ⟨g3, 0, none⟩) (p.length + 1) c3)).setCell ⟨w1.heap.size, 2, none⟩ (.slice (some ⟨g3, 0, none⟩) (p.length + 1) c3)).setCell ⟨w1.heap.size, 1, none⟩ (.int .i64 M)) (.slice (some ⟨g3, 0, none⟩) (p ++ [m]).length c3) (p ++ [m]) := ((HV8.out.setBox HB8.out (by decide) 2 _).setBox (HB8.out.set 2 _) (by decide) 2 _).setBox ((HB8.out.set 2 _).set 2 _) (by decide) 1 _
    have hBW : Below w.heap.size w (((w8.setCell ⟨w1.heap.size, 2, none⟩ (.slice (some ⟨g3, 0, none⟩) (p.length + 1) c3)).setCell ⟨w1.heap.size, 2, none⟩ (.slice (some ⟨g3, 0, none⟩) (p.length + 1) c3)).setCell ⟨w1.heap.size, 1, none⟩ (.int .i64 M)) := ((hb8.setCell (p := ⟨w1.heap.size, 2, none⟩) (by simp; omega) _).setCell (p := ⟨w1.heap.size, 2, none⟩) (by simp; omega) _).setCell (p := ⟨w1.heap.size, 1, none⟩) (by simp; omega) _
    have HSB := Lib.hid hSB
    have HSR := Lib.hid hSR
    clear hSB hSR f2 d2 f1 d1 d0
    generalize (((w8.setCell ⟨w1.heap.size, 2, none⟩ (.slice (some ⟨g3, 0, none⟩) (p.length + 1) c3)).setCell ⟨w1.heap.size, 2, none⟩ (.slice (some ⟨g3, 0, none⟩) (p.length + 1) c3)).setCell ⟨w1.heap.size, 1, none⟩ (.int .i64 M)) = W9 at *
    go_wp2_with (first | (refine desk_load rfl _ rfl rfl HSB.out ?_) | (refine desk_store rfl _ _ rfl rfl rfl rfl HSR.out ?_; intro w9 hS9 hbl9 hsz9 hO9))
    refine bodyPost_ret (results_cell_row rfl _ _ (w.heap.size + 1) 30 _ (0, 0) _ rfl hS9 Tryz.underlying30 rfl (by rw [size_desk]; rfl)) rfl ?_
    have hcut : Pl.cut8 (p ++ [m]) = p ++ [m] := Pl.cut8_few (by simp; omega)
    have hrf : Row w.heap.size w9 (.slice (some ⟨g3, 0, none⟩) (p.length + 1) c3) (p ++ [m]) := by
      have := Row.mono (Row.others hRW (B := w.heap.size + 1) (by omega) hO9) (show w.heap.size ≤ w0.heap.size by omega)
      simpa using this
    exact ⟨_, rfl, .inl (by rw [hcut]; exact hrf), hBW.trans (hbl9 w.heap.size (by omega))⟩

end Go.Proofs.YtgkkoegfmhgcjaaGreatDoor

namespace Go.Proofs.YtgkkoegfmhgcjaaGreatDoor
open Go.RowKit Go.Shelf

/-- A struct's block is no row's. -/
theorem Row.notBox {base : Nat} {w : World} {g n cap : Nat} {xs : List Int} (h : Row base w (.slice (some ⟨g, 0, none⟩) n cap) xs) (_h1 : 1 ≤ xs.length) {B : Nat} {T : TypeId} {cs : Array Value} (hB : SBox w B T cs) (hT : T ≠ 3) : B ≠ g := by
  rintro rfl
  rcases h.2 with ⟨h2, _⟩ | ⟨g', cap', cur, hv, hg, hh, r⟩
  · cases h2
  · simp only [Value.slice.injEq, Option.some.injEq, Addr.mk.injEq, and_true] at hv
    obtain ⟨rfl, _, _⟩ := hv
    unfold SBox at hB
    rw [hB] at hh
    injection hh with hh
    injection hh with _ ht _
    exact hT ht
/-- The three cells of a struct. -/
theorem SBox.c3 {W : World} {B : Nat} {T : TypeId} {a b c : Value} (h : SBox W B T #[a, b, c]) : W.cell? ⟨B, 0, none⟩ = some a ∧ W.cell? ⟨B, 1, none⟩ = some b ∧ W.cell? ⟨B, 2, none⟩ = some c := ⟨h.cell 0, h.cell 1, h.cell 2⟩

/-- The number of before put back, if there is one. -/
def Pl.backA (d : Pl.Dk) : Pl.Dk × Bool := if d.past = [] then (d, false) else (⟨d.b, d.past[d.past.length - 1]?.getD 0, d.past.take (d.past.length - 1)⟩, true)

-- PUTBACK

set_option maxRecDepth 100000 in
set_option maxHeartbeats 4000000 in
theorem implPutBack (d : Pl.Dk) (pv : Value) (w : World) (hp : Ints w pv d.past) (hx : d.past.length ≤ 100000000) :
    Calls Tryz.prog 96 #[.agg #[.int .i64 d.b, .int .i64 d.n, pv]] w (DoPost w False (Pl.backA d)) := by
  obtain ⟨b, m, p⟩ := d
  simp only at hp hx ⊢
  have hp' := hp
  obtain ⟨a0, cap0, rfl, _⟩ := hp'
  have hb0 : Below w.heap.size w ((w.alloc (.cells #[.int .i64 b, .int .i64 m, .slice a0 p.length cap0] 30)).alloc (.cells #[.int .i64 0, .int .i64 0, .slice none 0 0] 30)) := ((Below.refl _ w).alloc (Nat.le_refl _) _).alloc (by simp) _
  have hA0 : SBox ((w.alloc (.cells #[.int .i64 b, .int .i64 m, .slice a0 p.length cap0] 30)).alloc (.cells #[.int .i64 0, .int .i64 0, .slice none 0 0] 30)) w.heap.size 30 #[.int .i64 b, .int .i64 m, .slice a0 p.length cap0] := (SBox.new w 30 _).alloc _
  have hR0 : SBox ((w.alloc (.cells #[.int .i64 b, .int .i64 m, .slice a0 p.length cap0] 30)).alloc (.cells #[.int .i64 0, .int .i64 0, .slice none 0 0] 30)) (w.heap.size + 1) 30 #[.int .i64 0, .int .i64 0, .slice none 0 0] := by
    have := SBox.new (w.alloc (.cells #[.int .i64 b, .int .i64 m, .slice a0 p.length cap0] 30)) 30 #[.int .i64 0, .int .i64 0, .slice none 0 0]
    rwa [World.size_alloc] at this
  have hI0 := hp.below hb0
  have hz0 : w.heap.size + 1 + 1 ≤ ((w.alloc (.cells #[.int .i64 b, .int .i64 m, .slice a0 p.length cap0] 30)).alloc (.cells #[.int .i64 0, .int .i64 0, .slice none 0 0] 30)).heap.size := by simp
  have HAL := Lib.hid (fun W (h : Ints W (.slice a0 p.length cap0) p) => implAlone ⟨b, m, p⟩ (.slice a0 p.length cap0) W h hx)
  have HNIL : Hid (p = [] → Pl.backA ⟨b, m, p⟩ = (⟨b, m, p⟩, false)) := Lib.hid fun h => by unfold Pl.backA; rw [if_pos h]
  have HSOME : Hid (p ≠ [] → Pl.backA ⟨b, m, p⟩ = (⟨b, p[p.length - 1]?.getD 0, p.take (p.length - 1)⟩, true)) := Lib.hid fun h => by unfold Pl.backA; rw [if_neg h]
  simp only at HAL
  go_enter Tryz.func96, Tryz.ntmps96
  go_upto_region 1 with (fail)
  generalize ((w.alloc (.cells #[.int .i64 b, .int .i64 m, .slice a0 p.length cap0] 30)).alloc (.cells #[.int .i64 0, .int .i64 0, .slice none 0 0] 30)) = w0 at *
  have K0 := hA0.c3
  have K0A := (hA0.alloc (.cells #[.int .i64 0, .int .i64 0, .slice none 0 0] 30)).c3
  have HA := Lib.hid hA0
  have HR := Lib.hid hR0
  have HVI : Hid (Ints w0.drew (.slice a0 p.length cap0) p) := Lib.hid (hI0.below ((Below.refl _ _).drew))
  have HVA : Hid (Ints (w0.alloc (.cells #[.int .i64 0, .int .i64 0, .slice none 0 0] 30)).drew (.slice a0 p.length cap0) p) := Lib.hid (hI0.below (((Below.refl _ _).alloc (Nat.le_refl _) _).drew))
  have hne0 : w.heap.size ≠ w0.heap.size := by omega
  have hwrap : IntKind.i64.wrap ((p.length : Int) - 1) = (p.length : Int) - 1 := IntWalk.i64_in _ (by omega)
  clear hA0 hR0 hI0 hp
  go_region_held3 (fun w' => w'.cell? ⟨w.heap.size, 0, none⟩ = some (.int .i64 b) ∧ w'.cell? ⟨w.heap.size, 1, none⟩ = some (.int .i64 m) ∧ w'.cell? ⟨w.heap.size, 2, none⟩ = some (.slice a0 p.length cap0))
    (first
      | with_reducible exact K0
      | with_reducible exact K0A
      | with_reducible exact K1
      | with_reducible exact K1A
      | with_reducible exact K1B
      | with_reducible exact K1S
      | assumption)
    (first
      | (go_at_call 51; ((with_reducible refine (HAL.out _ HVI.out).mono ?_); rintro e w1 ⟨v1, rfl, r1', b1'⟩; have bb1 : Below w0.heap.size w0 w1 := (Below.refl w0.heap.size w0).drew.trans b1'; have r1 : Row w0.heap.size w1 v1 p := r1'; obtain ⟨a1, l1, rfl⟩ := r1.shape; have hA1 := HA.out.kept bb1; have K1 := hA1.c3; have K1A := (hA1.alloc (.cells #[.int .i64 0, .int .i64 0, .slice none 0 0] 30)).c3; have K1B := (hA1.alloc (.cells #[.int .i64 b, .int .i64 m, .slice a1 p.length l1] 30)).c3; have K1S := K1; have HR1 := Lib.hid (HR.out.kept bb1); have V1 := Lib.hid r1; have hb1 := hb0.trans (bb1.mono hb0.size); have hz1 := bb1.size; clear hA1 r1 r1' b1' bb1))
      | (go_at_call 51; ((with_reducible refine (HAL.out _ HVA.out).mono ?_); rintro e w1 ⟨v1, rfl, r1', b1'⟩; have bb1 : Below w0.heap.size w0 w1 := (((Below.refl w0.heap.size w0).alloc (Nat.le_refl _) (.cells #[.int .i64 0, .int .i64 0, .slice none 0 0] 30)).drew).trans (b1'.mono (by simp)); have r6 : Row (w0.heap.size + 1) w1 v1 p := Row.mono r1' (by simp); have hN1 : SBox w1 w0.heap.size 30 #[.int .i64 0, .int .i64 0, .slice none 0 0] := (b1'.block w0.heap.size (by simp)).trans (heap_alloc_new w0 _); have n0 := hN1.cell 0; have n1 := hN1.cell 1; have n2 := hN1.cell 2; have f0 := hN1.frozen 0; have f1 := hN1.frozen 1; have f2 := hN1.frozen 2; have HN1 := Lib.hid hN1; have R6 := Lib.hid r6; obtain ⟨a1, l1, rfl⟩ := r6.shape; have hA1 := HA.out.kept bb1; have K1 := hA1.c3; have K1A := K1; have K1B := K1; have K1S := (((hA1.far (p := ⟨w0.heap.size, 0, none⟩) hne0 (.int .i64 b)).far (p := ⟨w0.heap.size, 1, none⟩) hne0 (.int .i64 m)).far (p := ⟨w0.heap.size, 2, none⟩) hne0 (.slice a1 p.length l1)).c3; have HR1 := Lib.hid (HR.out.kept bb1); have hb1 := hb0.trans (bb1.mono hb0.size); have hz1 := bb1.size; clear hA1 r6 hN1 r1' b1' bb1))
      )
  · have HS : Hid (SBox (w1.alloc (.cells #[.int .i64 b, .int .i64 m, .slice a1 p.length l1] 30)) w1.heap.size 30 #[.int .i64 b, .int .i64 m, .slice a1 p.length l1]) := Lib.hid (SBox.new _ _ _)
    have HRs := Lib.hid (HR1.out.alloc (.cells #[.int .i64 b, .int .i64 m, .slice a1 p.length l1] 30))
    have HV : Hid (Row (w.heap.size + 2) (w1.alloc (.cells #[.int .i64 b, .int .i64 m, .slice a1 p.length l1] 30)) (.slice a1 p.length l1) p) := Lib.hid (Row.mono (World.ownsRow.alloc V1.out _) hz0)
    have hbW := hb1.alloc hb1.size (.cells #[.int .i64 b, .int .i64 m, .slice a1 p.length l1] 30)
    have hBR : w.heap.size + 1 < w1.heap.size := by omega
    clear K0 K0A K1 K1A K1B K1S HR1 V1 hb1 HVI HVA HA HR HAL
    generalize w1.alloc (.cells #[.int .i64 b, .int .i64 m, .slice a1 p.length l1] 30) = W at *
    generalize w1.heap.size = B at *
    by_cases hp0 : p = []
    · have hR := Lib.hid (HNIL.out hp0)
      have hl0 : p.length = 0 := by rw [hp0]; rfl
      have hlt : (p.length : Int) < 1 := by omega
      have hlt' : (p.length : Int) - 1 < 0 := by omega
      clear hl0
      go_wp2_with (first | (refine desk_load rfl _ rfl rfl HS.out ?_) | (refine desk_store rfl _ _ rfl rfl rfl rfl HRs.out ?_; intro w9 hS9 hbl9 hsz9 hO9))
      refine bodyPost_ret (results_cell_tmp rfl _ _ (w.heap.size + 1) #[.int .i64 b, .int .i64 m, .slice a1 p.length l1] _ (.bool false) rfl rfl hS9 rfl Tryz.underlying30 (by rw [size_desk]; rfl)) rfl ?_
      rw [hR.out]
      exact ⟨_, rfl, .inl (Row.mono (Row.others HV.out (B := w.heap.size + 1) (by omega) hO9) (by omega)), fun h => h.elim, hbW.trans (hbl9 w.heap.size (by omega))⟩
    · have hR := Lib.hid (HSOME.out hp0)
      have hl : 1 ≤ p.length := List.length_pos_iff.2 hp0
      obtain ⟨g, cap, hsl, hg0, hg, hgc, _, hcell⟩ := HV.out.lies hl
      simp only [Value.slice.injEq, true_and] at hsl
      obtain ⟨rfl, rfl⟩ := hsl
      obtain ⟨q, hq⟩ : ∃ q, p.length = q + 1 := ⟨p.length - 1, by omega⟩
      have hlast := hcell q (by omega)
      have hrow := Lib.hid (HV.out.front rfl (m := q) (by omega))
      have s1 := HS.out.cell 1
      have s2 := HS.out.cell 2
      have f1 := HS.out.frozen 1
      have f2 := HS.out.frozen 2
      rw [hq] at hR hgc HS s1 s2 ⊢
      rw [Nat.add_sub_cancel] at hR
      have hwq : IntKind.i64.wrap (q : Int) = (q : Int) := IntWalk.i64_in _ (by omega)
      have hneB : B ≠ g := Row.notBox HV.out hl HS.out (by decide)
      have i1 : (q : Int) < (q : Int) + 1 := by omega
      have i2 : 0 ≤ (q : Int) := by omega
      have i3 : q < q + 1 := by omega
      have i4 : q ≤ l1 := by omega
      have i5 : (q : Int) ≤ (l1 : Int) := by omega
      have i6 : (0 : Int) < (q : Int) + 1 := by omega
      have i7 : ¬ (q : Int) + 1 < 1 := by omega
      have i8 : ¬ (q : Int) + 1 - 1 < 0 := by omega
      have i9 : ((q + 1 : Nat) : Int) - 1 = (q : Int) := by omega
      rw [i9]
      generalize p[q]?.getD 0 = L at *
      clear hcell hq hl hp0 i9 hwrap
      go_upto_region 4 with (fail)
      go_region
      have hS8 : SBox (((W.setCell ⟨B, 1, none⟩ (.int .i64 L)).setCell ⟨B, 2, none⟩ (.slice (some ⟨g, 0, none⟩) q l1)).drew) B 30 #[.int .i64 b, .int .i64 L, .slice (some ⟨g, 0, none⟩) q l1] := (HS.out.set 1 _).set 2 _
      have hR8 : SBox (((W.setCell ⟨B, 1, none⟩ (.int .i64 L)).setCell ⟨B, 2, none⟩ (.slice (some ⟨g, 0, none⟩) q l1)).drew) (w.heap.size + 1) 30 #[.int .i64 0, .int .i64 0, .slice none 0 0] := (HRs.out.far (p := ⟨B, 1, none⟩) (Nat.ne_of_lt hBR) _).far (p := ⟨B, 2, none⟩) (Nat.ne_of_lt hBR) _
      have hV8 : Row (w.heap.size + 2) (((W.setCell ⟨B, 1, none⟩ (.int .i64 L)).setCell ⟨B, 2, none⟩ (.slice (some ⟨g, 0, none⟩) q l1)).drew) (.slice (some ⟨g, 0, none⟩) q l1) (p.take q) := (hrow.out.setBox HS.out (by decide) 1 _).setBox (HS.out.set 1 _) (by decide) 2 _
      have hb8 : Below w.heap.size w (((W.setCell ⟨B, 1, none⟩ (.int .i64 L)).setCell ⟨B, 2, none⟩ (.slice (some ⟨g, 0, none⟩) q l1)).drew) := ((hbW.setCell (p := ⟨B, 1, none⟩) (by simp; omega) _).setCell (p := ⟨B, 2, none⟩) (by simp; omega) _).drew
      have HS8 := Lib.hid hS8
      have HR8 := Lib.hid hR8
      have HV8 := Lib.hid hV8
      clear hS8 hR8 hV8 s1 s2 f1 f2 hlast
      generalize ((W.setCell ⟨B, 1, none⟩ (.int .i64 L)).setCell ⟨B, 2, none⟩ (.slice (some ⟨g, 0, none⟩) q l1)).drew = W8 at *
      go_wp2_with (first | (refine desk_load rfl _ rfl rfl HS8.out ?_) | (refine desk_store rfl _ _ rfl rfl rfl rfl HR8.out ?_; intro w9 hS9 hbl9 hsz9 hO9))
      refine bodyPost_ret (results_cell_tmp rfl _ _ (w.heap.size + 1) #[.int .i64 b, .int .i64 L, .slice (some ⟨g, 0, none⟩) q l1] _ (.bool true) rfl rfl hS9 rfl Tryz.underlying30 (by rw [size_desk]; rfl)) rfl ?_
      rw [hR.out]
      exact ⟨_, rfl, .inl (Row.mono (Row.others HV8.out (B := w.heap.size + 1) (by omega) hO9) (by omega)), fun h => h.elim, hb8.trans (hbl9 w.heap.size (by omega))⟩
  · have HS : Hid (SBox (((w1.setCell ⟨w0.heap.size, 0, none⟩ (.int .i64 b)).setCell ⟨w0.heap.size, 1, none⟩ (.int .i64 m)).setCell ⟨w0.heap.size, 2, none⟩ (.slice a1 p.length l1)) w0.heap.size 30 #[.int .i64 b, .int .i64 m, .slice a1 p.length l1]) := Lib.hid (((HN1.out.set 0 _).set 1 _).set 2 _)
    have HRs := Lib.hid (((HR1.out.far (p := ⟨w0.heap.size, 0, none⟩) (by simp; omega) (.int .i64 b)).far (p := ⟨w0.heap.size, 1, none⟩) (by simp; omega) (.int .i64 m)).far (p := ⟨w0.heap.size, 2, none⟩) (by simp; omega) (.slice a1 p.length l1))
    have HV : Hid (Row (w.heap.size + 2) (((w1.setCell ⟨w0.heap.size, 0, none⟩ (.int .i64 b)).setCell ⟨w0.heap.size, 1, none⟩ (.int .i64 m)).setCell ⟨w0.heap.size, 2, none⟩ (.slice a1 p.length l1)) (.slice a1 p.length l1) p) := Lib.hid (Row.mono (((R6.out.setOther (p := ⟨w0.heap.size, 0, none⟩) (by simp) _).setOther (p := ⟨w0.heap.size, 1, none⟩) (by simp) _).setOther (p := ⟨w0.heap.size, 2, none⟩) (by simp) _) (by omega))
    have hbW := below_three hb1 (show w.heap.size ≤ w0.heap.size by omega) (.int .i64 b) (.int .i64 m) (.slice a1 p.length l1)
    have hBR : w.heap.size + 1 < w0.heap.size := by omega
    clear K0 K0A K1 K1A K1B K1S HR1 R6 hb1 HVI HVA HA HR HAL HN1 n0 n1 n2 f0 f1 f2 hne0
    generalize (((w1.setCell ⟨w0.heap.size, 0, none⟩ (.int .i64 b)).setCell ⟨w0.heap.size, 1, none⟩ (.int .i64 m)).setCell ⟨w0.heap.size, 2, none⟩ (.slice a1 p.length l1)) = W at *
    generalize w0.heap.size = B at *
    by_cases hp0 : p = []
    · have hR := Lib.hid (HNIL.out hp0)
      have hl0 : p.length = 0 := by rw [hp0]; rfl
      have hlt : (p.length : Int) < 1 := by omega
      have hlt' : (p.length : Int) - 1 < 0 := by omega
      clear hl0
      go_wp2_with (first | (refine desk_load rfl _ rfl rfl HS.out ?_) | (refine desk_store rfl _ _ rfl rfl rfl rfl HRs.out ?_; intro w9 hS9 hbl9 hsz9 hO9))
      refine bodyPost_ret (results_cell_tmp rfl _ _ (w.heap.size + 1) #[.int .i64 b, .int .i64 m, .slice a1 p.length l1] _ (.bool false) rfl rfl hS9 rfl Tryz.underlying30 (by rw [size_desk]; rfl)) rfl ?_
      rw [hR.out]
      exact ⟨_, rfl, .inl (Row.mono (Row.others HV.out (B := w.heap.size + 1) (by omega) hO9) (by omega)), fun h => h.elim, hbW.trans (hbl9 w.heap.size (by omega))⟩
    · have hR := Lib.hid (HSOME.out hp0)
      have hl : 1 ≤ p.length := List.length_pos_iff.2 hp0
      obtain ⟨g, cap, hsl, hg0, hg, hgc, _, hcell⟩ := HV.out.lies hl
      simp only [Value.slice.injEq, true_and] at hsl
      obtain ⟨rfl, rfl⟩ := hsl
      obtain ⟨q, hq⟩ : ∃ q, p.length = q + 1 := ⟨p.length - 1, by omega⟩
      have hlast := hcell q (by omega)
      have hrow := Lib.hid (HV.out.front rfl (m := q) (by omega))
      have s1 := HS.out.cell 1
      have s2 := HS.out.cell 2
      have f1 := HS.out.frozen 1
      have f2 := HS.out.frozen 2
      rw [hq] at hR hgc HS s1 s2 ⊢
      rw [Nat.add_sub_cancel] at hR
      have hwq : IntKind.i64.wrap (q : Int) = (q : Int) := IntWalk.i64_in _ (by omega)
      have hneB : B ≠ g := Row.notBox HV.out hl HS.out (by decide)
      have i1 : (q : Int) < (q : Int) + 1 := by omega
      have i2 : 0 ≤ (q : Int) := by omega
      have i3 : q < q + 1 := by omega
      have i4 : q ≤ l1 := by omega
      have i5 : (q : Int) ≤ (l1 : Int) := by omega
      have i6 : (0 : Int) < (q : Int) + 1 := by omega
      have i7 : ¬ (q : Int) + 1 < 1 := by omega
      have i8 : ¬ (q : Int) + 1 - 1 < 0 := by omega
      have i9 : ((q + 1 : Nat) : Int) - 1 = (q : Int) := by omega
      rw [i9]
      generalize p[q]?.getD 0 = L at *
      clear hcell hq hl hp0 i9 hwrap
      go_upto_region 4 with (fail)
      go_region
      have hS8 : SBox (((W.setCell ⟨B, 1, none⟩ (.int .i64 L)).setCell ⟨B, 2, none⟩ (.slice (some ⟨g, 0, none⟩) q l1)).drew) B 30 #[.int .i64 b, .int .i64 L, .slice (some ⟨g, 0, none⟩) q l1] := (HS.out.set 1 _).set 2 _
      have hR8 : SBox (((W.setCell ⟨B, 1, none⟩ (.int .i64 L)).setCell ⟨B, 2, none⟩ (.slice (some ⟨g, 0, none⟩) q l1)).drew) (w.heap.size + 1) 30 #[.int .i64 0, .int .i64 0, .slice none 0 0] := (HRs.out.far (p := ⟨B, 1, none⟩) (Nat.ne_of_lt hBR) _).far (p := ⟨B, 2, none⟩) (Nat.ne_of_lt hBR) _
      have hV8 : Row (w.heap.size + 2) (((W.setCell ⟨B, 1, none⟩ (.int .i64 L)).setCell ⟨B, 2, none⟩ (.slice (some ⟨g, 0, none⟩) q l1)).drew) (.slice (some ⟨g, 0, none⟩) q l1) (p.take q) := (hrow.out.setBox HS.out (by decide) 1 _).setBox (HS.out.set 1 _) (by decide) 2 _
      have hb8 : Below w.heap.size w (((W.setCell ⟨B, 1, none⟩ (.int .i64 L)).setCell ⟨B, 2, none⟩ (.slice (some ⟨g, 0, none⟩) q l1)).drew) := ((hbW.setCell (p := ⟨B, 1, none⟩) (by simp; omega) _).setCell (p := ⟨B, 2, none⟩) (by simp; omega) _).drew
      have HS8 := Lib.hid hS8
      have HR8 := Lib.hid hR8
      have HV8 := Lib.hid hV8
      clear hS8 hR8 hV8 s1 s2 f1 f2 hlast
      generalize ((W.setCell ⟨B, 1, none⟩ (.int .i64 L)).setCell ⟨B, 2, none⟩ (.slice (some ⟨g, 0, none⟩) q l1)).drew = W8 at *
      go_wp2_with (first | (refine desk_load rfl _ rfl rfl HS8.out ?_) | (refine desk_store rfl _ _ rfl rfl rfl rfl HR8.out ?_; intro w9 hS9 hbl9 hsz9 hO9))
      refine bodyPost_ret (results_cell_tmp rfl _ _ (w.heap.size + 1) #[.int .i64 b, .int .i64 L, .slice (some ⟨g, 0, none⟩) q l1] _ (.bool true) rfl rfl hS9 rfl Tryz.underlying30 (by rw [size_desk]; rfl)) rfl ?_
      rw [hR.out]
      exact ⟨_, rfl, .inl (Row.mono (Row.others HV8.out (B := w.heap.size + 1) (by omega) hO9) (by omega)), fun h => h.elim, hb8.trans (hbl9 w.heap.size (by omega))⟩

set_option maxRecDepth 100000 in
set_option maxHeartbeats 4000000 in
theorem implDeskDo (d : Pl.Dk) (pv : Value) (k n : Int) (w : World) (hp : Ints w pv d.past) (hx : d.past.length ≤ 100000000) :
    Calls Tryz.prog 53 #[.agg #[.int .i64 d.b, .int .i64 d.n, pv], .agg #[.int .i64 k, .int .i64 n]] w (DoPost w False (Pl.doA d k n)) := by
  obtain ⟨b, m, p⟩ := d
  simp only at hp hx ⊢
  have hp' := hp
  obtain ⟨a0, cap0, rfl, _⟩ := hp'
  have hb0 : Below w.heap.size w (((w.alloc (.cells #[.int .i64 b, .int .i64 m, (.slice a0 p.length cap0)] 30)).alloc (.cells #[.int .i64 k, .int .i64 n] 38)).alloc (.cells #[.int .i64 0, .int .i64 0, .slice none 0 0] 30)) := (((Below.refl _ w).alloc (Nat.le_refl _) _).alloc (by simp) _).alloc (by simp; omega) _
  have hA0 : SBox (((w.alloc (.cells #[.int .i64 b, .int .i64 m, (.slice a0 p.length cap0)] 30)).alloc (.cells #[.int .i64 k, .int .i64 n] 38)).alloc (.cells #[.int .i64 0, .int .i64 0, .slice none 0 0] 30)) w.heap.size 30 #[.int .i64 b, .int .i64 m, (.slice a0 p.length cap0)] := ((SBox.new w 30 #[.int .i64 b, .int .i64 m, (.slice a0 p.length cap0)]).alloc _).alloc _
  have hE0 : SBox (((w.alloc (.cells #[.int .i64 b, .int .i64 m, (.slice a0 p.length cap0)] 30)).alloc (.cells #[.int .i64 k, .int .i64 n] 38)).alloc (.cells #[.int .i64 0, .int .i64 0, .slice none 0 0] 30)) (w.heap.size + 1) 38 #[.int .i64 k, .int .i64 n] := by
    have := (SBox.new (w.alloc (.cells #[.int .i64 b, .int .i64 m, (.slice a0 p.length cap0)] 30)) 38 #[.int .i64 k, .int .i64 n]).alloc (.cells #[.int .i64 0, .int .i64 0, .slice none 0 0] 30)
    rwa [World.size_alloc] at this
  have hR0 : SBox (((w.alloc (.cells #[.int .i64 b, .int .i64 m, (.slice a0 p.length cap0)] 30)).alloc (.cells #[.int .i64 k, .int .i64 n] 38)).alloc (.cells #[.int .i64 0, .int .i64 0, .slice none 0 0] 30)) (w.heap.size + 1 + 1) 30 #[.int .i64 0, .int .i64 0, .slice none 0 0] := by
    have := SBox.new ((w.alloc (.cells #[.int .i64 b, .int .i64 m, (.slice a0 p.length cap0)] 30)).alloc (.cells #[.int .i64 k, .int .i64 n] 38)) 30 #[.int .i64 0, .int .i64 0, .slice none 0 0]
    rwa [World.size_alloc, World.size_alloc] at this
  have hI0 := hp.below hb0
  have hz0 : (((w.alloc (.cells #[.int .i64 b, .int .i64 m, (.slice a0 p.length cap0)] 30)).alloc (.cells #[.int .i64 k, .int .i64 n] 38)).alloc (.cells #[.int .i64 0, .int .i64 0, .slice none 0 0] 30)).heap.size = w.heap.size + 1 + 1 + 1 := by simp
  have HOK := Lib.hid (fun W (h : Ints W (.slice a0 p.length cap0) p) => implDeskOk ⟨b, m, p⟩ (.slice a0 p.length cap0) W h hx)
  have HAL := Lib.hid (fun W (h : Ints W (.slice a0 p.length cap0) p) => implAlone ⟨b, m, p⟩ (.slice a0 p.length cap0) W h hx)
  have HPB := Lib.hid (fun W (h : Ints W (.slice a0 p.length cap0) p) => implPutBack ⟨b, m, p⟩ (.slice a0 p.length cap0) W h hx)
  have HCH := Lib.hid (fun M W (h : Ints W (.slice a0 p.length cap0) p) h8 => implChanged ⟨b, m, p⟩ (.slice a0 p.length cap0) M W h h8)
  have HLD := Lib.hid (fun W => implLeadsTo b m (.slice a0 p.length cap0) k n W)
  simp only at HOK HAL HPB HCH
  go_enter Tryz.func53, Tryz.ntmps53
  go_wp2_with fail
  generalize (((w.alloc (.cells #[.int .i64 b, .int .i64 m, (.slice a0 p.length cap0)] 30)).alloc (.cells #[.int .i64 k, .int .i64 n] 38)).alloc (.cells #[.int .i64 0, .int .i64 0, .slice none 0 0] 30)) = w0 at *
  refine (HOK.out _ hI0).mono ?_
  rintro e w1 ⟨rfl, b1⟩
  have HA1 := Lib.hid (hA0.kept b1)
  have HE1 := Lib.hid (hE0.kept b1)
  have HR1 := Lib.hid (hR0.kept b1)
  have HI1 := Lib.hid (hI0.below b1)
  have hb1 := hb0.trans (b1.mono hb0.size)
  have hz1 : w.heap.size + 3 ≤ w1.heap.size := by have := b1.size; omega
  clear hA0 hE0 hR0 hI0 hb0 hz0 b1 HOK hp
  by_cases hok : Pl.dkB ⟨b, m, p⟩ = true
  · rw [hok]
    have HB : Hid (p.length ≤ 8 ∧ Pl.baseB b = true) := Lib.hid (by
      obtain ⟨h1, _, h2⟩ := (Pl.dkB_iff _).1 hok
      refine ⟨h2, ?_⟩
      unfold Pl.okB at h1
      rw [Bool.and_eq_true] at h1
      exact h1.1)
    have ek := HE1.out.cell 0
    have en := HE1.out.cell 1
    have am := HA1.out.cell 1
    have ab := HA1.out.cell 0
    by_cases hfar : n ≠ 0 ∧ k ≠ 0
    · have hR := Lib.hid (Pl.doA_far hok hfar.1 hfar.2)
      have t1 : (n != 0) = true := by simpa using hfar.1
      have t2 : (k != 0) = true := by simpa using hfar.2
      clear hfar hok
      go_wp2_with (first | (refine desk_load rfl _ rfl rfl HA1.out ?_))
      refine (HAL.out _ HI1.out).mono ?_
      rintro e w2 ⟨v2, rfl, r2', b2⟩
      have r2 : Row w1.heap.size w2 v2 p := r2'
      have HR2 := Lib.hid (HR1.out.kept b2)
      have hb2 := hb1.trans (b2.mono hb1.size)
      have hz2 := b2.size
      clear r2' b2 HR1 HA1 HE1 HI1 HAL HPB HCH HLD ek en am ab
      obtain ⟨a2, c2, rfl⟩ := r2.shape
      go_wp2_with (refine desk_store rfl _ _ rfl rfl rfl rfl HR2.out ?_; intro w3 hS3 hbl3 hsz3 hO3)
      refine bodyPost_ret (results_cell_tmp rfl _ _ (w.heap.size + 1 + 1) #[.int .i64 b, .int .i64 m, .slice a2 p.length c2] _ (.bool false) rfl rfl hS3 rfl Tryz.underlying30 (by rw [size_desk]; rfl)) rfl ?_
      rw [hR.out]
      exact ⟨_, rfl, .inl (Row.mono (Row.others r2 (B := w.heap.size + 1 + 1) (by omega) hO3) (by omega)), fun h => h.elim, hb2.trans (hbl3 w.heap.size (by omega))⟩
    · by_cases h7 : k = 7
      · have hn : n = 0 := Classical.byContradiction fun hn => hfar ⟨hn, by omega⟩
        subst h7 hn
        have HR : Hid (Pl.doA ⟨b, m, p⟩ 7 0 = Pl.backA ⟨b, m, p⟩) := Lib.hid (by
          unfold Pl.backA
          by_cases he : p = []
          · rw [if_pos he]; exact Pl.doA_none0 hok he
          · rw [if_neg he]; exact Pl.doA_back hok ⟨rfl, rfl⟩ he)
        clear hfar hok
        go_wp2_with (refine desk_load rfl _ rfl rfl HA1.out ?_)
        refine (HPB.out _ HI1.out).mono ?_
        rintro e w2 ⟨v2, rfl, r2', _, b2⟩
        obtain ⟨R, hG⟩ : ∃ R, Pl.backA ⟨b, m, p⟩ = R := ⟨_, rfl⟩
        rw [hG] at r2' ⊢
        obtain ⟨⟨rb, rn, rp⟩, rt⟩ := R
        have HG := Lib.hid hG
        clear hG
        have r2 : OwnTail w1.heap.size w2 v2 rp := r2'
        have HR2 := Lib.hid (HR1.out.kept b2)
        have hb2 := hb1.trans (b2.mono hb1.size)
        have hz2 := b2.size
        clear r2' b2 HR1 HA1 HE1 HI1 HAL HPB HCH HLD ek en am ab
        obtain ⟨a2, c2, rfl, _⟩ := r2.ints
        have HS2 := Lib.hid HR2.out
        go_wp2_with (refine desk_store rfl _ _ rfl rfl rfl rfl HR2.out ?_; intro w3 hS3 hbl3 hsz3 hO3)
        refine bodyPost_ret (results_cell_tmp rfl _ _ (w.heap.size + 1 + 1) #[.int .i64 rb, .int .i64 rn, .slice a2 rp.length c2] _ (.bool rt) rfl rfl hS3 rfl Tryz.underlying30 (by rw [size_desk]; rfl)) rfl ?_
        rw [HR.out, HG.out]
        exact ⟨_, rfl, OwnTail.mono (OwnTail.stored r2 HS2.out (by decide) hO3) (by omega), fun h => h.elim, hb2.trans (hbl3 w.heap.size (by omega))⟩
      · have h7' : (k == 7) = false := by rw [beq_eq_false_iff_ne]; exact h7
        have hcase : (n != 0) = false ∨ ((n != 0) = true ∧ (k != 0) = false) := by
          by_cases hn : n = 0
          · left; simp [hn]
          · right
            have hk : k = 0 := Classical.byContradiction fun hk => hfar ⟨hn, hk⟩
            exact ⟨by simpa using hn, by simp [hk]⟩
        have HM : Hid (Pl.mkI ⟨b, m, p⟩ k n = Pl.leadI b m k n) := Lib.hid (Pl.leadI_mk ⟨b, m, p⟩ k n hfar)
        have HY := Lib.hid (fun h => Pl.doA_yes (d := ⟨b, m, p⟩) (k := k) (n := n) hok (fun hh => h7 hh.1.1) h)
        have HNO := Lib.hid (fun h => Pl.doA_not (d := ⟨b, m, p⟩) (k := k) (n := n) hok (fun hh => h7 hh.1.1) h)
        rw [HM.out] at HY HNO
        clear hfar hok h7 HM
        generalize Pl.leadI b m k n = M at *
        have HH : Hid (∀ W, Calls Tryz.prog 79 #[.int .i64 M, .int .i64 b] W fun e w' => e = .returned (.bool (Pl.wholeB M)) ∧ W = w') := Lib.hid fun W => by
          refine (hasDigits M b W).mono ?_
          rintro e w' ⟨rfl, rfl⟩
          refine ⟨ret_bool ?_, rfl⟩
          unfold Pl.okB Pl.wholeB
          rw [HB.out.2, Bool.true_and]
        rcases hcase with t1 | ⟨t1, t2⟩
        all_goals
          go_wp2_with (first | (refine desk_load rfl _ rfl rfl HA1.out ?_) | (refine deed_load rfl _ rfl rfl HE1.out ?_))
          refine (HLD.out _).mono ?_
          rintro e w2 ⟨rfl, b2⟩
          have HA2 := Lib.hid (HA1.out.kept b2)
          have HR2 := Lib.hid (HR1.out.kept b2)
          have HI2 := Lib.hid (HI1.out.below b2)
          have hb2 := hb1.trans (b2.mono hb1.size)
          have hz2 := b2.size
          have am := HA2.out.cell 1
          have ab := HA2.out.cell 0
          clear b2 HR1 HA1 HE1 HI1 HLD HPB ek en
          by_cases hyes : Pl.wholeB M = true ∧ M ≠ m
          · have hR := Lib.hid (HY.out hyes)
            have hM : (M == m) = false := by rw [beq_eq_false_iff_ne]; exact hyes.2
            have HW := Lib.hid hyes.1
            clear hyes HY HNO
            go_wp2_with (first | (go_at_call 79; refine (HH.out _).mono ?_; rintro e w' ⟨rfl, rfl⟩; rw [HW.out]) | (refine desk_load rfl _ rfl rfl HA2.out ?_))
            refine (HCH.out M _ HI2.out HB.out.1).mono ?_
            rintro e w3 ⟨v3, rfl, r3', b3⟩
            have r3 : OwnTail w2.heap.size w3 v3 (Pl.cut8 (p ++ [m])) := r3'
            have HR3 := Lib.hid (HR2.out.kept b3)
            have hb3 := hb2.trans (b3.mono hb2.size)
            have hz3 := b3.size
            clear r3' b3 HR2 HA2 HI2 HAL HCH am ab
            generalize Pl.cut8 (p ++ [m]) = Q at *
            obtain ⟨a3, c3, rfl, _⟩ := r3.ints
            have HS3 := Lib.hid HR3.out
            go_wp2_with (refine desk_store rfl _ _ rfl rfl rfl rfl HR3.out ?_; intro w4 hS4 hbl4 hsz4 hO4)
            refine bodyPost_ret (results_cell_tmp rfl _ _ (w.heap.size + 1 + 1) #[.int .i64 b, .int .i64 M, .slice a3 Q.length c3] _ (.bool true) rfl rfl hS4 rfl Tryz.underlying30 (by rw [size_desk]; rfl)) rfl ?_
            rw [hR.out]
            exact ⟨_, rfl, (r3.stored HS3.out (by decide) hO4).mono (by omega), fun h => h.elim, hb3.trans (hbl4 w.heap.size (by omega))⟩
          · have hR := Lib.hid (HNO.out hyes)
            have hcase2 : (M == m) = true ∨ ((M == m) = false ∧ Pl.wholeB M = false) := by
              by_cases hm : M = m
              · left; simp [hm]
              · right
                refine ⟨by rw [beq_eq_false_iff_ne]; exact hm, ?_⟩
                cases hw : Pl.wholeB M with
                | false => rfl
                | true => exact absurd ⟨hw, hm⟩ hyes
            clear hyes HY HNO
            rcases hcase2 with hM | ⟨hM, hW⟩
            · go_wp2_with (refine desk_load rfl _ rfl rfl HA2.out ?_)
              refine (HAL.out _ HI2.out).mono ?_
              rintro e w3 ⟨v3, rfl, r3', b3⟩
              have r3 : Row w2.heap.size w3 v3 p := r3'
              have HR3 := Lib.hid (HR2.out.kept b3)
              have hb3 := hb2.trans (b3.mono hb2.size)
              have hz3 := b3.size
              clear r3' b3 HR2 HA2 HI2 HAL HCH am ab
              obtain ⟨a3, c3, rfl⟩ := r3.shape
              go_wp2_with (refine desk_store rfl _ _ rfl rfl rfl rfl HR3.out ?_; intro w4 hS4 hbl4 hsz4 hO4)
              refine bodyPost_ret (results_cell_tmp rfl _ _ (w.heap.size + 1 + 1) #[.int .i64 b, .int .i64 m, .slice a3 p.length c3] _ (.bool false) rfl rfl hS4 rfl Tryz.underlying30 (by rw [size_desk]; rfl)) rfl ?_
              rw [hR.out]
              exact ⟨_, rfl, .inl (Row.mono (Row.others r3 (B := w.heap.size + 1 + 1) (by omega) hO4) (by omega)), fun h => h.elim, hb3.trans (hbl4 w.heap.size (by omega))⟩
            · have HW := Lib.hid hW
              clear hW
              go_wp2_with (first | (go_at_call 79; refine (HH.out _).mono ?_; rintro e w' ⟨rfl, rfl⟩; rw [HW.out]) | (refine desk_load rfl _ rfl rfl HA2.out ?_))
              refine (HAL.out _ HI2.out).mono ?_
              rintro e w3 ⟨v3, rfl, r3', b3⟩
              have r3 : Row w2.heap.size w3 v3 p := r3'
              have HR3 := Lib.hid (HR2.out.kept b3)
              have hb3 := hb2.trans (b3.mono hb2.size)
              have hz3 := b3.size
              clear r3' b3 HR2 HA2 HI2 HAL HCH am ab
              obtain ⟨a3, c3, rfl⟩ := r3.shape
              go_wp2_with (refine desk_store rfl _ _ rfl rfl rfl rfl HR3.out ?_; intro w4 hS4 hbl4 hsz4 hO4)
              refine bodyPost_ret (results_cell_tmp rfl _ _ (w.heap.size + 1 + 1) #[.int .i64 b, .int .i64 m, .slice a3 p.length c3] _ (.bool false) rfl rfl hS4 rfl Tryz.underlying30 (by rw [size_desk]; rfl)) rfl ?_
              rw [hR.out]
              exact ⟨_, rfl, .inl (Row.mono (Row.others r3 (B := w.heap.size + 1 + 1) (by omega) hO4) (by omega)), fun h => h.elim, hb3.trans (hbl4 w.heap.size (by omega))⟩
  · have hno : Pl.dkB ⟨b, m, p⟩ = false := by simpa using hok
    rw [hno]
    have hR := Lib.hid (Pl.doA_none (k := k) (n := n) hok)
    clear HA1 HE1 HI1 hok hno HAL HPB HCH HLD
    go_wp2_with (refine desk_store rfl _ _ rfl rfl rfl rfl HR1.out ?_; intro w2 hS2 hbl2 hsz2 _)
    refine bodyPost_ret (results_cell_tmp rfl _ _ (w.heap.size + 1 + 1) #[.int .i64 0, .int .i64 0, .slice none 0 0] _ (.bool false) rfl rfl hS2 rfl Tryz.underlying30 (by rw [size_desk]; rfl)) rfl ?_
    rw [hR.out]
    exact ⟨.slice none 0 0, rfl, .inl (World.ownsRow_nil _ _ _ _), fun h => h.elim, hb1.trans (hbl2 w.heap.size (by omega))⟩

end Go.Proofs.YtgkkoegfmhgcjaaGreatDoor

namespace Go.Proofs.YtgkkoegfmhgcjaaGreatDoor
open Go.RowKit Go.Shelf

/-- One more deed, done or not. -/
theorem Pl.runD_next {d : Pl.Dk} (h : Pl.dkB d = true) (l : List (Int × Int)) (a : Int × Int) :
    Pl.runD d (l ++ [a]) = ((Pl.doA (Pl.runD d l).1 a.1 a.2).1, if (Pl.doA (Pl.runD d l).1 a.1 a.2).2 = true then (Pl.runD d l).2 + 1 else (Pl.runD d l).2) := by
  rw [Pl.runD_snoc]
  by_cases hd : (Pl.doA (Pl.runD d l).1 a.1 a.2).2 = true
  · rw [if_pos hd, if_pos hd]
  · rw [if_neg hd, if_neg hd, Pl.doA_not_same (Pl.runD_desk h l).1 (by simpa using hd)]

set_option maxRecDepth 100000 in
set_option maxHeartbeats 4000000 in
theorem implDeskRun (d : Pl.Dk) (pv lv : Value) (ds : List (Int × Int)) (w : World) (hp : Ints w pv d.past) (hx : d.past.length ≤ 100000000) (hl : Deeds w lv ds) :
    Calls Tryz.prog 16 #[.agg #[.int .i64 d.b, .int .i64 d.n, pv], lv] w (RunPost w (Pl.runA d ds)) := by
  obtain ⟨b, m, p⟩ := d
  simp only at hp hx ⊢
  have hbw : Below w.heap.size w ((w.alloc (.cells #[.int .i64 b, .int .i64 m, pv] 30)).alloc (.cells #[.int .i64 0, .int .i64 0, .slice none 0 0] 30)) := ((Below.refl _ w).alloc (Nat.le_refl _) _).alloc (by simp) _
  have hA0 : SBox ((w.alloc (.cells #[.int .i64 b, .int .i64 m, pv] 30)).alloc (.cells #[.int .i64 0, .int .i64 0, .slice none 0 0] 30)) w.heap.size 30 #[.int .i64 b, .int .i64 m, pv] := (SBox.new w 30 _).alloc _
  have hR0 : SBox ((w.alloc (.cells #[.int .i64 b, .int .i64 m, pv] 30)).alloc (.cells #[.int .i64 0, .int .i64 0, .slice none 0 0] 30)) (w.heap.size + 1) 30 #[.int .i64 0, .int .i64 0, .slice none 0 0] := by
    have := SBox.new (w.alloc (.cells #[.int .i64 b, .int .i64 m, pv] 30)) 30 #[.int .i64 0, .int .i64 0, .slice none 0 0]
    rwa [World.size_alloc] at this
  have hz0 : ((w.alloc (.cells #[.int .i64 b, .int .i64 m, pv] 30)).alloc (.cells #[.int .i64 0, .int .i64 0, .slice none 0 0] 30)).heap.size = w.heap.size + 1 + 1 := by simp
  have hI0 := hp.below hbw
  have HOK := Lib.hid (fun W (h : Ints W pv p) => implDeskOk ⟨b, m, p⟩ pv W h hx)
  have HCP := Lib.hid (fun W (h : Ints W pv p) => implAlone ⟨b, m, p⟩ pv W h hx)
  simp only at HOK HCP
  obtain ⟨la, lc, rfl, hcells⟩ := hl
  have HL := Lib.hid hcells
  clear hcells
  obtain ⟨R, hR⟩ : ∃ R, Pl.runA ⟨b, m, p⟩ ds = R := ⟨_, rfl⟩
  rw [hR]
  go_enter Tryz.func16, Tryz.ntmps16
  go_wp2_with fail
  generalize ((w.alloc (.cells #[.int .i64 b, .int .i64 m, pv] 30)).alloc (.cells #[.int .i64 0, .int .i64 0, .slice none 0 0] 30)) = w0 at *
  refine (HOK.out _ hI0).mono ?_
  rintro e w1 ⟨rfl, b1⟩
  have HA1 := Lib.hid (hA0.kept b1)
  have HR1 := Lib.hid (hR0.kept b1)
  have HI1 := Lib.hid (hI0.below b1)
  have hb1 := hbw.trans (b1.mono hbw.size)
  have hz1 : w.heap.size + 2 ≤ w1.heap.size := by have := b1.size; omega
  clear hA0 hR0 hI0 b1 hbw HOK hz0 hp
  by_cases hok : Pl.dkB ⟨b, m, p⟩ = true
  · rw [hok]
    by_cases h40 : ds.length ≤ 40
    · have h40' : ¬ (40 : Int) < (ds.length : Int) := by omega
      rw [Pl.runA, if_pos ⟨hok, h40⟩] at hR
      have HRR := Lib.hid hR
      have HOKD := Lib.hid hok
      clear hR hok
      go_wp2_with (refine desk_load rfl _ rfl rfl HA1.out ?_)
      refine (HCP.out _ HI1.out).mono ?_
      rintro e w2 ⟨v2, rfl, r2', b2⟩
      have r2 : Row w1.heap.size w2 v2 p := r2'
      have HR2 := Lib.hid (HR1.out.kept b2)
      have HV2 : Hid (OwnTail w1.heap.size (w2.alloc (.cells #[.int .i64 b, .int .i64 m, v2] 30)) v2 p) := Lib.hid (.inl (World.ownsRow.alloc r2 _))
      have HB2 := Lib.hid (SBox.new w2 30 #[.int .i64 b, .int .i64 m, v2])
      have HR3 := Lib.hid (HR2.out.alloc (.cells #[.int .i64 b, .int .i64 m, v2] 30))
      have hb2 := (hb1.trans (b2.mono hb1.size)).alloc (Nat.le_trans hb1.size b2.size) (.cells #[.int .i64 b, .int .i64 m, v2] 30)
      have hz2 : w1.heap.size ≤ w2.heap.size := b2.size
      have hz3 : w2.heap.size + 1 ≤ (w2.alloc (.cells #[.int .i64 b, .int .i64 m, v2] 30)).heap.size := by simp
      obtain ⟨a2, c2, rfl⟩ := r2.shape
      clear r2 r2' b2 HR1 HA1 HI1 HCP HR2 hb1
      go_wp2_with fail
      generalize w2.alloc (.cells #[.int .i64 b, .int .i64 m, .slice a2 p.length c2] 30) = w3 at *
      go_loopw [7, 25] (fun nv kv wr => ∃ (k : Nat) (D : Pl.Dk) (v : Value), kv = .int .i64 k ∧ k ≤ ds.length ∧ D = (Pl.runD ⟨b, m, p⟩ (ds.take k)).1 ∧ nv = .int .i64 ((Pl.runD ⟨b, m, p⟩ (ds.take k)).2 : Int) ∧ SBox wr w2.heap.size 30 #[.int .i64 D.b, .int .i64 D.n, v] ∧ OwnTail (w.heap.size + 2) wr v D.past ∧ Below w2.heap.size w3 wr) (fun _ kv _ => ds.length - (intOf kv).toNat)
      case atStart => exact ⟨0, ⟨b, m, p⟩, _, rfl, Nat.zero_le _, rfl, rfl, HB2.out, HV2.out.mono hz1, Below.refl _ _⟩
      case round =>
        clear HV2 HB2
        obtain ⟨k, D, v, rfl, hk, hD, rfl, hB, hV, hbr⟩ := hrel
        have hdesk := Pl.runD_desk HOKD.out (ds.take k)
        rw [← hD] at hdesk
        have hdk := hdesk.1
        have hcl := hdesk.2.2
        rw [List.length_take, Nat.min_eq_left hk] at hcl
        have hpl : D.past.length ≤ 8 := ((Pl.dkB_iff _).1 hdk).2.2
        have HB := Lib.hid hB
        have HV := Lib.hid hV
        have hszr := hbr.size
        have hbwr : Below w.heap.size w wr := hb2.trans (hbr.mono (by omega))
        have HRr := Lib.hid (HR3.out.below hbr (by omega))
        by_cases hlt : k < ds.length
        · obtain ⟨gl, offl, rfl, ck, cn⟩ := HL.out k hlt
          have hgl : gl < w.heap.size := World.block_lt_of_cell? _ _ ck
          have dk := (hbwr.cell (p := ⟨gl, offl + k * 2, none⟩) hgl).trans ck
          have dn := (hbwr.cell (p := ⟨gl, offl + (k * 2 + 1), none⟩) hgl).trans cn
          have dn' : wr.cell? ⟨gl, offl + k * 2 + 1, none⟩ = some (.int .i64 (ds[k]?.getD (0, 0)).2) := dn
          have hi : (k : Int) < (ds.length : Int) := by omega
          obtain ⟨av, cv, rfl, _⟩ := hV.ints
          have HDO := Lib.hid (fun W (h : Ints W (.slice av D.past.length cv) D.past) => implDeskDo D (.slice av D.past.length cv) (ds[k]?.getD (0, 0)).1 (ds[k]?.getD (0, 0)).2 W h (by omega))
          have hsn := Pl.runD_next HOKD.out (ds.take k) (ds[k]?.getD (0, 0))
          have htk : ds.take (k + 1) = ds.take k ++ [ds[k]?.getD (0, 0)] := by rw [List.take_succ_eq_append_getElem hlt, List.getElem?_eq_getElem hlt]; rfl
          rw [← htk, ← hD] at hsn
          have HSN := Lib.hid hsn
          clear ck cn hsn htk hD hB hV hdesk hdk dn
          generalize Pl.doA D (ds[k]?.getD (0, 0)).1 (ds[k]?.getD (0, 0)).2 = r at *
          generalize (Pl.runD ⟨b, m, p⟩ (ds.take k)).2 = cnt at *
          generalize (ds[k]?.getD (0, 0)).1 = ka at *
          generalize (ds[k]?.getD (0, 0)).2 = kb at *
          go_upto_region 7 with (fail)
          have HBq := Lib.hid (HB.out.alloc (.cells #[.int .i64 ka, .int .i64 kb] 38))
          have HEq := Lib.hid (SBox.new wr 38 #[.int .i64 ka, .int .i64 kb])
          have HIq : Hid (Ints (wr.alloc (.cells #[.int .i64 ka, .int .i64 kb] 38)) (.slice av D.past.length cv) D.past) := Lib.hid (HV.out.ints.below ((Below.refl _ _).alloc (Nat.le_refl _) _))
          have hbq : Below w2.heap.size w3 (wr.alloc (.cells #[.int .i64 ka, .int .i64 kb] 38)) := hbr.alloc (by omega) _
          have hzq : wr.heap.size < (wr.alloc (.cells #[.int .i64 ka, .int .i64 kb] 38)).heap.size := by simp
          clear HB dk dn' hbr
          generalize (wr.alloc (.cells #[.int .i64 ka, .int .i64 kb] 38)) = wq at *
          go_wp2_with (first | (refine desk_load rfl _ rfl rfl HBq.out ?_) | (refine deed_load rfl _ rfl rfl HEq.out ?_))
          refine (HDO.out _ HIq.out).mono ?_
          rintro e w5 ⟨v5, rfl, o5', _, b5⟩
          have o5 : OwnTail wq.heap.size w5 v5 r.1.past := o5'
          have HB5 := HBq.out.kept b5
          have hb5 := hbq.trans (b5.mono (by omega))
          have hz5 := b5.size
          obtain ⟨a5, c5, rfl, _⟩ := o5.ints
          have HS6 := Lib.hid (SBox.new w5 30 #[.int .i64 r.1.b, .int .i64 r.1.n, .slice a5 r.1.past.length c5])
          have HB6 := Lib.hid (HB5.alloc (.cells #[.int .i64 r.1.b, .int .i64 r.1.n, .slice a5 r.1.past.length c5] 30))
          have HO6 := Lib.hid (o5.below ((Below.refl _ _).alloc (Nat.le_refl _) (.cells #[.int .i64 r.1.b, .int .i64 r.1.n, .slice a5 r.1.past.length c5] 30)))
          have hb6 := hb5.alloc (by omega) (.cells #[.int .i64 r.1.b, .int .i64 r.1.n, .slice a5 r.1.past.length c5] 30)
          clear o5 o5' b5 HB5 HBq HEq HIq hbq hb5 HDO HV
          cases hdo : r.2 with
          | true =>
            have hsn := HSN.out
            rw [hdo, if_pos rfl] at hsn
            have HS := Lib.hid hsn
            clear hsn hdo
            go_upto_region 8 with (fail)
            generalize w5.alloc (.cells #[.int .i64 r.1.b, .int .i64 r.1.n, .slice a5 r.1.past.length c5] 30) = W6 at *
            go_wp2_with (first | (refine desk_load rfl _ rfl rfl HS6.out ?_) | (refine desk_store rfl _ _ rfl rfl rfl rfl HB6.out ?_; intro w10 hS10 hbl10 hsz10 hO10))
            go_roundw
            case rel => exact ⟨k + 1, r.1, _, by go_num, by omega, by rw [HS.out], by rw [HS.out]; go_num, hS10, (HO6.out.stored HB6.out (by decide) hO10).mono (by omega), hb6.trans (hbl10 _ (Nat.le_refl _))⟩
            case measure => simp [intOf]; omega
          | false =>
            have hsn := HSN.out
            rw [hdo, if_neg (by simp)] at hsn
            have HS := Lib.hid hsn
            clear hsn hdo
            go_upto_region 8 with (fail)
            generalize w5.alloc (.cells #[.int .i64 r.1.b, .int .i64 r.1.n, .slice a5 r.1.past.length c5] 30) = W6 at *
            go_wp2_with (first | (refine desk_load rfl _ rfl rfl HS6.out ?_) | (refine desk_store rfl _ _ rfl rfl rfl rfl HB6.out ?_; intro w10 hS10 hbl10 hsz10 hO10))
            go_roundw
            case rel => exact ⟨k + 1, r.1, _, by go_num, by omega, by rw [HS.out], by rw [HS.out], hS10, (HO6.out.stored HB6.out (by decide) hO10).mono (by omega), hb6.trans (hbl10 _ (Nat.le_refl _))⟩
            case measure => simp [intOf]; omega
        · obtain rfl : k = ds.length := by omega
          have hi : ¬ (ds.length : Int) < (ds.length : Int) := by omega
          rw [List.take_of_length_le (Nat.le_refl _), HRR.out] at hD ⊢
          subst hD
          obtain ⟨av, cv, rfl, _⟩ := hV.ints
          clear hB hV hdesk hdk
          go_wp2_with (first | (refine desk_load rfl _ rfl rfl HB.out ?_) | (refine desk_store rfl _ _ rfl rfl rfl rfl HRr.out ?_; intro w9 hS9 hbl9 hsz9 hO9))
          refine bodyPost_ret (results_cell_tmp rfl _ _ (w.heap.size + 1) #[.int .i64 R.1.b, .int .i64 R.1.n, .slice av R.1.past.length cv] _ (.int .i64 (R.2 : Int)) rfl rfl hS9 rfl Tryz.underlying30 (by rw [size_desk]; rfl)) rfl ?_
          exact ⟨_, rfl, (HV.out.stored HRr.out (by decide) hO9).mono (by omega), hbwr.trans (hbl9 w.heap.size (by omega))⟩
    · have h40' : (40 : Int) < (ds.length : Int) := by omega
      rw [Pl.runA, if_neg (fun h => h40 h.2)] at hR
      subst hR
      clear HA1 HI1 HCP hok
      go_wp2_with (refine desk_store rfl _ _ rfl rfl rfl rfl HR1.out ?_; intro w2 hS2 hbl2 hsz2 _)
      refine bodyPost_ret (results_cell_tmp rfl _ _ (w.heap.size + 1) #[.int .i64 0, .int .i64 0, .slice none 0 0] _ (.int .i64 0) rfl rfl hS2 rfl Tryz.underlying30 (by rw [size_desk]; rfl)) rfl ?_
      exact ⟨.slice none 0 0, rfl, .inl (World.ownsRow_nil _ _ _ _), hb1.trans (hbl2 w.heap.size (by omega))⟩
  · have hno : Pl.dkB ⟨b, m, p⟩ = false := by simpa using hok
    rw [hno]
    rw [Pl.runA, if_neg (fun h => hok h.1)] at hR
    subst hR
    clear HA1 HI1 HCP hok
    go_wp2_with (refine desk_store rfl _ _ rfl rfl rfl rfl HR1.out ?_; intro w2 hS2 hbl2 hsz2 _)
    refine bodyPost_ret (results_cell_tmp rfl _ _ (w.heap.size + 1) #[.int .i64 0, .int .i64 0, .slice none 0 0] _ (.int .i64 0) rfl rfl hS2 rfl Tryz.underlying30 (by rw [size_desk]; rfl)) rfl ?_
    exact ⟨.slice none 0 0, rfl, .inl (World.ownsRow_nil _ _ _ _), hb1.trans (hbl2 w.heap.size (by omega))⟩

end Go.Proofs.YtgkkoegfmhgcjaaGreatDoor
