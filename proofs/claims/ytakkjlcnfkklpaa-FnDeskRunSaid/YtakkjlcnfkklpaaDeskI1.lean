/-
  impl: desks: DeskOk, alone, leadsTo, changed.
-/
import Derived.Deep.DeepCutAuto
import Derived.Test.YtakkjlcnfkklpaaSpecRun
import Derived.Test.YtakkjlcnfkklpaaRoot
import Derived.Test.YtakkjlcnfkklpaaProd
import Derived.Test.YtakkjlcnfkklpaaNextOf
import Derived.Test.YtakkjlcnfkklpaaTurned
import Derived.Test.YtakkjlcnfkklpaaSelf
namespace Go.Proofs.Ytakkjlcnfkklpaa
open Go.RowKit Go.Shelf

theorem wpList_append_ints {ops : Array Oper} {rest : List Oper} {o : Oper} {a : Act} {Q : Exit → Act → World → Prop} {W : World} (hgd : o.guard = none) (s x : Operand)
    (ho : o.op = .call { callee := .builtin .append, args := #[s, x], argTypes := #[23, 23] }) (base : Nat) (v u : Value) (xs ys : List Int) (hs : a.eval s = v) (hv : Row base W v xs)
    (hx : a.eval x = u) (hu : Ints W u ys) (hl : xs.length + ys.length ≤ 1000000000) (hbase : base ≤ W.heap.size)
    (h : ∀ v' W', Row base W' v' (xs ++ ys) → Below base W W' → wpList Try.prog ops Q rest (a.put o.dst v') W') : wpList Try.prog ops Q (o :: rest) a W :=
  wpList_plain hgd fun _ hK => wp_append_ints s x ho base v u xs ys hs hv hx hu hl hbase fun v' W' r b => hK _ _ (h v' W' r b)

set_option maxRecDepth 100000 in
set_option maxHeartbeats 2000000 in
theorem implDeskOk (d : Pl.Dk) (pv : Value) (w : World) (hp : Ints w pv d.past) (hx : d.past.length ≤ 100000000) :
    Calls Try.prog 12 #[.agg #[.int .i64 d.b, .int .i64 d.n, pv]] w fun e w' => e = .returned (.bool (Pl.dkB d)) ∧ Below w.heap.size w w' := by
  obtain ⟨b, n, p⟩ := d
  simp only at hp hx ⊢
  obtain ⟨a, cap, rfl, hc⟩ := hp
  have HC := Lib.hid hc
  have b0 : Below w.heap.size w (w.alloc (.cells #[.int .i64 b, .int .i64 n, .slice a p.length cap] 25)) := (Below.refl _ _).alloc (Nat.le_refl _) _
  obtain ⟨R, hR⟩ : ∃ R, Pl.dkB ⟨b, n, p⟩ = R := ⟨_, rfl⟩
  rw [hR]
  have HRR := Lib.hid hR
  clear hc hR
  cases hok : Pl.okB n b with
  | false =>
    have HR : Hid (R = false) := Lib.hid (by
      rw [← HRR.out]
      unfold Pl.dkB
      simp only [hok, Bool.false_and])
    go_enter Try.func12, Try.ntmps12
    go_wp2_with (go_at_call 39; refine (hasDigits _ _ _).mono ?_; rintro e w' ⟨rfl, rfl⟩; rw [hok])
    go_ret
    exact ⟨ret_bool HR.out.symm, b0⟩
  | true =>
    have hbase : Pl.baseB b = true := by
      unfold Pl.okB at hok
      rw [Bool.and_eq_true] at hok
      exact hok.1
    by_cases h8 : p.length ≤ 8
    · have h8' : ¬ (8 : Int) < (p.length : Int) := by omega
      have HOK := Lib.hid hok
      have HAS : Hid (∀ x W, Calls Try.prog 39 #[.int .i64 x, .int .i64 b] W fun e w' => e = .returned (.bool (Pl.wholeB x)) ∧ W = w') := Lib.hid fun x W => by
        refine (hasDigits x b W).mono ?_
        rintro e w' ⟨rfl, rfl⟩
        refine ⟨ret_bool ?_, rfl⟩
        unfold Pl.okB Pl.wholeB
        rw [hbase, Bool.true_and]
      have HN : Hid (Pl.wholeB n = true) := Lib.hid (by
        unfold Pl.okB at hok
        rw [hbase, Bool.true_and] at hok
        exact hok)
      clear hok
      go_enter Try.func12, Try.ntmps12
      go_wp2_with (go_at_call 39; refine (HAS.out _ _).mono ?_; rintro e w' ⟨rfl, rfl⟩; rw [HN.out])
      go_loop [20] (fun kv => ∃ k : Nat, k ≤ p.length ∧ kv = .int .i64 k ∧ (p.take k).all Pl.wholeB = true) (fun kv => p.length - (intOf kv).toNat)
      case atStart => exact ⟨0, Nat.zero_le _, rfl, rfl⟩
      case round =>
        obtain ⟨k, hk, rfl, hall⟩ := hrel
        by_cases hlt : k < p.length
        · obtain ⟨g, off, rfl, ck⟩ := HC.out k hlt
          have hg : g < w.heap.size := World.block_lt_of_cell? _ _ ck
          have ck' : (w.alloc (.cells #[.int .i64 b, .int .i64 n, .slice (some ⟨g, off, none⟩) p.length cap] 25)).cell? ⟨g, off + k, none⟩ = some (.int .i64 (p[k]?.getD 0)) := cell_alloc_l _ ck
          have hi : (k : Int) < (p.length : Int) := by omega
          cases hw : Pl.wholeB (p[k]?.getD 0) with
          | false =>
            have HR : Hid (R = false) := Lib.hid (by
              rw [← HRR.out]
              unfold Pl.dkB
              simp only [Pl.whole_not hlt hw, Bool.false_and, Bool.and_false])
            have HW := Lib.hid hw
            clear hw hall ck
            generalize p[k]?.getD 0 = q at *
            go_wp2_with (go_at_call 39; refine (HAS.out _ _).mono ?_; rintro e w' ⟨rfl, rfl⟩; rw [HW.out])
            go_ret
            exact ⟨ret_bool HR.out.symm, b0⟩
          | true =>
            have HA := Lib.hid (Pl.whole_take hlt hall hw)
            have HW := Lib.hid hw
            clear hw hall ck
            generalize p[k]?.getD 0 = q at *
            go_wp2_with (go_at_call 39; refine (HAS.out _ _).mono ?_; rintro e w' ⟨rfl, rfl⟩; rw [HW.out])
            go_round
            case rel => exact ⟨k + 1, by omega, by go_num, HA.out⟩
            case measure => simp [intOf]; omega
        · obtain rfl : k = p.length := by omega
          have hi : ¬ (p.length : Int) < (p.length : Int) := by omega
          rw [List.take_of_length_le (Nat.le_refl _)] at hall
          have HR : Hid (R = true) := Lib.hid (by
            rw [← HRR.out]
            unfold Pl.dkB
            simp only [hall, HOK.out, Bool.true_and]
            simpa using h8)
          clear hall
          go_wp2_with fail
          go_ret
          exact ⟨ret_bool HR.out.symm, b0⟩
    · have h8' : (8 : Int) < (p.length : Int) := by omega
      have HR : Hid (R = false) := Lib.hid (by
        rw [← HRR.out]
        unfold Pl.dkB
        simp only [hok, Bool.true_and]
        simp; omega)
      go_enter Try.func12, Try.ntmps12
      go_wp2_with (go_at_call 39; refine (hasDigits _ _ _).mono ?_; rintro e w' ⟨rfl, rfl⟩; rw [hok])
      go_ret
      exact ⟨ret_bool HR.out.symm, b0⟩

set_option maxRecDepth 100000 in
set_option maxHeartbeats 2000000 in
theorem implAlone (d : Pl.Dk) (pv : Value) (w : World) (hp : Ints w pv d.past) (hx : d.past.length ≤ 100000000) :
    Calls Try.prog 46 #[.agg #[.int .i64 d.b, .int .i64 d.n, pv]] w (DeskPost w d) := by
  obtain ⟨b, n, p⟩ := d
  simp only at hp hx ⊢
  have hp' := hp
  obtain ⟨a, cap, rfl, _⟩ := hp'
  have hb0 : Below w.heap.size w ((w.alloc (.cells #[.int .i64 b, .int .i64 n, .slice a p.length cap] 25)).alloc (.cells #[.int .i64 0, .int .i64 0, .slice none 0 0] 25)) := ((Below.refl _ w).alloc (Nat.le_refl _) _).alloc (by simp) _
  have hA0 : SBox ((w.alloc (.cells #[.int .i64 b, .int .i64 n, .slice a p.length cap] 25)).alloc (.cells #[.int .i64 0, .int .i64 0, .slice none 0 0] 25)) w.heap.size 25 #[.int .i64 b, .int .i64 n, .slice a p.length cap] := (SBox.new w 25 _).alloc _
  have hR0 : SBox ((w.alloc (.cells #[.int .i64 b, .int .i64 n, .slice a p.length cap] 25)).alloc (.cells #[.int .i64 0, .int .i64 0, .slice none 0 0] 25)) (w.heap.size + 1) 25 #[.int .i64 0, .int .i64 0, .slice none 0 0] := by
    have := SBox.new (w.alloc (.cells #[.int .i64 b, .int .i64 n, .slice a p.length cap] 25)) 25 #[.int .i64 0, .int .i64 0, .slice none 0 0]
    rwa [World.size_alloc] at this
  have HI := Lib.hid (hp.below hb0)
  have HA := Lib.hid hA0
  have HR := Lib.hid hR0
  have hz : ((w.alloc (.cells #[.int .i64 b, .int .i64 n, .slice a p.length cap] 25)).alloc (.cells #[.int .i64 0, .int .i64 0, .slice none 0 0] 25)).heap.size = w.heap.size + 2 := by simp
  have HZ := Lib.hid hz
  clear hA0 hR0 hp hz
  go_enter Try.func46, Try.ntmps46
  go_wp2_with (first
    | (at_builtin; refine wpList_append_ints rfl _ _ rfl (w.heap.size + 2) (.slice none 0 0) (.slice a p.length cap) [] p rfl (World.ownsRow_nil _ _ _ _) rfl HI.out (by simp; omega) (by rw [HZ.out]; omega) ?_; intro v1 w1 r1 b1; have hA1 := HA.out.below b1 (by omega); have hR1 := HR.out.below b1 (by omega); have c2 := hA1.cell 2; have f2 := hA1.frozen 2; have HA1 := Lib.hid hA1; have HR1 := Lib.hid hR1; have HW1 := Lib.hid r1; have hb1 := hb0.trans (b1.mono (by omega)); obtain ⟨a1, c1, rfl⟩ := r1.shape; clear hA1 hR1 r1 b1)
    | (refine desk_load rfl _ rfl rfl (HA1.out.set 2 _) ?_) | (refine desk_store rfl _ _ rfl rfl rfl rfl (HR1.out.far (p := ⟨w.heap.size, 2, none⟩) (by simp) _) ?_; intro w2 hS2 hbl2 hsz2 hO2))
  refine bodyPost_ret (results_cell_row rfl _ _ (w.heap.size + 1) 25 _ (0, 0) _ rfl hS2 Try.underlying25 rfl (by rw [size_desk]; rfl)) rfl ?_
  have r2 : Row (w.heap.size + 2) w2 (.slice a1 p.length c1) p := Row.others ((HW1.out.setOther (p := ⟨w.heap.size, 2, none⟩) (by simp) _)) (B := w.heap.size + 1) (by omega) hO2
  exact ⟨_, rfl, Row.mono r2 (by omega), (hb1.setCell (p := ⟨w.heap.size, 2, none⟩) (Nat.le_refl _) _).trans (hbl2 w.heap.size (by omega))⟩

/-- The number to which a deed leads that changes the number; -1 for other kinds. -/
def Pl.leadI (b m k n : Int) : Int :=
  if k = 0 then n else if k = 1 then Pl.sumI m b else if k = 2 then Pl.prodI m b else if k = 3 then Pl.nextI m 2 b else if k = 4 then Pl.turnI m b else if k = 5 then Pl.addI m b else if k = 6 then Pl.madeI m b else -1
theorem Pl.leadI_mk (d : Pl.Dk) (k n : Int) (h : ¬ (n ≠ 0 ∧ k ≠ 0)) : Pl.mkI d k n = Pl.leadI d.b d.n k n := by
  unfold Pl.mkI Pl.leadI
  by_cases h0 : k = 0
  · rw [if_pos h0, if_pos h0]
  · have hn : n = 0 := Classical.byContradiction fun hn => h ⟨hn, h0⟩
    rw [if_neg h0, if_neg h0, if_pos hn]
theorem Pl.doA_far {d : Pl.Dk} {k n : Int} (h : Pl.dkB d = true) (hn : n ≠ 0) (hk : k ≠ 0) : Pl.doA d k n = (d, false) := by
  refine Pl.doA_not h (fun hh => hn hh.1.2) fun hh => ?_
  have h1 := hh.1
  unfold Pl.mkI at h1
  rw [if_neg hk, if_neg hn] at h1
  exact absurd h1 (by decide)
theorem Pl.doA_none0 {d : Pl.Dk} (h : Pl.dkB d = true) (hp : d.past = []) : Pl.doA d 7 0 = (d, false) :=
  Pl.doA_not h (fun hh => hh.2 hp) fun hh => absurd hh.1 (by
    have : Pl.mkI d 7 0 = -1 := rfl
    rw [this]; decide)

set_option maxRecDepth 100000 in
set_option maxHeartbeats 4000000 in
theorem implLeadsTo (b m : Int) (pv : Value) (k n : Int) (w : World) :
    Calls Try.prog 48 #[.agg #[.int .i64 b, .int .i64 m, pv], .agg #[.int .i64 k, .int .i64 n]] w fun e w' => e = .returned (.int .i64 (Pl.leadI b m k n)) ∧ Below w.heap.size w w' := by
  obtain ⟨R, hR⟩ : ∃ R, Pl.leadI b m k n = R := ⟨_, rfl⟩
  rw [hR]
  unfold Pl.leadI at hR
  have hbw : Below w.heap.size w ((w.alloc (.cells #[.int .i64 b, .int .i64 m, pv] 25)).alloc (.cells #[.int .i64 k, .int .i64 n] 36)) :=
    ((Below.refl _ w).alloc (Nat.le_refl _) _).alloc (by simp) _
  by_cases h0 : k = 0
  · rw [if_pos h0] at hR
    subst h0 hR
    go_enter Try.func48, Try.ntmps48
    go_wp2_with fail
    go_ret
    exact ⟨rfl, hbw⟩
  · rw [if_neg h0] at hR
    have e0 : (k == 0) = false := by rw [beq_eq_false_iff_ne]; exact h0
    by_cases h1 : k = 1
    · rw [if_pos h1] at hR
      subst h1
      have HC := Lib.hid (implSumOf m b)
      rw [hR] at HC
      clear hR h0 e0
      go_enter Try.func48, Try.ntmps48
      go_wp2_with (go_at_call 64; refine (HC.out _).mono ?_; rintro e w' ⟨rfl, b1⟩)
      go_ret
      exact ⟨rfl, hbw.trans (b1.mono hbw.size)⟩
    · rw [if_neg h1] at hR
      have e1 : (k == 1) = false := by rw [beq_eq_false_iff_ne]; exact h1
      by_cases h2 : k = 2
      · rw [if_pos h2] at hR
        subst h2
        have HC := Lib.hid (implDigitProduct m b)
        rw [hR] at HC
        clear hR h0 e0 h1 e1
        go_enter Try.func48, Try.ntmps48
        go_wp2_with (go_at_call 65; refine (HC.out _).mono ?_; rintro e w' ⟨rfl, b1⟩)
        go_ret
        exact ⟨rfl, hbw.trans (b1.mono hbw.size)⟩
      · rw [if_neg h2] at hR
        have e2 : (k == 2) = false := by rw [beq_eq_false_iff_ne]; exact h2
        by_cases h3 : k = 3
        · rw [if_pos h3] at hR
          subst h3
          have HC := Lib.hid (implNextOf m 2 b)
          rw [hR] at HC
          clear hR h0 e0 h1 e1 h2 e2
          go_enter Try.func48, Try.ntmps48
          go_wp2_with (go_at_call 66; refine (HC.out _).mono ?_; rintro e w' ⟨rfl, b1⟩)
          go_ret
          exact ⟨rfl, hbw.trans (b1.mono hbw.size)⟩
        · rw [if_neg h3] at hR
          have e3 : (k == 3) = false := by rw [beq_eq_false_iff_ne]; exact h3
          by_cases h4 : k = 4
          · rw [if_pos h4] at hR
            subst h4
            have HC := Lib.hid (implTurnedOf m b)
            rw [hR] at HC
            clear hR h0 e0 h1 e1 h2 e2 h3 e3
            go_enter Try.func48, Try.ntmps48
            go_wp2_with (go_at_call 67; refine (HC.out _).mono ?_; rintro e w' ⟨rfl, b1⟩)
            go_ret
            exact ⟨rfl, hbw.trans (b1.mono hbw.size)⟩
          · rw [if_neg h4] at hR
            have e4 : (k == 4) = false := by rw [beq_eq_false_iff_ne]; exact h4
            by_cases h5 : k = 5
            · rw [if_pos h5] at hR
              subst h5
              have HC := Lib.hid (implAddedTurned m b)
              rw [hR] at HC
              clear hR h0 e0 h1 e1 h2 e2 h3 e3 h4 e4
              go_enter Try.func48, Try.ntmps48
              go_wp2_with (go_at_call 68; refine (HC.out _).mono ?_; rintro e w' ⟨rfl, b1⟩)
              go_ret
              exact ⟨rfl, hbw.trans (b1.mono hbw.size)⟩
            · rw [if_neg h5] at hR
              have e5 : (k == 5) = false := by rw [beq_eq_false_iff_ne]; exact h5
              by_cases h6 : k = 6
              · rw [if_pos h6] at hR
                subst h6
                have HC := Lib.hid (implMadeBy m b)
                rw [hR] at HC
                clear hR h0 e0 h1 e1 h2 e2 h3 e3 h4 e4 h5 e5
                go_enter Try.func48, Try.ntmps48
                go_wp2_with (go_at_call 69; refine (HC.out _).mono ?_; rintro e w' ⟨rfl, b1⟩)
                go_ret
                exact ⟨rfl, hbw.trans (b1.mono hbw.size)⟩
              · rw [if_neg h6] at hR
                have e6 : (k == 6) = false := by rw [beq_eq_false_iff_ne]; exact h6
                subst hR
                clear h0 h1 h2 h3 h4 h5 h6
                go_enter Try.func48, Try.ntmps48
                go_wp2_with fail
                go_ret
                exact ⟨rfl, hbw⟩

/-- A call that hands back a desk, the numbers of before in new memory. -/
def ChPost (w : World) (r : Pl.Dk) (e : Ending) (w' : World) : Prop := ∃ v, e = .returned (.agg #[.int .i64 r.b, .int .i64 r.n, v]) ∧ OwnTail w.heap.size w' v r.past ∧ Below w.heap.size w w'

set_option maxRecDepth 100000 in
set_option maxHeartbeats 4000000 in
theorem implChanged (d : Pl.Dk) (pv : Value) (M : Int) (w : World) (hp : Ints w pv d.past) (hx : d.past.length ≤ 8) :
    Calls Try.prog 49 #[.agg #[.int .i64 d.b, .int .i64 d.n, pv], .int .i64 M] w (ChPost w ⟨d.b, M, Pl.cut8 (d.past ++ [d.n])⟩) := by
  obtain ⟨b, m, p⟩ := d
  simp only at hp hx ⊢
  have hp' := hp
  obtain ⟨a0, cap0, rfl, _⟩ := hp'
  have hb0 : Below w.heap.size w ((w.alloc (.cells #[.int .i64 b, .int .i64 m, .slice a0 p.length cap0] 25)).alloc (.cells #[.int .i64 0, .int .i64 0, .slice none 0 0] 25)) := ((Below.refl _ w).alloc (Nat.le_refl _) _).alloc (by simp) _
  have hA0 : SBox ((w.alloc (.cells #[.int .i64 b, .int .i64 m, .slice a0 p.length cap0] 25)).alloc (.cells #[.int .i64 0, .int .i64 0, .slice none 0 0] 25)) w.heap.size 25 #[.int .i64 b, .int .i64 m, .slice a0 p.length cap0] := (SBox.new w 25 _).alloc _
  have hR0 : SBox ((w.alloc (.cells #[.int .i64 b, .int .i64 m, .slice a0 p.length cap0] 25)).alloc (.cells #[.int .i64 0, .int .i64 0, .slice none 0 0] 25)) (w.heap.size + 1) 25 #[.int .i64 0, .int .i64 0, .slice none 0 0] := by
    have := SBox.new (w.alloc (.cells #[.int .i64 b, .int .i64 m, .slice a0 p.length cap0] 25)) 25 #[.int .i64 0, .int .i64 0, .slice none 0 0]
    rwa [World.size_alloc] at this
  have hI0 := hp.below hb0
  have hz0 : w.heap.size + 1 + 1 ≤ ((w.alloc (.cells #[.int .i64 b, .int .i64 m, .slice a0 p.length cap0] 25)).alloc (.cells #[.int .i64 0, .int .i64 0, .slice none 0 0] 25)).heap.size := by simp
  have HAL := Lib.hid (fun W (h : Ints W (.slice a0 p.length cap0) p) => implAlone ⟨b, m, p⟩ (.slice a0 p.length cap0) W h (Nat.le_trans hx (by omega)))
  simp only at HAL
  go_enter Try.func49, Try.ntmps49
  go_wp2_with fail
  generalize ((w.alloc (.cells #[.int .i64 b, .int .i64 m, .slice a0 p.length cap0] 25)).alloc (.cells #[.int .i64 0, .int .i64 0, .slice none 0 0] 25)) = w0 at *
  refine (HAL.out _ hI0).mono ?_
  rintro e w1 ⟨v1, rfl, r1', b1⟩
  have r1 : Row w0.heap.size w1 v1 p := r1'
  have hA1 := hA0.kept b1
  have hR1 := hR0.kept b1
  have hb1 := hb0.trans (b1.mono hb0.size)
  have hz1 := b1.size
  clear hA0 hR0 hI0 hb0 b1 r1' hp HAL
  obtain ⟨a1, c1, rfl⟩ := r1.shape
  have HB2 : Hid (SBox (w1.alloc (.cells #[.int .i64 b, .int .i64 m, .slice a1 p.length c1] 25)) w1.heap.size 25 #[.int .i64 b, .int .i64 m, .slice a1 p.length c1]) := Lib.hid (SBox.new _ _ _)
  have HA2 := Lib.hid (hA1.alloc (.cells #[.int .i64 b, .int .i64 m, .slice a1 p.length c1] 25))
  have HR2 := Lib.hid (hR1.alloc (.cells #[.int .i64 b, .int .i64 m, .slice a1 p.length c1] 25))
  have HV2 : Hid (Row w0.heap.size (w1.alloc (.cells #[.int .i64 b, .int .i64 m, .slice a1 p.length c1] 25)) (.slice a1 p.length c1) p) := Lib.hid (World.ownsRow.alloc r1 _)
  have hb2 := hb1.alloc hb1.size (.cells #[.int .i64 b, .int .i64 m, .slice a1 p.length c1] 25)
  have hz2 : w1.heap.size + 1 ≤ (w1.alloc (.cells #[.int .i64 b, .int .i64 m, .slice a1 p.length c1] 25)).heap.size := by simp
  have HOWN : Hid ((Value.slice a1 p.length c1).ownBlock ≠ some w1.heap.size) := Lib.hid fun e => by
    have := (World.ownsRow.lt r1 _ e).2
    omega
  clear r1 hA1 hR1 hb1
  go_upto_region 2 with (fail)
  generalize w1.alloc (.cells #[.int .i64 b, .int .i64 m, .slice a1 p.length c1] 25) = w2 at *
  obtain ⟨i0, hi0, hz0', hz1', hz2'⟩ := info_parts info_int
  have hr2 : w2.ownsRow w0.heap.size 3 1 (.slice a1 p.length c1) p.length (p.map (Value.int .i64)) := HV2.out
  have e1 := HB2.out.cell 1
  have e2 := HB2.out.cell 2
  have am := HA2.out.cell 1
  have H8 : Hid (∀ (v8 : Value) (w8 : World), w8.ownsRow w0.heap.size 3 1 v8 (p.length + 1) (p.map (Value.int .i64) ++ [.int .i64 m]) → (w2.alloc (.cells #[.int .i64 m] 3)).grownBy w8 (Value.slice a1 p.length c1).ownBlock →
    Row w0.heap.size w8 v8 (p ++ [m]) ∧ SBox w8 w1.heap.size 25 #[.int .i64 b, .int .i64 m, .slice a1 p.length c1] ∧ SBox w8 (w.heap.size + 1) 25 #[.int .i64 0, .int .i64 0, .slice none 0 0] ∧ Below w.heap.size w w8 ∧ w2.heap.size < w8.heap.size) := Lib.hid fun v8 w8 hown hgrow => by
    have hbA : Below w0.heap.size (w2.alloc (.cells #[.int .i64 m] 3)) w8 := (Below.refl _ _).grown hgrow (by simp; omega) fun k e => (World.ownsRow.lt hr2 k e).1
    refine ⟨row_snoc hown, (HB2.out.alloc _).grown hgrow HOWN.out, (HR2.out.alloc _).below hbA (by omega), ?_, ?_⟩
    · exact (hb2.alloc hb2.size _).trans (hbA.mono (by omega))
    · have := hgrow.size; simp at this; omega
  have hne : w.heap.size + 1 ≠ w1.heap.size := by omega
  clear HV2
  by_cases h8 : 8 ≤ p.length
  · have h8t : (8 : Int) < (p.length : Int) + 1 := by omega
    have h8f : (1 : Int) ≤ (p.length : Int) + 1 := by omega
    go_upto_region 5 with (first
      | (at_builtin; refine wpList_append_own _ rfl _ _ 23 rfl w0.heap.size 3 i0 (.int .i64 0) 1 8 Try.underlying23 hi0 hz0' hz1' hz2' rfl (by decide) _ _ _ rfl (hr2.alloc _) ⟨w2.heap.size, 0, none⟩ 1 1 [.int .i64 m] rfl rfl (cell_one_new _ _ _) (by simp [Value.oneCell']) (by unfold maxLen; omega) (by omega) (by rw [World.size_alloc]; omega) ?_; intro v8 w8 hown8 hgrow8 _; obtain ⟨r8, hB8, hR8, hb8, hz8⟩ := H8.out v8 w8 hown8 hgrow8; obtain ⟨g3, c3, rfl, hg3, hg3', hgc3, _, _⟩ := r8.lies (by simp); have f2 := hB8.frozen 2; have d2 := hB8.cell 2; have f1 := hB8.frozen 1; have d1 := hB8.cell 1; have d0 := hB8.cell 0; have HB8 := Lib.hid hB8; have HR8 := Lib.hid hR8; have HV8 := Lib.hid r8; have hgc4 : p.length + 1 ≤ c3 := (by simpa using hgc3); have hc31 : ¬ c3 = 1 := (by omega); clear r8 hB8 hR8 hown8 hgrow8 e1 e2; clear hgc3; simp only [List.length_append, List.length_cons, List.length_nil, Nat.zero_add]))
    have e71 : p.length - 7 = 1 := by omega
    rw [e71, Nat.add_sub_cancel]
    clear e71
    have hSB : SBox (((w8.setCell ⟨w1.heap.size, 2, none⟩ (.slice (some ⟨g3, 0, none⟩) (p.length + 1) c3)).setCell ⟨w1.heap.size, 2, none⟩ (.slice (some ⟨g3, 1, none⟩) p.length (c3 - 1))).setCell ⟨w1.heap.size, 1, none⟩ (.int .i64 M)) w1.heap.size 25 #[.int .i64 b, .int .i64 M, .slice (some ⟨g3, 1, none⟩) p.length (c3 - 1)] := ((HB8.out.set 2 _).set 2 _).set 1 _
    have hSR : SBox (((w8.setCell ⟨w1.heap.size, 2, none⟩ (.slice (some ⟨g3, 0, none⟩) (p.length + 1) c3)).setCell ⟨w1.heap.size, 2, none⟩ (.slice (some ⟨g3, 1, none⟩) p.length (c3 - 1))).setCell ⟨w1.heap.size, 1, none⟩ (.int .i64 M)) (w.heap.size + 1) 25 #[.int .i64 0, .int .i64 0, .slice none 0 0] := ((HR8.out.far (p := ⟨w1.heap.size, 2, none⟩) hne _).far (p := ⟨w1.heap.size, 2, none⟩) hne _).far (p := ⟨w1.heap.size, 1, none⟩) hne _
    have hRW : Row w0.heap.size (((w8.setCell ⟨w1.heap.size, 2, none⟩ (.slice (some ⟨g3, 0, none⟩) (p.length + 1) c3)).setCell ⟨w1.heap.size, 2, none⟩ (.slice (some ⟨g3, 1, none⟩) p.length (c3 - 1))).setCell ⟨w1.heap.size, 1, none⟩ (.int .i64 M)) (.slice (some ⟨g3, 0, none⟩) (p ++ [m]).length c3) (p ++ [m]) := ((HV8.out.setBox HB8.out (by decide) 2 _).setBox (HB8.out.set 2 _) (by decide) 2 _).setBox ((HB8.out.set 2 _).set 2 _) (by decide) 1 _
    have hBW : Below w.heap.size w (((w8.setCell ⟨w1.heap.size, 2, none⟩ (.slice (some ⟨g3, 0, none⟩) (p.length + 1) c3)).setCell ⟨w1.heap.size, 2, none⟩ (.slice (some ⟨g3, 1, none⟩) p.length (c3 - 1))).setCell ⟨w1.heap.size, 1, none⟩ (.int .i64 M)) := ((hb8.setCell (p := ⟨w1.heap.size, 2, none⟩) (by simp; omega) _).setCell (p := ⟨w1.heap.size, 2, none⟩) (by simp; omega) _).setCell (p := ⟨w1.heap.size, 1, none⟩) (by simp; omega) _
    have HSB := Lib.hid hSB
    have HSR := Lib.hid hSR
    clear hSB hSR f2 d2 f1 d1 d0
    generalize (((w8.setCell ⟨w1.heap.size, 2, none⟩ (.slice (some ⟨g3, 0, none⟩) (p.length + 1) c3)).setCell ⟨w1.heap.size, 2, none⟩ (.slice (some ⟨g3, 1, none⟩) p.length (c3 - 1))).setCell ⟨w1.heap.size, 1, none⟩ (.int .i64 M)) = W9 at *
    go_wp2_with (first | (refine desk_load rfl _ rfl rfl HSB.out ?_) | (refine desk_store rfl _ _ rfl rfl rfl rfl HSR.out ?_; intro w9 hS9 hbl9 hsz9 hO9))
    refine bodyPost_ret (results_cell_row rfl _ _ (w.heap.size + 1) 25 _ (0, 0) _ rfl hS9 Try.underlying25 rfl (by rw [size_desk]; rfl)) rfl ?_
    have hcut : Pl.cut8 (p ++ [m]) = (p ++ [m]).drop 1 := by unfold Pl.cut8; rw [if_pos (by simp; omega)]
    have hrf : RowTail w.heap.size w9 (.slice (some ⟨g3, 1, none⟩) p.length (c3 - 1)) ((p ++ [m]).drop 1) :=
      ⟨g3, 1, c3 - 1, c3, p ++ [m], by simp, rfl, by simp; omega, Row.mono (Row.others hRW (B := w.heap.size + 1) (by omega) hO9) (by omega)⟩
    exact ⟨_, rfl, .inr (by rw [hcut]; exact hrf), hBW.trans (hbl9 w.heap.size (by omega))⟩
  · have h8t : ¬ (8 : Int) < (p.length : Int) + 1 := by omega
    go_upto_region 5 with (first
      | (at_builtin; refine wpList_append_own _ rfl _ _ 23 rfl w0.heap.size 3 i0 (.int .i64 0) 1 8 Try.underlying23 hi0 hz0' hz1' hz2' rfl (by decide) _ _ _ rfl (hr2.alloc _) ⟨w2.heap.size, 0, none⟩ 1 1 [.int .i64 m] rfl rfl (cell_one_new _ _ _) (by simp [Value.oneCell']) (by unfold maxLen; omega) (by omega) (by rw [World.size_alloc]; omega) ?_; intro v8 w8 hown8 hgrow8 _; obtain ⟨r8, hB8, hR8, hb8, hz8⟩ := H8.out v8 w8 hown8 hgrow8; obtain ⟨g3, c3, rfl, hg3, hg3', hgc3, _, _⟩ := r8.lies (by simp); have f2 := hB8.frozen 2; have d2 := hB8.cell 2; have f1 := hB8.frozen 1; have d1 := hB8.cell 1; have d0 := hB8.cell 0; have HB8 := Lib.hid hB8; have HR8 := Lib.hid hR8; have HV8 := Lib.hid r8; clear r8 hB8 hR8 hown8 hgrow8 e1 e2; clear hgc3; simp only [List.length_append, List.length_cons, List.length_nil, Nat.zero_add]))
    have hSB : SBox (((w8.setCell ⟨w1.heap.size, 2, none⟩ (.slice (some ⟨g3, 0, none⟩) (p.length + 1) c3)).setCell ⟨w1.heap.size, 2, none⟩ (.slice (some ⟨g3, 0, none⟩) (p.length + 1) c3)).setCell ⟨w1.heap.size, 1, none⟩ (.int .i64 M)) w1.heap.size 25 #[.int .i64 b, .int .i64 M, .slice (some ⟨g3, 0, none⟩) (p.length + 1) c3] := ((HB8.out.set 2 _).set 2 _).set 1 _
    have hSR : SBox (((w8.setCell ⟨w1.heap.size, 2, none⟩ (.slice (some ⟨g3, 0, none⟩) (p.length + 1) c3)).setCell ⟨w1.heap.size, 2, none⟩ (.slice (some ⟨g3, 0, none⟩) (p.length + 1) c3)).setCell ⟨w1.heap.size, 1, none⟩ (.int .i64 M)) (w.heap.size + 1) 25 #[.int .i64 0, .int .i64 0, .slice none 0 0] := ((HR8.out.far (p := ⟨w1.heap.size, 2, none⟩) hne _).far (p := ⟨w1.heap.size, 2, none⟩) hne _).far (p := ⟨w1.heap.size, 1, none⟩) hne _
    have hRW : Row w0.heap.size (((w8.setCell ⟨w1.heap.size, 2, none⟩ (.slice (some ⟨g3, 0, none⟩) (p.length + 1) c3)).setCell ⟨w1.heap.size, 2, none⟩ (.slice (some ⟨g3, 0, none⟩) (p.length + 1) c3)).setCell ⟨w1.heap.size, 1, none⟩ (.int .i64 M)) (.slice (some ⟨g3, 0, none⟩) (p ++ [m]).length c3) (p ++ [m]) := ((HV8.out.setBox HB8.out (by decide) 2 _).setBox (HB8.out.set 2 _) (by decide) 2 _).setBox ((HB8.out.set 2 _).set 2 _) (by decide) 1 _
    have hBW : Below w.heap.size w (((w8.setCell ⟨w1.heap.size, 2, none⟩ (.slice (some ⟨g3, 0, none⟩) (p.length + 1) c3)).setCell ⟨w1.heap.size, 2, none⟩ (.slice (some ⟨g3, 0, none⟩) (p.length + 1) c3)).setCell ⟨w1.heap.size, 1, none⟩ (.int .i64 M)) := ((hb8.setCell (p := ⟨w1.heap.size, 2, none⟩) (by simp; omega) _).setCell (p := ⟨w1.heap.size, 2, none⟩) (by simp; omega) _).setCell (p := ⟨w1.heap.size, 1, none⟩) (by simp; omega) _
    have HSB := Lib.hid hSB
    have HSR := Lib.hid hSR
    clear hSB hSR f2 d2 f1 d1 d0
    generalize (((w8.setCell ⟨w1.heap.size, 2, none⟩ (.slice (some ⟨g3, 0, none⟩) (p.length + 1) c3)).setCell ⟨w1.heap.size, 2, none⟩ (.slice (some ⟨g3, 0, none⟩) (p.length + 1) c3)).setCell ⟨w1.heap.size, 1, none⟩ (.int .i64 M)) = W9 at *
    go_wp2_with (first | (refine desk_load rfl _ rfl rfl HSB.out ?_) | (refine desk_store rfl _ _ rfl rfl rfl rfl HSR.out ?_; intro w9 hS9 hbl9 hsz9 hO9))
    refine bodyPost_ret (results_cell_row rfl _ _ (w.heap.size + 1) 25 _ (0, 0) _ rfl hS9 Try.underlying25 rfl (by rw [size_desk]; rfl)) rfl ?_
    have hcut : Pl.cut8 (p ++ [m]) = p ++ [m] := Pl.cut8_few (by simp; omega)
    have hrf : Row w.heap.size w9 (.slice (some ⟨g3, 0, none⟩) (p.length + 1) c3) (p ++ [m]) := by
      have := Row.mono (Row.others hRW (B := w.heap.size + 1) (by omega) hO9) (show w.heap.size ≤ w0.heap.size by omega)
      simpa using this
    exact ⟨_, rfl, .inl (by rw [hcut]; exact hrf), hBW.trans (hbl9 w.heap.size (by omega))⟩

end Go.Proofs.Ytakkjlcnfkklpaa
