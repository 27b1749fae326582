/-
  impl.RoundOf: what it answers.
-/
import Derived.Test.YtnogcoijlnnbdaaPeriodOf
import Derived.Test.YtnogcoijlnnbdaaRowFacts
namespace Go.Proofs.Ytnogcoijlnnbdaa
open Go.RowKit Go.Shelf

attribute [local go_sem] Oper.semAt_some

/-- The digits at the places that have come. -/
def digsAt (k v y : Nat) (pre : List Nat) : List Int := pre.map fun j => ((Pl.digitN k v y j : Nat) : Int)
theorem digsAt_len (k v y : Nat) (pre : List Nat) : (digsAt k v y pre).length = pre.length := by simp [digsAt]
theorem digsAt_snoc (k v y : Nat) (pre : List Nat) (j : Nat) : digsAt k v y (pre ++ [j]) = digsAt k v y pre ++ [((Pl.digitN k v y j : Nat) : Int)] := by simp [digsAt]

set_option maxRecDepth 100000 in
set_option maxHeartbeats 4000000 in
theorem roundYes (y v k : Nat) (hov : Pl.overB y v k = true) (w : World) :
    Calls Try.prog 24 #[.int .i64 y, .int .i64 v, .int .i64 k] w (ListPost w (Pl.roundA y v k)) := by
  obtain ⟨y', v', k', e1, e2, e3, h1, hv', h3, hk, h5, hu⟩ := Pl.overB_nat hov
  obtain rfl : y = y' := by omega
  obtain rfl : v = v' := by omega
  obtain rfl : k = k' := by omega
  have hv : 1 ≤ v := by omega
  refine (callsIn_wide (n := 5)).1 ?_
  have h15 : 1 ≤ 5 := by omega
  obtain ⟨hper, hle, _⟩ := Pl.periodN_per (b := k) (u := v) hv h5
  have HA : Hid (Pl.roundA y v k = digsAt k v y (List.range (Pl.periodN k v))) := Lib.hid (by
    rw [Pl.roundA_yes hov, digsAt]; simp [Pl.roundD])
  have HP := Lib.hid (implPeriodOf v k)
  rw [Pl.periodI_yes hu] at HP
  have hp1 := hper.pos
  generalize Pl.roundA (y : Int) (v : Int) (k : Int) = L at *
  generalize Pl.periodN k v = p at *
  have HU := Lib.hid (implUnderOk v k)
  rw [hu] at HU
  have i1 : ¬ (y : Int) < 0 := by omega
  have i2 : ¬ (v : Int) ≤ (y : Int) := by omega
  clear hper hu h5 hov
  obtain ⟨i0, hi0, hz0, hz1, hz2⟩ := info_parts info_int
  refine callsIn_of_wp_marks Try.func24 rfl trivial ?_ rfl
  simp only [Try.ntmps24, List.size_toArray, List.length_cons, List.length_nil, Nat.reduceAdd, Nat.reduceSub, Array.replicate_succ, Array.replicate_zero, List.push_toArray, List.append_toArray, List.nil_append, List.cons_append]
  gi_wp2_with (first | (refine ⟨trivial, ?_⟩; gi_at_call 16; refine (callsIn_wide.2 (HU.out _)).mono ?_; rintro e w1 ⟨rfl, hb1⟩) | (refine ⟨trivial, ?_⟩; gi_at_call 21; refine (callsIn_wide.2 (HP.out _)).mono ?_; rintro e w2 ⟨rfl, hb2⟩) | (refine ⟨trivial, ?_⟩; gi_at_call 46; refine (behindPoint0 Fence.wide (5 - 1) trivial rfl _ _ _ _).mono ?_; rintro e w' ⟨rfl, rfl⟩))
  obtain ⟨A, hAe⟩ : ∃ A, w2.heap.size = A := ⟨_, rfl⟩
  have hwA : w.heap.size ≤ A := by have h1 := hb1.size; have h2 := hb2.size; omega
  have hbw2 : Below w.heap.size w w2 := hb1.trans (hb2.mono hb1.size)
  have dA := Boxed.new w2 3 (.int .i64 p)
  have dB := Boxed.new (w2.alloc (.cells #[.int .i64 p] 3)) 32 (.slice none 0 0)
  have d1 := (Boxed.new ((w2.alloc (.cells #[.int .i64 p] 3)).alloc (.cells #[.slice none 0 0] 32)) 3 (.int .i64 y)).cell
  have d2 := (Boxed.new (((w2.alloc (.cells #[.int .i64 p] 3)).alloc (.cells #[.slice none 0 0] 32)).alloc (.cells #[.int .i64 y] 3)) 3 (.int .i64 v)).cell
  have d3 := (Boxed.new ((((w2.alloc (.cells #[.int .i64 p] 3)).alloc (.cells #[.slice none 0 0] 32)).alloc (.cells #[.int .i64 y] 3)).alloc (.cells #[.int .i64 v] 3)) 3 (.int .i64 k)).cell
  simp only [World.size_alloc, hAe] at dA dB d1 d2 d3
  obtain ⟨W1, hW1⟩ : ∃ W1, ((((w2.alloc (.cells #[.int .i64 p] 3)).alloc (.cells #[.slice none 0 0] 32)).alloc (.cells #[.int .i64 y] 3)).alloc (.cells #[.int .i64 v] 3)).alloc (.cells #[.int .i64 k] 3) = W1 := ⟨_, rfl⟩
  have f1 : W1.cell? ⟨A + 2, 0, none⟩ = some (.int .i64 y) := by rw [← hW1]; exact cell_alloc_l _ (cell_alloc_l _ d1)
  have f2 : W1.cell? ⟨A + 2 + 1, 0, none⟩ = some (.int .i64 v) := by rw [← hW1]; exact cell_alloc_l _ d2
  have f3 : W1.cell? ⟨A + 2 + 2, 0, none⟩ = some (.int .i64 k) := by rw [← hW1]; exact d3
  have bA1 : Boxed W1 A 3 (.int .i64 p) := by rw [← hW1]; exact (((dA.alloc _).alloc _).alloc _).alloc _
  have bB1 : Boxed W1 (A + 1) 32 (.slice none 0 0) := by rw [← hW1]; exact ((dB.alloc _).alloc _).alloc _
  have hsz : W1.heap.size = A + 5 := by rw [← hW1]; simp [hAe]
  have hbW1 : Below w.heap.size w W1 := by
    rw [← hW1]
    have h0 : w.heap.size ≤ w2.heap.size := by omega
    exact ((((hbw2.alloc h0 _).alloc (by simp; omega) _).alloc (by simp; omega) _).alloc (by simp; omega) _).alloc (by simp; omega) _
  rw [hAe, hW1]
  clear d1 d2 d3 dA dB hW1 hAe hbw2 hb1 hb2
  refine wpIn_rangeFunc_on (F := Fence.wide) rfl h15 (gf := 52) (lb := #[.pointer (some ⟨A + 1 + 1, 0, none⟩), .pointer (some ⟨A + 1 + 1 + 1 + 1, 0, none⟩), .pointer (some ⟨A + 1 + 1 + 1, 0, none⟩)]) rfl trivial (enters_of Try.func52 (by kernel_rfl) rfl)
    (behindPoint_on Fence.wide (5 - 1) trivial rfl (by omega) (A + 2) y v k hv hv' hk h1 W1 (by omega) f1 f2 f3) Kept.trans (kept_b (by omega)) (fun _ => rfl) p
    (fun pre W => ((∃ u, Boxed W (A + 1) 32 u ∧ W.ownsRow (A + 5) 3 1 u pre.length ((digsAt k v y pre).map (Value.int .i64)) ∧ True) ∧ Boxed W A 3 (.int .i64 p)) ∧ Below w.heap.size w W ∧ (A + 5 ≤ W.heap.size ∧ pre.length < p))
    (fun c pre W => ((∃ u, Boxed W (A + 1) 32 u ∧ W.ownsRow (A + 5) 3 1 u pre.length ((digsAt k v y pre).map (Value.int .i64)) ∧ True) ∧ Boxed W A 3 (.int .i64 p)) ∧ Below w.heap.size w W ∧ (c = .exit 0 ∧ pre.length = p))
    (OwnFrom.and (OwnFrom.and (Own.from (holdsRow_own (A + 5) (A + 1) 32 3 1 (fun pre : List Nat => pre.length) (fun pre => (digsAt k v y pre).map (Value.int .i64)) (fun _ _ => True)) _) (Own.from (boxed_own A 3 fun _ : List Nat => .int .i64 p) _)) (OwnFrom.and (ownFrom_below (Nat.le_refl _) (by omega)) (fun _ X Y row hs hg _ => ⟨Nat.le_trans hs.1 hg.size, hs.2⟩)))
    (fun c => OwnFrom.and (OwnFrom.and (Own.from (holdsRow_own (A + 5) (A + 1) 32 3 1 (fun pre : List Nat => pre.length) (fun pre => (digsAt k v y pre).map (Value.int .i64)) (fun _ _ => True)) _) (Own.from (boxed_own A 3 fun _ : List Nat => .int .i64 p) _)) (OwnFrom.and (ownFrom_below (Nat.le_refl _) (by omega)) (ownFrom_pure _ fun pre : List Nat => c = .exit 0 ∧ pre.length = p)))
    (fun pre W _ h => h.2.2.2) ⟨⟨⟨_, bB1, World.ownsRow_nil _ _ _ _, trivial⟩, bA1⟩, hbW1, by omega, hp1⟩
    (fun j => { tmps := #[.int .i64 y, .int .i64 v, .int .i64 k, undef, undef, undef, .slice none 0 0, .pointer (some ⟨A, 0, none⟩), .pointer (some ⟨A + 1, 0, none⟩), .int .i64 ((Pl.digitN k v y j : Nat) : Int), .int .i64 v, .int .i64 k, .bool true, .bool false, .bool false, .int .i64 y,
        .bool (decide ((y : Int) < 0)), .bool (decide ((y : Int) < 0)), .bool (decide ((y : Int) < 0)), .int .i64 y, .int .i64 v, .bool false, .bool (decide ((y : Int) < 0)), .int .i64 v, .int .i64 k, .int .i64 p, .int .i64 y, .int .i64 v, .int .i64 k,
        .func (.func 52) #[] #[.pointer (some ⟨A + 1 + 1, 0, none⟩), .pointer (some ⟨A + 1 + 1 + 1 + 1, 0, none⟩), .pointer (some ⟨A + 1 + 1 + 1, 0, none⟩)],
        .int .i64 ((Pl.digitN k v y j : Nat) : Int), .int .i64 ((Pl.restN k v y (j + 1) : Nat) : Int), undef, undef, undef, undef, undef, undef, undef, undef, undef], defers := [] }) ?assign ?body ?stop
  case assign =>
    intro l j W K hK
    unfold digRest
    gi_wp2
    exact hK
  case body =>
    rintro l pre j W hS ⟨⟨⟨u, hv1, hrow, _⟩, ha⟩, hbW, hbs, hlt⟩
    obtain ⟨rfl, _⟩ := hS.last
    have hc := hv1.cell
    have HSN := Lib.hid (digsAt_snoc k v y pre pre.length)
    have HA1 := Lib.hid ha
    have HLEN : Hid (∀ q, (pre ++ [q]).length = pre.length + 1) := Lib.hid fun q => by simp
    clear hS ha
    generalize Pl.restN k v y (pre.length + 1) = R at *
    generalize Pl.digitN k v y pre.length = D at *
    generalize digsAt k v y pre = X at *
    generalize pre.length = K at *
    by_cases hq : K + 1 = p
    · have ht : (((K + 1 : Nat) : Int) == (p : Int)) = true := by rw [hq]; simp
      have ht' : ((K : Int) + 1 == (p : Int)) = true := by simp; omega
      have HQ := Lib.hid hq
      clear hq
      gi_wp2_with (gi_at_builtin; refine wpListIn_append_own _ rfl _ _ 32 rfl (A + 5) 3 i0 (.int .i64 0) 1 8 Try.underlying32 hi0 hz0 hz1 hz2 rfl (by decide) _ _ _ rfl (hrow.alloc _) ⟨W.heap.size, 0, none⟩ 1 1 [.int .i64 (D : Int)] rfl rfl (cell_one_new _ _ _) (by simp [Value.oneCell']) (by unfold maxLen; omega) (by omega) (by simp; omega) ?_; intro v' w1 hown' hgrow _; obtain ⟨g', cap', rfl⟩ := ownsRow_succ hown'; obtain ⟨hv3, hv2, hr2, hk2, hb2, hp2⟩ := appended' hv1 (by decide) hrow (by omega) (by omega) hown' hgrow; have hc1 := hv3.cell; have hf1 := hv3.frozen; have hc2 := hv2.cell; have hA2 := Lib.hid (show Boxed _ A 3 (.int .i64 p) from (hb2.block A (by omega)).trans HA1.out); have ha2 := hA2.out.cell; have hs2 := hk2.size)
      exact ⟨hk2, ⟨⟨_, hv2, by rw [HLEN.out, HSN.out]; simpa using hr2, trivial⟩, hA2.out⟩, hbW.trans (hb2.mono (by omega)), rfl, by rw [HLEN.out]; exact HQ.out⟩
    · have ht : (((K + 1 : Nat) : Int) == (p : Int)) = false := by rw [beq_eq_false_iff_ne]; omega
      have ht' : ((K : Int) + 1 == (p : Int)) = false := by rw [beq_eq_false_iff_ne]; omega
      have hq' : K + 1 < p := by omega
      clear hq
      gi_wp2_with (gi_at_builtin; refine wpListIn_append_own _ rfl _ _ 32 rfl (A + 5) 3 i0 (.int .i64 0) 1 8 Try.underlying32 hi0 hz0 hz1 hz2 rfl (by decide) _ _ _ rfl (hrow.alloc _) ⟨W.heap.size, 0, none⟩ 1 1 [.int .i64 (D : Int)] rfl rfl (cell_one_new _ _ _) (by simp [Value.oneCell']) (by unfold maxLen; omega) (by omega) (by simp; omega) ?_; intro v' w1 hown' hgrow _; obtain ⟨g', cap', rfl⟩ := ownsRow_succ hown'; obtain ⟨hv3, hv2, hr2, hk2, hb2, hp2⟩ := appended' hv1 (by decide) hrow (by omega) (by omega) hown' hgrow; have hc1 := hv3.cell; have hf1 := hv3.frozen; have hc2 := hv2.cell; have hA2 := Lib.hid (show Boxed _ A 3 (.int .i64 p) from (hb2.block A (by omega)).trans HA1.out); have ha2 := hA2.out.cell; have hs2 := hk2.size)
      exact ⟨hk2, hp2, ⟨⟨_, hv2, by rw [HLEN.out, HSN.out]; simpa using hr2, trivial⟩, hA2.out⟩, hbW.trans (hb2.mono (by omega)), by omega, by rw [HLEN.out]; exact hq'⟩
  case stop =>
    rintro D c pre W hD hSp ⟨⟨⟨u, hv1, hrow, _⟩, _⟩, hbW, rfl, hlen⟩ hK
    have hc := hv1.cell
    have hL : digsAt k v y pre = L := by
      have e : pre = List.range p := by unfold Upto at hSp; rw [hlen] at hSp; exact hSp
      rw [e, HA.out]
    rw [hL] at hrow
    have hLl : pre.length = L.length := by rw [← hL, digsAt_len]
    rw [hLl] at hrow
    have hr0 : Row (A + 5) W u L := hrow
    have hr : Row w.heap.size W u L := hr0.mono (by omega)
    obtain ⟨a', cap', rfl⟩ := hr.shape
    clear hrow hv1 hr0
    gi_wp2
    refine ⟨by simp, .inl ⟨_, _, rfl, run_takeDeferred hK, ?_⟩⟩
    exact ⟨_, results_tmp rfl _ _ _, .slice a' L.length cap', rfl, ownsRow_putObj hr _ hK rfl, hbW.trans (belowK_b (w := w) (Nat.le_refl _) W D _ _ (by omega) hK rfl rfl)⟩

set_option maxHeartbeats 400000 in
theorem implRoundOf8 (x u b : Int) (w : World) :
    Calls Try.prog 24 #[.int .i64 x, .int .i64 u, .int .i64 b] w (ListPost w (Pl.roundA x u b)) := by
  by_cases h : Pl.overB x u b = true
  · obtain ⟨y, v, k, rfl, rfl, rfl, _⟩ := Pl.overB_nat h
    exact roundYes y v k h w
  · rw [Pl.roundA_no h]
    have HU := Lib.hid (implUnderOk u b)
    by_cases hu : Pl.underB u b = true
    · rw [hu] at HU
      by_cases h0 : x < 0
      · clear h hu
        go_enter Try.func24, Try.ntmps24
        go_wp2_with (go_at_call 16; refine (HU.out _).mono ?_; rintro e w1 ⟨rfl, hb⟩)
        go_ret
        exact ⟨_, rfl, World.ownsRow_nil _ _ _ _, hb⟩
      · have h1 : u ≤ x := by
          refine Classical.byContradiction fun hh => h ?_
          rw [Pl.overB, hu]; simp; omega
        clear h hu
        go_enter Try.func24, Try.ntmps24
        go_wp2_with (go_at_call 16; refine (HU.out _).mono ?_; rintro e w1 ⟨rfl, hb⟩)
        go_ret
        exact ⟨_, rfl, World.ownsRow_nil _ _ _ _, hb⟩
    · rw [Bool.eq_false_iff.2 hu] at HU
      clear h hu
      go_enter Try.func24, Try.ntmps24
      go_wp2_with (go_at_call 16; refine (HU.out _).mono ?_; rintro e w1 ⟨rfl, hb⟩)
      go_ret
      exact ⟨_, rfl, World.ownsRow_nil _ _ _ _, hb⟩

theorem implRoundI (x u b : Int) (w : World) :
    Calls Try.prog 24 #[.int .i64 x, .int .i64 u, .int .i64 b] w fun e w' => ∃ v, e = .returned v ∧ Ints w' v (Pl.roundA x u b) ∧ Below w.heap.size w w' :=
  (implRoundOf8 x u b w).mono fun _ _ ⟨v, h1, h2, h3⟩ => ⟨v, h1, h2.ints, h3⟩

end Go.Proofs.Ytnogcoijlnnbdaa
