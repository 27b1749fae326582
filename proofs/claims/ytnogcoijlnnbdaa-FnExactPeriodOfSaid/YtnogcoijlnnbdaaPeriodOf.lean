/-
  impl.PeriodOf: what it answers.
-/
import Derived.BigRegionIn
import Derived.Test.YtnogcoijlnnbdaaBehindPoint
import Derived.Test.YtnogcoijlnnbdaaUnder
namespace Go.Proofs.Ytnogcoijlnnbdaa
open Go.RowKit Go.Shelf

attribute [local go_sem] Oper.semAt_some

/-- Two boxes laid one behind the other. -/
theorem two_boxes {w w1 : World} (hb : Below w.heap.size w w1) (x y : Value) (t : TypeId) :
    ∃ W0, ((w1.alloc (.cells #[x] t)).alloc (.cells #[y] t)).drew = W0 ∧ Boxed W0 w1.heap.size t x ∧ Boxed W0 (w1.heap.size + 1) t y ∧ Below w.heap.size w W0 ∧ W0.heap.size = w1.heap.size + 2 := by
  have hs := hb.size
  refine ⟨_, rfl, (Boxed.new w1 t x).alloc _, ?_, ((hb.alloc hs _).alloc (by simp; omega) _).drew, by simp⟩
  have := Boxed.new (w1.alloc (.cells #[x] t)) t y
  rw [World.size_alloc] at this
  exact this

set_option maxRecDepth 100000 in
set_option maxHeartbeats 4000000 in
theorem periodYes (v k : Nat) (hu : Pl.underB v k = true) (hv : 1 ≤ v) (hv' : v ≤ 200) (_hk2 : 2 ≤ k) (hk : k ≤ 16) (hcop : Nat.Coprime v k) (w : World) :
    Calls Try.prog 21 #[.int .i64 v, .int .i64 k] w fun e W' => e = .returned (.int .i64 ((Pl.periodN k v : Nat) : Int)) ∧ Below w.heap.size w W' := by
  refine (callsIn_wide (n := 5)).1 ?_
  have h1 : 1 ≤ 5 := by omega
  obtain ⟨hper, hle, _⟩ := Pl.periodN_per (b := k) (u := v) hv hcop
  generalize Pl.periodN k v = p at *
  have HU := Lib.hid (implUnderOk v k)
  rw [hu] at HU
  have hv0 : ((v : Int) == 0) = false := by rw [beq_eq_false_iff_ne]; omega
  have hv0' : ¬ v = 0 := by omega
  have e1 : (1 : Int).tmod (v : Int) = ((1 % v : Nat) : Int) := rfl
  have e1' : (1 : Int) % (v : Int) = ((1 % v : Nat) : Int) := rfl
  have hone : 1 % v < v := Nat.mod_lt _ (by omega)
  have HREST : Hid (∀ K, Pl.restN k v (1 % v) K = k ^ K % v) := Lib.hid fun K => by
    unfold Pl.restN; rw [Nat.mul_mod]; simp
  have HPER := Lib.hid hper
  clear hper hu hcop
  generalize hONE : 1 % v = ONE at *
  have HONE := Lib.hid hONE
  clear hONE
  refine callsIn_of_wp_marks Try.func21 rfl trivial ?_ rfl
  simp only [Try.ntmps21, List.size_toArray, List.length_cons, List.length_nil, Nat.reduceAdd, Nat.reduceSub, Array.replicate_succ, Array.replicate_zero, List.push_toArray, List.append_toArray, List.nil_append, List.cons_append]
  gi_wp2_with (first | (refine ⟨trivial, ?_⟩; gi_at_call 16; refine (callsIn_wide.2 (HU.out _)).mono ?_; rintro e w1 ⟨rfl, hb1⟩))
  gi_region
  obtain ⟨W0, hW0, bA, bB, hb0, hs0⟩ := two_boxes hb1 (.int .i64 0) (.int .i64 ONE) 3
  rw [hW0]
  obtain ⟨A, B, hA, hB, hs1⟩ : ∃ A B, w1.heap.size = A ∧ w1.heap.size + 1 = B ∧ w.heap.size ≤ w1.heap.size := ⟨_, _, rfl, rfl, hb1.size⟩
  rw [hB] at bB ⊢
  rw [hA] at bA ⊢
  have hAB : A ≠ B ∧ w.heap.size ≤ A ∧ w.heap.size ≤ B ∧ A < W0.heap.size ∧ B < W0.heap.size := by omega
  clear hA hB hs0 hs1 hW0 hb1
  clear w1
  revert hAB; revert bB; revert bA; revert hb0; revert B; revert A; revert W0
  rotate_left
  obtain ⟨W0, hW0, bB, bA, hb0, hs0⟩ := two_boxes hb1 (.int .i64 ONE) (.int .i64 0) 3
  rw [hW0]
  obtain ⟨B, A, hB, hA, hs1⟩ : ∃ A B, w1.heap.size = A ∧ w1.heap.size + 1 = B ∧ w.heap.size ≤ w1.heap.size := ⟨_, _, rfl, rfl, hb1.size⟩
  rw [hA] at bA ⊢
  rw [hB] at bB ⊢
  have hAB : A ≠ B ∧ w.heap.size ≤ A ∧ w.heap.size ≤ B ∧ A < W0.heap.size ∧ B < W0.heap.size := by omega
  clear hA hB hs0 hs1 hW0 hb1
  clear w1
  revert hAB; revert bB; revert bA; revert hb0; revert B; revert A; revert W0
  rotate_left
  all_goals
    intro W0 A B hb0 bA bB hAB
    have cB := bB.cell
    gi_wp2_with (first | (refine ⟨trivial, ?_⟩; gi_at_call 46; refine (behindPoint0 Fence.wide (5 - 1) trivial rfl _ _ _ _).mono ?_; rintro e w' ⟨rfl, rfl⟩))
    obtain ⟨n0, hn0⟩ : ∃ n0, W0.heap.size = n0 := ⟨_, rfl⟩
    have d1 := (Boxed.new W0 3 (.int .i64 ONE)).cell
    have d2 := (Boxed.new (W0.alloc (.cells #[.int .i64 ONE] 3)) 3 (.int .i64 v)).cell
    have d3 := (Boxed.new ((W0.alloc (.cells #[.int .i64 ONE] 3)).alloc (.cells #[.int .i64 v] 3)) 3 (.int .i64 k)).cell
    simp only [World.size_alloc] at d2 d3
    obtain ⟨W1, hW1⟩ : ∃ W1, ((W0.alloc (.cells #[.int .i64 ONE] 3)).alloc (.cells #[.int .i64 v] 3)).alloc (.cells #[.int .i64 k] 3) = W1 := ⟨_, rfl⟩
    have f1 : W1.cell? ⟨n0, 0, none⟩ = some (.int .i64 ONE) := by rw [← hW1, ← hn0]; exact cell_alloc_l _ (cell_alloc_l _ d1)
    have f2 : W1.cell? ⟨n0 + 1, 0, none⟩ = some (.int .i64 v) := by rw [← hW1, ← hn0]; exact cell_alloc_l _ d2
    have f3 : W1.cell? ⟨n0 + 2, 0, none⟩ = some (.int .i64 k) := by rw [← hW1, ← hn0]; exact d3
    have bA1 : Boxed W1 A 3 (.int .i64 0) := by rw [← hW1]; exact ((bA.alloc _).alloc _).alloc _
    have bB1 : Boxed W1 B 3 (.int .i64 ONE) := by rw [← hW1]; exact ((bB.alloc _).alloc _).alloc _
    have hsz : W1.heap.size = n0 + 3 := by rw [← hW1, ← hn0]; simp
    have hb1 : Below w.heap.size w W1 := by
      have h0 := hb0.size
      rw [← hW1]; exact ((hb0.alloc h0 _).alloc (by simp; omega) _).alloc (by simp; omega) _
    rw [hn0, hW1]
    rw [hn0] at hAB
    clear d1 d2 d3 hW1 hn0 bA bB cB hb0
    refine wpIn_rangeFunc_on (F := Fence.wide) rfl h1 (gf := 52) (lb := #[.pointer (some ⟨n0, 0, none⟩), .pointer (some ⟨n0 + 1 + 1, 0, none⟩), .pointer (some ⟨n0 + 1, 0, none⟩)]) rfl trivial (enters_of Try.func52 (by kernel_rfl) rfl)
      (behindPoint_on Fence.wide (5 - 1) trivial rfl (by omega) n0 ONE v k hv hv' hk hone W1 (by omega) f1 f2 f3) Kept.trans (kept_b (by omega)) (fun _ => rfl) p
      (fun pre W => (Boxed W A 3 (.int .i64 ((pre.length : Nat) : Int)) ∧ Boxed W B 3 (.int .i64 ONE)) ∧ Below w.heap.size w W ∧ pre.length < p)
      (fun c pre W => (Boxed W A 3 (.int .i64 ((pre.length : Nat) : Int)) ∧ Boxed W B 3 (.int .i64 ONE)) ∧ Below w.heap.size w W ∧ (c = .exit 0 ∧ pre.length = p))
      (OwnFrom.and (OwnFrom.and (Own.from (boxed_own A 3 fun pre : List Nat => .int .i64 ((pre.length : Nat) : Int)) _) (Own.from (boxed_own B 3 fun _ => .int .i64 ONE) _)) (OwnFrom.and (ownFrom_below (Nat.le_refl _) (by omega)) (ownFrom_pure _ fun pre : List Nat => pre.length < p)))
      (fun c => OwnFrom.and (OwnFrom.and (Own.from (boxed_own A 3 fun pre : List Nat => .int .i64 ((pre.length : Nat) : Int)) _) (Own.from (boxed_own B 3 fun _ => .int .i64 ONE) _)) (OwnFrom.and (ownFrom_below (Nat.le_refl _) (by omega)) (ownFrom_pure _ fun pre : List Nat => c = .exit 0 ∧ pre.length = p)))
      (fun pre W _ h => h.2.2) ⟨⟨bA1, bB1⟩, hb1, HPER.out.pos⟩
      (fun j => { tmps := #[.int .i64 v, .int .i64 k, undef, undef, .int .i64 0, .pointer (some ⟨A, 0, none⟩), .pointer (some ⟨B, 0, none⟩), undef, .int .i64 ((Pl.restN k v ONE (j + 1) : Nat) : Int), .int .i64 v, .int .i64 k, .bool true, .bool false, .int .i64 v, .int .i64 ONE,
        .int .i64 ONE, .int .i64 v, .int .i64 k, .func (.func 52) #[] #[.pointer (some ⟨n0, 0, none⟩), .pointer (some ⟨n0 + 1 + 1, 0, none⟩), .pointer (some ⟨n0 + 1, 0, none⟩)],
        .int .i64 ((Pl.digitN k v ONE j : Nat) : Int), .int .i64 ((Pl.restN k v ONE (j + 1) : Nat) : Int), undef, undef, undef, undef, undef, undef], defers := [] }) ?assign ?body ?stop
    case assign =>
      intro l j W K hK
      unfold digRest
      gi_wp2
      exact hK
    case body =>
      rintro l pre j W hS ⟨⟨a1, a2⟩, hbW, hlt⟩
      obtain ⟨rfl, _⟩ := hS.last
      have ca := a1.cell
      have fa := a1.frozen
      have cb := a2.cell
      have HR := HREST.out (pre.length + 1)
      have hBA : B ≠ A := fun h => hAB.1 h.symm
      have cb2 := fun u => (a2.other hBA u).cell
      have HLEN : Hid (∀ q, (pre ++ [q]).length = pre.length + 1) := Lib.hid fun q => by simp
      have HBA := Lib.hid a1
      have HBB := Lib.hid a2
      clear a1 a2 hS
      rw [HR]
      clear HR
      by_cases hq : k ^ (pre.length + 1) % v = ONE
      · have hp : pre.length + 1 = p := by
          refine Classical.byContradiction fun hne => HPER.out.least (pre.length + 1) (by omega) (by omega) ?_
          rw [hq]; exact HONE.out.symm
        have ht : (((k ^ (pre.length + 1) % v : Nat) : Int) == (ONE : Int)) = true := by rw [hq]; simp
        have HP := Lib.hid hp
        clear hq hp
        generalize k ^ (pre.length + 1) % v = R at *
        generalize pre.length = K at *
        gi_wp2
        exact ⟨KeepsOthers.setCell _ _ _, ⟨by rw [HLEN.out]; exact HBA.out.set _, HBB.out.other hBA _⟩, hbW.setCell (p := ⟨A, 0, none⟩) (by simp; omega) _, rfl, by rw [HLEN.out]; exact HP.out⟩
      · have hp : pre.length + 1 < p := by
          refine Classical.byContradiction fun hne => hq ?_
          rw [show pre.length + 1 = p by omega, HPER.out.back, HONE.out]
        have ht : (((k ^ (pre.length + 1) % v : Nat) : Int) == (ONE : Int)) = false := by
          rw [beq_eq_false_iff_ne]; exact fun h => hq (by exact_mod_cast h)
        have HP := Lib.hid hp
        clear hq
        generalize k ^ (pre.length + 1) % v = R at *
        generalize pre.length = K at *
        gi_wp2
        exact ⟨KeepsOthers.setCell _ _ _, (Kept.refl W).setCell (p := ⟨A, 0, none⟩) (.inl (by simp; omega)) _, ⟨by rw [HLEN.out]; exact HBA.out.set _, HBB.out.other hBA _⟩, hbW.setCell (p := ⟨A, 0, none⟩) (by simp; omega) _, by rw [HLEN.out]; exact HP.out⟩
    case stop =>
      rintro D c pre W hD hSp ⟨⟨a1, a2⟩, hbW, rfl, hlen⟩ hK
      have ca := a1.cell
      gi_wp2
      refine ⟨by simp, .inl ⟨_, _, rfl, run_takeDeferred hK, ?_⟩⟩
      exact ⟨_, results_tmp rfl _ _ _, rfl, hbW.trans (belowK_b (w := w) (Nat.le_refl _) W D _ _ (by omega) hK rfl rfl)⟩

set_option maxHeartbeats 400000 in
theorem implPeriodOf (u b : Int) (w : World) :
    Calls Try.prog 21 #[.int .i64 u, .int .i64 b] w fun e w' => e = .returned (.int .i64 (Pl.periodI u b)) ∧ Below w.heap.size w w' := by
  by_cases h : Pl.underB u b = true
  · obtain ⟨v, k, rfl, rfl, h1, h2, h3, h4, h5⟩ := Pl.underB_nat h
    rw [Pl.periodI_yes h]
    exact periodYes v k h h1 h2 h3 h4 h5 w
  · rw [Pl.periodI_no h]
    have HU := Lib.hid (implUnderOk u b)
    rw [Bool.eq_false_iff.2 h] at HU
    clear h
    go_enter Try.func21, Try.ntmps21
    go_wp2_with (go_at_call 16; refine (HU.out _).mono ?_; rintro e w1 ⟨rfl, hb⟩)
    go_ret
    exact ⟨rfl, hb⟩

end Go.Proofs.Ytnogcoijlnnbdaa
