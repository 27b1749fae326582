/-
  impl.TurnsOf, spec.TurnsOf: digits by turns added and taken away.
-/
import Derived.Test.YtggeemkjgpjahaaSumOf
import Derived.Test.YtggeemkjgpjahaaMathTurns
namespace Go.Proofs.Ytggeemkjgpjahaa
open Go.RowKit Go.Shelf

attribute [local go_sem] Oper.semAt_some

namespace Pl
/-- The sum by turns of what has come, the first one added; and the sign of the next one. -/
def stepT (p : Int × Int) (d : Nat) : Int × Int := (p.1 + p.2 * (d : Int), -p.2)
def turnT (l : List Nat) : Int × Int := l.foldl stepT (0, 1)
theorem turnT_snoc (l : List Nat) (d : Nat) : turnT (l ++ [d]) = ((turnT l).1 + (turnT l).2 * (d : Int), -(turnT l).2) := by simp [turnT, stepT]
theorem turnT_sign (l : List Nat) : (turnT l).2 = 1 ∨ (turnT l).2 = -1 := by
  suffices H : ∀ (l : List Nat) (p : Int × Int), (p.2 = 1 ∨ p.2 = -1) → (l.foldl stepT p).2 = 1 ∨ (l.foldl stepT p).2 = -1 from H l _ (.inl rfl)
  intro l
  induction l with
  | nil => intro p h; exact h
  | cons a l ih =>
    intro p h
    rw [List.foldl_cons]
    refine ih _ ?_
    simp only [stepT]; omega
theorem foldT (b n : Nat) (hb : 2 ≤ b) : ∀ p : Int × Int, ((digsR b n).foldl stepT p).1 = p.1 + p.2 * altD b n := by
  refine digInd hb (P := fun n => ∀ p : Int × Int, ((digsR b n).foldl stepT p).1 = p.1 + p.2 * altD b n) ?_ ?_ n
  · intro n h p; rw [digsR_lt h, altD_lt h]; rfl
  · intro n h ih p
    rw [digsR_ge hb h, altD_ge hb h, List.foldl_cons, ih]
    simp only [stepT]
    rw [Int.mul_sub, Int.neg_mul]; omega
theorem turnT_alt (b n : Nat) (hb : 2 ≤ b) : (turnT (digsR b n)).1 = altD b n := by rw [turnT, foldT b n hb]; simp

def turnF (l : List Dg) : Int × Int := turnT (l.map (·.1))
theorem turnF_snoc (l : List Dg) (d : Dg) : turnF (l ++ [d]) = ((turnF l).1 + (turnF l).2 * (d.1 : Int), -(turnF l).2) := by simp [turnF, turnT_snoc]
theorem turnF_sign (l : List Dg) : (turnF l).2 = 1 ∨ (turnF l).2 = -1 := turnT_sign _
theorem turnF_le (l : List Dg) : -(16 * (l.length : Int)) ≤ (turnF l).1 ∧ (turnF l).1 ≤ 16 * (l.length : Int) := by
  suffices H : ∀ (l : List Dg) (p : Int × Int), (p.2 = 1 ∨ p.2 = -1) → p.1 - 16 * (l.length : Int) ≤ ((l.map (·.1)).foldl stepT p).1 ∧ ((l.map (·.1)).foldl stepT p).1 ≤ p.1 + 16 * (l.length : Int) by
    have := H l (0, 1) (.inl rfl)
    simpa [turnF, turnT] using this
  intro l
  induction l with
  | nil => intro p h; simp
  | cons a l ih =>
    intro p h
    have ha := a.2
    have := ih (stepT p a.1) (by simp only [stepT]; omega)
    simp only [List.map_cons, List.foldl_cons, List.length_cons]
    have h2 : p.1 - 16 ≤ (stepT p a.1).1 ∧ (stepT p a.1).1 ≤ p.1 + 16 := by
      simp only [stepT]
      rcases h with h | h <;> rw [h] <;> omega
    omega
theorem turnF_alt (b n : Nat) (hb : 2 ≤ b) (hb' : b ≤ 16) : (turnF (digsF b n)).1 = altD b n := by rw [turnF, digsF_val hb hb', turnT_alt b n hb]

def turnsI (n b : Int) : Int := if okB n b = true then altD b.toNat n.toNat else 0
theorem turnsI_yes (n b : Nat) (h : okB n b = true) : turnsI n b = altD b n := by rw [turnsI, if_pos h]; rfl
theorem turnsI_no {n b : Int} (h : ¬ okB n b = true) : turnsI n b = 0 := by rw [turnsI, if_neg h]
end Pl

theorem ret_two {b : Bool} {x y : Int} (h : x = y) : Ending.returned (.tuple #[.int .i64 x, .bool b]) = .returned (.tuple #[.int .i64 y, .bool b]) := by rw [h]

set_option maxRecDepth 100000 in
set_option maxHeartbeats 2000000 in
theorem turnsOfYes (x b : Nat) (hb : 2 ≤ b) (hb' : b ≤ 16) (hx : x ≤ 1000000000) (w : World) :
    Calls Try.prog 21 #[.int .i64 x, .int .i64 b] w fun e W' => e = .returned (.tuple #[.int .i64 (Pl.altD b x), .bool true]) ∧ Below w.heap.size w W' := by
  refine (callsIn_wide (n := 5)).1 ?_
  have h1 : 1 ≤ 5 := by omega
  have hok : Pl.okB x b = true := by rw [Pl.okB_iff]; omega
  have hN := Pl.digsR_len30 hb hx
  refine callsIn_of_wp_marks Try.func21 rfl trivial ?_ rfl
  simp only [Try.ntmps21, List.size_toArray, List.length_cons, List.length_nil, Nat.reduceAdd, Nat.reduceSub, Array.replicate_succ, Array.replicate_zero, List.push_toArray, List.append_toArray, List.nil_append, List.cons_append]
  gi_wp2_with (first | (refine ⟨trivial, ?_⟩; gi_at_call 29; refine (callsIn_wide.2 (hasDigits _ _ _)).mono ?_; rintro e w' ⟨rfl, rfl⟩) | (refine ⟨trivial, ?_⟩; gi_at_call 36; refine (lastFirst Fence.wide (5 - 1) trivial rfl _ _ _).mono ?_; rintro e w' ⟨rfl, rfl⟩))
  have hs := cell_new_l w (.int .i64 0) 3
  have ht := cell_new_l (w.alloc (.cells #[.int .i64 0] 3)) (.int .i64 1) 3
  have c1 := cell_new_l ((w.alloc (.cells #[.int .i64 0] 3)).alloc (.cells #[.int .i64 1] 3)) (.int .i64 x) 3
  have c2 := cell_new_l (((w.alloc (.cells #[.int .i64 0] 3)).alloc (.cells #[.int .i64 1] 3)).alloc (.cells #[.int .i64 x] 3)) (.int .i64 b) 3
  simp only [World.size_alloc] at ht c1 c2
  have hB0 : Below w.heap.size w ((((w.alloc (.cells #[.int .i64 0] 3)).alloc (.cells #[.int .i64 1] 3)).alloc (.cells #[.int .i64 x] 3)).alloc (.cells #[.int .i64 b] 3)) := ((((Below.refl _ w).alloc (Nat.le_refl _) _).alloc (by simp) _).alloc (by simp; omega) _).alloc (by simp; omega) _
  refine wpIn_rangeFunc_ownF (F := Fence.wide) rfl h1 (gf := 42) (lb := #[.pointer (some ⟨w.heap.size + 1 + 1, 0, none⟩), .pointer (some ⟨w.heap.size + 1 + 1 + 1, 0, none⟩)]) rfl trivial (enters_of Try.func42 (by kernel_rfl) rfl)
    (lastFirst_stops Fence.wide (5 - 1) trivial rfl (by omega) (w.heap.size + 1 + 1) x b hb hb' hx _ (by simp) (cell_alloc_l _ c1.1) c2.1) Kept.trans (kept_b (by simp)) (Below.refl _ _) (fun _ => rfl)
    (fun pre W => ((W.cell? ⟨w.heap.size, 0, none⟩ = some (.int .i64 (Pl.turnF pre).1) ∧ W.frozen? ⟨w.heap.size, 0, none⟩ = false) ∧ (W.cell? ⟨w.heap.size + 1, 0, none⟩ = some (.int .i64 (Pl.turnF pre).2) ∧ W.frozen? ⟨w.heap.size + 1, 0, none⟩ = false)) ∧ Below w.heap.size w W)
    (fun _ _ _ => False)
    (OwnFrom.and (Own.from (fun s A B row hs hg hr => ⟨⟨cell_kept hs.1.1 hg hr, (frozen_kept hs.1.1 hg hr).trans hs.1.2⟩, cell_kept hs.2.1 hg hr, (frozen_kept hs.2.1 hg hr).trans hs.2.2⟩) _) (ownFrom_below (Nat.le_refl _) (by simp; omega)))
    (fun _ _ _ _ _ hs _ _ => hs)
    ⟨⟨⟨cell_alloc_l _ (cell_alloc_l _ (cell_alloc_l _ hs.1)), frozen_alloc_l _ (cell_alloc_l _ (cell_alloc_l _ hs.1)) (frozen_alloc_l _ (cell_alloc_l _ hs.1) (frozen_alloc_l _ hs.1 hs.2))⟩,
      ⟨cell_alloc_l _ (cell_alloc_l _ ht.1), frozen_alloc_l _ (cell_alloc_l _ ht.1) (frozen_alloc_l _ ht.1 ht.2)⟩⟩, hB0⟩
    (fun d => { tmps := #[.int .i64 x, .int .i64 b, undef, undef, .int .i64 0, .bool false, .pointer (some ⟨w.heap.size, 0, none⟩), .pointer (some ⟨w.heap.size + 1, 0, none⟩), .int .i64 (d.1 : Int), .int .i64 x, .int .i64 b, .bool true, .bool false, .int .i64 x, .int .i64 b,
      .func (.func 42) #[] #[.pointer (some ⟨w.heap.size + 1 + 1, 0, none⟩), .pointer (some ⟨w.heap.size + 1 + 1 + 1, 0, none⟩)], .int .i64 (d.1 : Int), undef, undef, undef, undef, undef, undef, undef, undef], defers := [] }) ?assign ?body ?done ?stop
  case assign =>
    intro l d W K hK
    gi_wp2
    exact hK
  case body =>
    rintro l pre d W ⟨⟨⟨hc, hf⟩, hc', hf'⟩, hB⟩ hlen
    have hd := d.2
    have hsum := Pl.turnF_le pre
    have hsn := Pl.turnF_snoc pre d
    have hsg := Pl.turnF_sign pre
    rcases hsg with h | h
    all_goals
      rw [h] at hc' hsn
      generalize (Pl.turnF pre).1 = T at *
      have hsn1 : (Pl.turnF (pre ++ [d])).1 = _ := congrArg Prod.fst hsn
      have hsn2 : (Pl.turnF (pre ++ [d])).2 = _ := congrArg Prod.snd hsn
      clear hsn h
      gi_wp2
      refine ⟨(KeepsOthers.setCell _ _ _).trans (KeepsOthers.setCell _ _ _), ((Kept.refl W).setCell (p := ⟨w.heap.size, 0, none⟩) (.inl (by simp; omega)) _).setCell (p := ⟨w.heap.size + 1, 0, none⟩) (.inl (by simp)) _, ?_⟩
      refine ⟨⟨⟨?_, ?_⟩, ?_, ?_⟩, (hB.setCell (p := ⟨w.heap.size, 0, none⟩) (Nat.le_refl _) _).setCell (p := ⟨w.heap.size + 1, 0, none⟩) (by simp) _⟩
      · rw [World.cell?_setCell_other]
        · rw [World.cell?_setCell_same' _ _ _ (by rw [hc]; rfl)]
          rw [hsn1]
          simp
        · simp
      · rw [World.frozen?_setCell, World.frozen?_setCell]; exact hf
      · rw [World.cell?_setCell_same']
        · rw [hsn2] <;> rfl
        · rw [World.cell?_setCell_other, hc']
          · rfl
          · simp
      · rw [World.frozen?_setCell, World.frozen?_setCell]; exact hf'
  case done =>
    rintro D ys W hD rfl ⟨⟨⟨hc, _⟩, _⟩, hB⟩ hK
    rw [Pl.turnF_alt b x hb hb'] at hc
    gi_wp2
    refine ⟨by simp, .inl ⟨_, _, rfl, run_takeDeferred hK, ?_⟩⟩
    exact ⟨_, results_tmp2 rfl _ _ _, rfl, hB.trans (belowK_b (w := w) (Nat.le_refl _) W D _ _ (by simp at hD; omega) hK rfl rfl)⟩
  case stop =>
    rintro D c pre W _ _ h _
    exact h.elim

set_option maxHeartbeats 400000 in
theorem implTurnsOf (n b : Int) (w : World) :
    Calls Try.prog 21 #[.int .i64 n, .int .i64 b] w fun e W' => e = .returned (.tuple #[.int .i64 (Pl.turnsI n b), .bool (Pl.okB n b)]) ∧ Below w.heap.size w W' := by
  by_cases h : Pl.okB n b = true
  · obtain ⟨x, k, rfl, rfl, h1, h2, h3⟩ := Pl.okB_nat h
    rw [Pl.turnsI_yes x k h, h]
    exact turnsOfYes x k h1 h2 h3 w
  · rw [Pl.turnsI_no h, Bool.eq_false_iff.2 h]
    go_enter Try.func21, Try.ntmps21
    go_wp2_with (go_at_call 29; refine (hasDigits _ _ _).mono ?_; rintro e w' ⟨rfl, rfl⟩)
    all_goals
      go_ret2
      exact ⟨rfl, Below.refl _ _⟩

set_option maxHeartbeats 1000000 in
theorem specTurnsYes (x b : Nat) (hb : 2 ≤ b) (hb' : b ≤ 16) (hx : x ≤ 1000000000) (w : World) :
    Calls Try.prog 22 #[.int .i64 x, .int .i64 b] w fun e w' => e = .returned (.tuple #[.int .i64 (Pl.altD b x), .bool true]) ∧ w = w' := by
  have hB : Pl.baseB b = true := by rw [Pl.baseB_iff]; omega
  have hne : ((b : Int) == 0) = false := by simp; omega
  have hle := Pl.sumD_le hb x
  go_enter Try.func22, Try.ntmps22
  go_wp2_with (first | (go_at_call 31; refine (specIn _ _ _ _).mono ?_; rintro e w' ⟨rfl, rfl⟩) | (go_at_call 26; refine (specBaseOk _ _).mono ?_; rintro e w' ⟨rfl, rfl⟩))
  go_loop [6, 7, 8] (fun s g l => ∃ (t sg : Int) (left : Nat), (sg = 1 ∨ sg = -1) ∧ t + sg * Pl.altD b left = Pl.altD b x ∧ (-(Pl.sumD b x : Int) + Pl.sumD b left ≤ t ∧ t + Pl.sumD b left ≤ Pl.sumD b x) ∧ left ≤ x ∧ s = .int .i64 t ∧ g = .int .i64 sg ∧ l = .int .i64 left) (fun _ _ l => (intOf l).toNat)
  case atStart => exact ⟨0, 1, x, .inl rfl, by omega, by omega, by omega, rfl, rfl, rfl⟩
  case round =>
    obtain ⟨t, sg, left, hsg, ht, hbd, hl, rfl, rfl, rfl⟩ := hrel
    have hst := Pl.sumD_step hb left
    have hal := Pl.altD_step hb left
    have h0 : 0 ≤ (left : Int) / (b : Int) := Int.ediv_nonneg (by omega) (by omega)
    have h0' : 0 ≤ (left : Int) % (b : Int) := Int.emod_nonneg _ (by omega)
    have hm : left % b + Pl.sumD b (left / b) = Pl.sumD b left := hst.symm
    have hm1 : (left : Int) % (b : Int) ≤ 16 := by
      have := Nat.mod_lt left (show 0 < b by omega)
      show ((left % b : Nat) : Int) ≤ 16
      omega
    have hmc : ((left % b : Nat) : Int) = (left : Int) % (b : Int) := rfl
    have hm' : -1000000000 ≤ t - (left : Int) % (b : Int) ∧ t + (left : Int) % (b : Int) ≤ 1000000000 := by omega
    have ht0 : -1000000000 ≤ t ∧ t ≤ 1000000000 := by omega
    by_cases hlt : 0 < left
    · have h1 : (left : Int) / (b : Int) < (left : Int) := show ((left / b : Nat) : Int) < (left : Int) from Int.ofNat_lt.2 (Nat.div_lt_self (by omega) (by omega))
      have HT := Lib.hid ht
      have HM := Lib.hid hm
      have HA := Lib.hid hal
      have HB := Lib.hid hbd
      clear ht hm hst hal hmc hbd
      rcases hsg with rfl | rfl
      · go_wp2
        go_round
        case rel =>
          refine ⟨t + (left : Int) % (b : Int), -1, left / b, .inr rfl, ?_, ?_, Nat.le_trans (Nat.div_le_self _ _) hl, ?_, rfl, rfl⟩
          · rw [← HT.out, HA.out, Int.natCast_emod]; omega
          · have := HM.out; have := HB.out; have e : ((left % b : Nat) : Int) = (left : Int) % (b : Int) := rfl; omega
          · simp
        case measure =>
          have := Nat.div_lt_self (n := left) (k := b) (by omega) (by omega)
          simp [intOf]; omega
      · go_wp2
        go_round
        case rel =>
          refine ⟨t - (left : Int) % (b : Int), 1, left / b, .inl rfl, ?_, ?_, Nat.le_trans (Nat.div_le_self _ _) hl, ?_, rfl, rfl⟩
          · rw [← HT.out, HA.out, Int.natCast_emod]; omega
          · have := HM.out; have := HB.out; have e : ((left % b : Nat) : Int) = (left : Int) % (b : Int) := rfl; omega
          · simp; try omega
        case measure =>
          have := Nat.div_lt_self (n := left) (k := b) (by omega) (by omega)
          simp [intOf]; omega
    · obtain rfl : left = 0 := by omega
      have e0 : Pl.altD b 0 = 0 := Pl.altD_lt (by omega)
      rw [e0] at ht
      have HT := Lib.hid ht
      clear ht hm hst e0 h0 h0' hm' hal hmc hbd hm1
      rcases hsg with rfl | rfl
      all_goals
        go_wp2
        go_ret2
        exact ⟨ret_two (by rw [← HT.out]; simp), rfl⟩

set_option maxHeartbeats 400000 in
theorem specTurnsOf (n b : Int) (w : World) :
    Calls Try.prog 22 #[.int .i64 n, .int .i64 b] w fun e w' => e = .returned (.tuple #[.int .i64 (Pl.turnsI n b), .bool (Pl.okB n b)]) ∧ w = w' := by
  by_cases h : Pl.okB n b = true
  · obtain ⟨x, k, rfl, rfl, h1, h2, h3⟩ := Pl.okB_nat h
    rw [Pl.turnsI_yes x k h, h]
    exact specTurnsYes x k h1 h2 h3 w
  · rw [Pl.turnsI_no h, Bool.eq_false_iff.2 h]
    by_cases hn : (decide (0 ≤ n) && decide (n ≤ 1000000000)) = true
    · have hB : Pl.baseB b = false := by cases hb : Pl.baseB b <;> simp_all [Pl.okB]
      go_enter Try.func22, Try.ntmps22
      go_wp2_with (first | (go_at_call 31; refine (specIn _ _ _ _).mono ?_; rintro e w' ⟨rfl, rfl⟩) | (go_at_call 26; refine (specBaseOk _ _).mono ?_; rintro e w' ⟨rfl, rfl⟩))
      all_goals
        go_ret2
        exact ⟨rfl, rfl⟩
    · have hn' : (decide (0 ≤ n) && decide (n ≤ 1000000000)) = false := by simpa using hn
      go_enter Try.func22, Try.ntmps22
      go_wp2_with (first | (go_at_call 31; refine (specIn _ _ _ _).mono ?_; rintro e w' ⟨rfl, rfl⟩) | (go_at_call 26; refine (specBaseOk _ _).mono ?_; rintro e w' ⟨rfl, rfl⟩))
      all_goals
        go_ret2
        exact ⟨rfl, rfl⟩

set_option maxHeartbeats 400000 in
theorem FnExactTurnsOf_walk (a0 : Int) (a1 : Int) (w : World) (_w0 : (Lit.int .i64 a0).wf = true) (_w1 : (Lit.int .i64 a1).wf = true) :
    Calls Try.prog 9 #[.int .i64 a0, .int .i64 a1] w fun e w' => e = .returned (.bool true) ∧ Below w.heap.size w w' := by
  go_enter Try.func9, Try.ntmps9
  go_wp2_with (first | (go_at_call 22; refine (specTurnsOf _ _ _).mono ?_; rintro e w' ⟨rfl, rfl⟩) | (go_at_call 21; refine (implTurnsOf _ _ _).mono ?_; rintro e w1 ⟨rfl, hb⟩))
  go_ret
  exact ⟨rfl, hb⟩

end Go.Proofs.Ytggeemkjgpjahaa
