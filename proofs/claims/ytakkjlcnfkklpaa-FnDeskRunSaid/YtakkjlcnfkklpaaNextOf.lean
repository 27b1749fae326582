/-
  Sums of powers of digits: impl.powersRule, NextOf; l3Next; the exact law.
-/
import Derived.Test.YtakkjlcnfkklpaaSumOf
import Derived.Test.YtakkjlcnfkklpaaMathRho
import Derived.Test.YtakkjlcnfkklpaaCalm
namespace Go.Proofs.Ytakkjlcnfkklpaa
open Go.RowKit Go.Shelf

attribute [local go_sem] Oper.semAt_some

namespace Pl
/-- A rule is told: 1..5 times, a base. -/
def ruleB (t b : Int) : Bool := baseB b && (decide (1 ≤ t) && decide (t ≤ 5))
theorem ruleB_iff (t b : Int) : ruleB t b = true ↔ (2 ≤ b ∧ b ≤ 16) ∧ 1 ≤ t ∧ t ≤ 5 := by simp [ruleB, baseB]
/-- A number, a number of times and a base that are told. -/
def okT (n t b : Int) : Bool := ruleB t b && okB n b
theorem okT_nat {n t b : Int} (h : okT n t b = true) : ∃ x s k : Nat, n = (x : Int) ∧ t = (s : Int) ∧ b = (k : Int) ∧ RuleOk s k ∧ x ≤ 1000000000 := by
  rw [okT, Bool.and_eq_true, ruleB_iff, okB_iff] at h
  exact ⟨n.toNat, t.toNat, b.toNat, by omega, by omega, by omega, ⟨by omega, by omega, by omega, by omega⟩, by omega⟩
theorem okT_of {x s k : Nat} (h : RuleOk s k) (hx : x ≤ 1000000000) : okT x s k = true := by
  have := h.t1; have := h.t2; have := h.b1; have := h.b2
  rw [okT, Bool.and_eq_true, ruleB_iff, okB_iff]; omega
/-- What comes next as the functions answer: -1 for others. -/
def nextI (n t b : Int) : Int := if okT n t b = true then (nextN t.toNat b.toNat n.toNat : Int) else -1
theorem nextI_yes (n t b : Nat) (h : okT n t b = true) : nextI n t b = (nextN t b n : Int) := by rw [nextI, if_pos h]; rfl
theorem nextI_no {n t b : Int} (h : ¬ okT n t b = true) : nextI n t b = -1 := by rw [nextI, if_neg h]

theorem nextN_sum {t b : Nat} (hb : 2 ≤ b) (n : Nat) : ((digsR b n).map (· ^ t)).sum = nextN t b n := by
  refine digInd hb (P := fun n => ((digsR b n).map (· ^ t)).sum = nextN t b n) ?_ ?_ n
  · intro n h; rw [digsR_lt h, nextN_lt h]; simp
  · intro n h ih; rw [digsR_ge hb h, nextN_ge hb h, List.map_cons, List.sum_cons, ih]

theorem pow_dg {d t : Nat} (hd : d < 16) (ht : t ≤ 5) : d ^ t ≤ 759375 := by
  have h1 : d ^ t ≤ 15 ^ t := Nat.pow_le_pow_left (by omega) t
  have h2 : (15 : Nat) ^ t ≤ 15 ^ 5 := Nat.pow_le_pow_right (by omega) ht
  omega
end Pl

/-- The sum of powers of what has come. -/
def powDg (t : Nat) (l : List Pl.Dg) : Nat := (l.map (·.1 ^ t)).sum
theorem powDg_snoc (t : Nat) (l : List Pl.Dg) (d : Pl.Dg) : powDg t (l ++ [d]) = powDg t l + d.1 ^ t := by simp [powDg]
theorem powDg_le {t : Nat} (ht : t ≤ 5) (l : List Pl.Dg) : powDg t l ≤ 759375 * l.length := by
  induction l with
  | nil => simp [powDg]
  | cons a l ih => simp only [powDg, List.map_cons, List.sum_cons, List.length_cons] at *; have := Pl.pow_dg a.2 ht; omega
theorem powDg_all {t b x : Nat} (hb : 2 ≤ b) (hb' : b ≤ 16) : powDg t (Pl.digsF b x) = Pl.nextN t b x := by
  rw [← Pl.nextN_sum hb, ← Pl.digsF_val (n := x) hb hb', List.map_map]; rfl

set_option maxHeartbeats 400000 in
theorem ruleOk (t b : Int) (w : World) :
    Calls Try.prog 77 #[.agg #[.int .i64 t, .int .i64 b]] w fun e w' => e = .returned (.bool (Pl.ruleB t b)) ∧ Below w.heap.size w w' := by
  have hbel : Below w.heap.size w (w.alloc (.cells #[.int .i64 t, .int .i64 b] 91)) := (Below.refl _ _).alloc (Nat.le_refl _) _
  by_cases h1 : 1 ≤ t
  · by_cases h2 : t ≤ 5
    · go_enter Try.func77, Try.ntmps77
      go_wp2_with (go_at_call 42; refine (implBaseOk _ _).mono ?_; rintro e w' ⟨rfl, rfl⟩)
      all_goals
        go_ret
        exact ⟨ret_bool (by simp_all [Pl.ruleB] <;> omega), hbel⟩
    · go_enter Try.func77, Try.ntmps77
      go_wp2_with (go_at_call 42; refine (implBaseOk _ _).mono ?_; rintro e w' ⟨rfl, rfl⟩)
      all_goals
        go_ret
        exact ⟨ret_bool (by simp_all [Pl.ruleB] <;> omega), hbel⟩
  · go_enter Try.func77, Try.ntmps77
    go_wp2_with (go_at_call 42; refine (implBaseOk _ _).mono ?_; rintro e w' ⟨rfl, rfl⟩)
    all_goals
      go_ret
      exact ⟨ret_bool (by simp_all [Pl.ruleB] <;> omega), hbel⟩

set_option maxRecDepth 100000 in
set_option maxHeartbeats 2000000 in
theorem ruleNext (t b x : Nat) (hR : Pl.RuleOk t b) (hx : x ≤ 1000000000) (w : World) :
    Calls Try.prog 78 #[.agg #[.int .i64 t, .int .i64 b], .int .i64 x] w fun e W' => e = .returned (.int .i64 (Pl.nextN t b x)) ∧ Below w.heap.size w W' := by
  obtain ⟨ht1, ht2, hb, hb'⟩ := hR
  refine (callsIn_wide (n := 5)).1 ?_
  have h1 : 1 ≤ 5 := by omega
  have hN := Pl.digsR_len30 hb hx
  refine callsIn_of_wp_marks Try.func78 rfl trivial ?_ rfl
  simp only [Try.ntmps78, List.size_toArray, List.length_cons, List.length_nil, Nat.reduceAdd, Nat.reduceSub, Array.replicate_succ, Array.replicate_zero, List.push_toArray, List.append_toArray, List.nil_append, List.cons_append]
  gi_wp2_with (refine ⟨trivial, ?_⟩; gi_at_call 76; refine (lastFirst Fence.wide (5 - 1) trivial rfl _ _ _).mono ?_; rintro e w' ⟨rfl, rfl⟩)
  have hr := cell_new_l
  obtain ⟨W0, hW0⟩ : ∃ W0, ((((w.alloc (.cells #[.int .i64 t, .int .i64 b] 91)).alloc (.cells #[.int .i64 0] 3)).alloc (.cells #[.int .i64 x] 3)).alloc (.cells #[.int .i64 b] 3)) = W0 := ⟨_, rfl⟩
  have hsz : W0.heap.size = w.heap.size + 4 := by rw [← hW0]; simp
  have hB0 : Below w.heap.size w W0 := by rw [← hW0]; exact ((((Below.refl _ w).alloc (Nat.le_refl _) _).alloc (by simp) _).alloc (by simp; omega) _).alloc (by simp; omega) _
  have d0 : W0.cell? ⟨w.heap.size, 0, none⟩ = some (.int .i64 t) := by
    rw [← hW0]
    exact cell_alloc_l _ (cell_alloc_l _ (cell_alloc_l _ (by rw [World.cell?_alloc_new]; rfl)))
  have d1 : W0.cell? ⟨w.heap.size + 1, 0, none⟩ = some (.int .i64 0) ∧ W0.frozen? ⟨w.heap.size + 1, 0, none⟩ = false := by
    rw [← hW0]
    have c := cell_new_l (w.alloc (.cells #[.int .i64 t, .int .i64 b] 91)) (.int .i64 0) 3
    simp only [World.size_alloc] at c
    exact ⟨cell_alloc_l _ (cell_alloc_l _ c.1), frozen_alloc_l _ (cell_alloc_l _ c.1) (frozen_alloc_l _ c.1 c.2)⟩
  have d2 : W0.cell? ⟨w.heap.size + 1 + 1, 0, none⟩ = some (.int .i64 x) := by
    rw [← hW0]
    have c := cell_new_l ((w.alloc (.cells #[.int .i64 t, .int .i64 b] 91)).alloc (.cells #[.int .i64 0] 3)) (.int .i64 x) 3
    simp only [World.size_alloc] at c
    exact cell_alloc_l _ c.1
  have d3 : W0.cell? ⟨w.heap.size + 1 + 1 + 1, 0, none⟩ = some (.int .i64 b) := by
    rw [← hW0]
    have c := cell_new_l (((w.alloc (.cells #[.int .i64 t, .int .i64 b] 91)).alloc (.cells #[.int .i64 0] 3)).alloc (.cells #[.int .i64 x] 3)) (.int .i64 b) 3
    simp only [World.size_alloc] at c
    exact c.1
  rw [hW0]
  clear hW0 hr
  have HSZ := Lib.hid hsz
  have hsz' : w.heap.size + 4 ≤ W0.heap.size := by omega
  clear hsz
  refine wpIn_rangeFunc_ownF (F := Fence.wide) rfl h1 (gf := 85) (lb := #[.pointer (some ⟨w.heap.size + 1 + 1, 0, none⟩), .pointer (some ⟨w.heap.size + 1 + 1 + 1, 0, none⟩)]) rfl trivial (enters_of Try.func85 (by kernel_rfl) rfl)
    (lastFirst_stops Fence.wide (5 - 1) trivial rfl (by omega) (w.heap.size + 1 + 1) x b hb hb' hx W0 (by omega) d2 d3) Kept.trans (kept_b (by omega)) (Below.refl _ _) (fun _ => rfl)
    (fun pre W => (W.cell? ⟨w.heap.size + 1, 0, none⟩ = some (.int .i64 (powDg t pre)) ∧ W.frozen? ⟨w.heap.size + 1, 0, none⟩ = false ∧ W.cell? ⟨w.heap.size, 0, none⟩ = some (.int .i64 t)) ∧ Below w.heap.size w W)
    (fun _ _ _ => False)
    (OwnFrom.and (Own.from (fun s A B row hs hg hr => ⟨cell_kept hs.1 hg hr, (frozen_kept hs.1 hg hr).trans hs.2.1, cell_kept hs.2.2 hg hr⟩) _) (ownFrom_below (Nat.le_refl _) (by omega)))
    (fun _ _ _ _ _ hs _ _ => hs)
    ⟨⟨d1.1, d1.2, d0⟩, hB0⟩
    (fun d => { tmps := #[.agg #[.int .i64 t, .int .i64 b], .int .i64 x, .pointer (some ⟨w.heap.size, 0, none⟩), undef, .int .i64 0, .pointer (some ⟨w.heap.size + 1, 0, none⟩), .int .i64 (d.1 : Int), undef, .int .i64 x, .pointer (some ⟨w.heap.size, 1, none⟩), .int .i64 b,
      .func (.func 85) #[] #[.pointer (some ⟨w.heap.size + 1 + 1, 0, none⟩), .pointer (some ⟨w.heap.size + 1 + 1 + 1, 0, none⟩)], .int .i64 (d.1 : Int), undef, undef, undef, undef, undef, undef, undef, undef, undef, undef, undef, undef], defers := [] }) ?assign ?body ?done ?stop
  case assign =>
    intro l d W K hK
    gi_wp2
    exact hK
  case body =>
    rintro l pre d W ⟨⟨hc, hf, ht⟩, hB⟩ hlen
    have hd := d.2
    have hsum := powDg_le ht2 pre
    have hpl : powDg t pre ≤ 30000000 := by omega
    clear hsum
    gi_wp2
    gi_loop [7, 15] (fun p i => ∃ P I : Nat, I ≤ t ∧ P ≤ 759375 ∧ P = d.1 ^ I ∧ p = .int .i64 P ∧ i = .int .i64 I) (fun _ i => t - (intOf i).toNat)
    case atStart => exact ⟨1, 0, by omega, by omega, by simp, rfl, rfl⟩
    case round =>
      obtain ⟨P, I, hI, hP, hPe, rfl, rfl⟩ := hrel
      by_cases hlt : I < t
      · have hq : P * d.1 = d.1 ^ (I + 1) := by rw [hPe, Nat.pow_succ]
        have hq2 : P * d.1 ≤ 759375 := by rw [hq]; exact Pl.pow_dg hd (by omega)
        have HQ := Lib.hid hq
        have e : IntKind.i64.wrap ((P : Int) * (d.1 : Int)) = ((P * d.1 : Nat) : Int) := by
          rw [← Int.natCast_mul]; exact IntWalk.i64_in _ (by omega)
        have hi : (I : Int) < (t : Int) := by omega
        clear hq hPe
        generalize P * d.1 = Q at *
        gi_wp2
        go_round
        case rel => exact ⟨Q, I + 1, by omega, hq2, HQ.out, rfl, by simp⟩
        case measure => simp [intOf]; omega
      · obtain rfl : I = t := by omega
        have HP := Lib.hid hPe
        clear hPe
        gi_wp2
        exact ⟨KeepsOthers.setCell _ _ _, (Kept.refl W).setCell (p := ⟨w.heap.size + 1, 0, none⟩) (.inl (by simp)) _, ⟨by rw [powDg_snoc, ← HP.out]; exact World.cell?_setCell_same' _ _ _ (by rw [hc]; rfl), by rw [World.frozen?_setCell]; exact hf, by rw [World.cell?_setCell_other _ _ _ _ (by simp)]; exact ht⟩, hB.setCell (p := ⟨w.heap.size + 1, 0, none⟩) (by simp) _⟩
  case done =>
    rintro D ys W hD rfl ⟨⟨hc, _⟩, hB⟩ hK
    rw [powDg_all hb hb'] at hc
    gi_wp2
    refine ⟨by simp, .inl ⟨_, _, rfl, run_takeDeferred hK, ?_⟩⟩
    exact ⟨_, results_tmp rfl _ _ _, rfl, hB.trans (belowK_b (w := w) (Nat.le_refl _) W D _ _ (by omega) hK rfl rfl)⟩
  case stop =>
    rintro D c pre W _ _ h _
    exact h.elim

end Go.Proofs.Ytakkjlcnfkklpaa

namespace Go.Proofs.Ytakkjlcnfkklpaa
open Go.RowKit Go.Shelf

/-- The box in which a rule lies, behind what writes nothing of before. -/
theorem rule_box {w w1 : World} {t b : Int} (h : Below (w.alloc (.cells #[.int .i64 t, .int .i64 b] 91)).heap.size (w.alloc (.cells #[.int .i64 t, .int .i64 b] 91)) w1) :
    w1.cell? ⟨w.heap.size, 0, none⟩ = some (.int .i64 t) ∧ w1.cell? ⟨w.heap.size, 1, none⟩ = some (.int .i64 b) ∧ Below w.heap.size w w1 ∧ w.heap.size < w1.heap.size :=
  ⟨(Below.cell h (p := ⟨w.heap.size, 0, none⟩) (v := .int .i64 t) (by simp) (by rw [World.cell?_alloc_new]; rfl)), (Below.cell h (p := ⟨w.heap.size, 1, none⟩) (v := .int .i64 b) (by simp) (by rw [World.cell?_alloc_new]; rfl)),
    ((Below.refl _ w).alloc (Nat.le_refl _) _).trans (h.mono (by simp)), by have := h.size; simp at this; omega⟩

set_option maxHeartbeats 400000 in
theorem implNextOf (n t b : Int) (w : World) :
    Calls Try.prog 66 #[.int .i64 n, .int .i64 t, .int .i64 b] w fun e W' => e = .returned (.int .i64 (Pl.nextI n t b)) ∧ Below w.heap.size w W' := by
  by_cases g1 : Pl.ruleB t b = true
  · by_cases g2 : Pl.okB n b = true
    · have h : Pl.okT n t b = true := by rw [Pl.okT, g1, g2]; rfl
      obtain ⟨x, s, k, rfl, rfl, rfl, hR, hx⟩ := Pl.okT_nat h
      rw [Pl.nextI_yes x s k h]
      go_enter Try.func66, Try.ntmps66
      go_wp2_with fail
      refine (ruleOk _ _ _).mono ?_
      rintro e w1 ⟨rfl, hb1⟩
      obtain ⟨c0, c1, hB, hlt⟩ := rule_box hb1
      clear hb1
      go_wp2_with (go_at_call 39; refine (hasDigits _ _ _).mono ?_; rintro e w' ⟨rfl, rfl⟩)
      refine (ruleNext s k x hR hx _).mono ?_
      rintro e w2 ⟨rfl, hb2⟩
      go_wp2
      go_ret
      exact ⟨rfl, hB.trans (hb2.mono hB.size)⟩
    · have h : ¬ Pl.okT n t b = true := by rw [Pl.okT, g1]; simpa using g2
      have g2' : Pl.okB n b = false := by simpa using g2
      rw [Pl.nextI_no h]
      clear h g2
      go_enter Try.func66, Try.ntmps66
      go_wp2_with fail
      refine (ruleOk _ _ _).mono ?_
      rintro e w1 ⟨rfl, hb1⟩
      obtain ⟨c0, c1, hB, hlt⟩ := rule_box hb1
      clear hb1
      go_wp2_with (go_at_call 39; refine (hasDigits _ _ _).mono ?_; rintro e w' ⟨rfl, rfl⟩)
      go_ret
      exact ⟨rfl, hB⟩
  · have h : ¬ Pl.okT n t b = true := by rw [Pl.okT]; simp [g1]
    have g1' : Pl.ruleB t b = false := by simpa using g1
    rw [Pl.nextI_no h]
    clear h g1
    go_enter Try.func66, Try.ntmps66
    go_wp2_with fail
    refine (ruleOk _ _ _).mono ?_
    rintro e w1 ⟨rfl, hb1⟩
    obtain ⟨c0, c1, hB, hlt⟩ := rule_box hb1
    clear hb1
    go_wp2_with fail
    go_ret
    exact ⟨rfl, hB⟩

set_option maxHeartbeats 1000000 in
theorem l3Next (t b x : Nat) (hR : Pl.RuleOk t b) (hx : x ≤ 1000000000) (w : World) :
    Calls Try.prog 83 #[.int .i64 x, .int .i64 t, .int .i64 b] w fun e w' => e = .returned (.int .i64 (Pl.nextN t b x)) ∧ w = w' := by
  have htop := Pl.next_le hR hx
  obtain ⟨ht1, ht2, hb, hb'⟩ := hR
  have hne : ((b : Int) == 0) = false := by simp; omega
  go_enter Try.func83, Try.ntmps83
  go_wp2
  go_loop [7, 8, 9, 10] (fun s l _ _ => ∃ (T left : Nat), T + Pl.nextN t b left = Pl.nextN t b x ∧ left ≤ x ∧ s = .int .i64 T ∧ l = .int .i64 left) (fun _ l _ _ => (intOf l).toNat)
  case atStart => exact ⟨0, x, by omega, by omega, rfl, rfl⟩
  case round =>
    obtain ⟨T, left, hT, hl, rfl, rfl⟩ := hrel
    have h0 : 0 ≤ (left : Int) / (b : Int) := Int.ediv_nonneg (by omega) (by omega)
    have h0' : 0 ≤ (left : Int) % (b : Int) := Int.emod_nonneg _ (by omega)
    by_cases hlt : 0 < left
    · have hst := Pl.nextN_step ht1 hb left
      have h1 : (left : Int) / (b : Int) < (left : Int) := show ((left / b : Nat) : Int) < (left : Int) from Int.ofNat_lt.2 (Nat.div_lt_self (by omega) (by omega))
      have hd : left % b < 16 := Nat.lt_of_lt_of_le (Nat.mod_lt _ (by omega)) hb'
      have hTt : T + (left % b) ^ t ≤ 22781250 := by omega
      have HT := Lib.hid hT
      have HM := Lib.hid hst
      clear hT hst
      go_wp2
      go_loop [9, 10] (fun p i => ∃ P I : Nat, I ≤ t ∧ P ≤ 759375 ∧ P = (left % b) ^ I ∧ p = .int .i64 P ∧ i = .int .i64 I) (fun _ i => t - (intOf i).toNat)
      case atStart => exact ⟨1, 0, by omega, by omega, by simp, rfl, rfl⟩
      case round =>
        obtain ⟨P, I, hI, hP, hPe, rfl, rfl⟩ := hrel
        by_cases hlt' : I < t
        · have hq : P * (left % b) = (left % b) ^ (I + 1) := by rw [hPe, Nat.pow_succ]
          have hq2 : P * (left % b) ≤ 759375 := by rw [hq]; exact Pl.pow_dg hd (by omega)
          have HQ := Lib.hid hq
          have HP := Lib.hid hPe
          have e : (P : Int) * ((left : Int) % (b : Int)) = ((P * (left % b) : Nat) : Int) := by rw [Int.natCast_mul]; rfl
          have e' : IntKind.i64.wrap ((P : Int) * ((left : Int) % (b : Int))) = ((P * (left % b) : Nat) : Int) := by
            rw [e]; exact IntWalk.i64_in _ (by omega)
          have hi : (I : Int) < (t : Int) := by omega
          clear hq hPe e hTt hd
          generalize P * (left % b) = Q at *
          go_wp2
          go_round
          case rel => exact ⟨Q, I + 1, by omega, hq2, HQ.out, rfl, by simp⟩
          case measure => simp [intOf]; omega
        · obtain rfl : I = t := by omega
          have HP := Lib.hid hPe
          rw [← hPe] at hTt
          clear hPe
          go_wp2
          go_round
          case rel => exact ⟨T + P, left / b, by rw [← HT.out, HM.out, HP.out]; omega, Nat.le_trans (Nat.div_le_self _ _) hl, by simp, rfl⟩
          case measure =>
            have := Nat.div_lt_self (n := left) (k := b) (by omega) (by omega)
            simp [intOf]; omega
    · obtain rfl : left = 0 := by omega
      have e0 : Pl.nextN t b 0 = 0 := Pl.nextN_zero ht1 hb
      rw [e0] at hT
      have HT := Lib.hid hT
      clear hT e0 h0 h0'
      go_wp2
      go_ret
      exact ⟨ret_int (by rw [← HT.out]; simp), rfl⟩

/-- What spec asks of a number, a number of times and a base. -/
theorem okT_halves (n t b : Int) : Pl.okT n t b = ((decide (0 ≤ n) && decide (n ≤ 1000000000)) && ((decide (1 ≤ t) && decide (t ≤ 5)) && Pl.baseB b)) := by
  rw [Bool.eq_iff_iff, Pl.okT, Bool.and_eq_true, Pl.ruleB_iff, Pl.okB_iff]
  simp [Pl.baseB_iff]; omega

theorem specTest3 (n t b : Int) (h : ¬ Pl.okT n t b = true) : (decide (0 ≤ n) && decide (n ≤ 1000000000)) = false ∨ ((decide (0 ≤ n) && decide (n ≤ 1000000000)) = true ∧ (decide (1 ≤ t) && decide (t ≤ 5)) = false) ∨
    ((decide (0 ≤ n) && decide (n ≤ 1000000000)) = true ∧ (decide (1 ≤ t) && decide (t ≤ 5)) = true ∧ Pl.baseB b = false) := by
  rw [okT_halves] at h
  generalize (decide (0 ≤ n) && decide (n ≤ 1000000000)) = A at *
  generalize (decide (1 ≤ t) && decide (t ≤ 5)) = B at *
  generalize Pl.baseB b = C at *
  cases A <;> cases B <;> cases C <;> simp_all

set_option maxHeartbeats 400000 in
theorem specNextOf (n t b : Int) (w : World) :
    Calls Try.prog 72 #[.int .i64 n, .int .i64 t, .int .i64 b] w fun e w' => e = .returned (.int .i64 (Pl.nextI n t b)) ∧ w = w' := by
  by_cases h : Pl.okT n t b = true
  · have hh := h
    rw [okT_halves] at hh
    obtain ⟨g1, g23⟩ := Bool.and_eq_true_iff.1 hh
    obtain ⟨g2, g3⟩ := Bool.and_eq_true_iff.1 g23
    clear hh g23
    obtain ⟨x, s, k, rfl, rfl, rfl, hR, hx⟩ := Pl.okT_nat h
    rw [Pl.nextI_yes x s k h]
    clear h
    go_enter Try.func72, Try.ntmps72
    go_wp2_with (first | (go_at_call 40; refine (specIn _ _ _ _).mono ?_; rintro e w' ⟨rfl, rfl⟩) | (go_at_call 41; refine (specBaseOk _ _).mono ?_; rintro e w' ⟨rfl, rfl⟩) | (go_at_call 83; refine (l3Next s k x hR hx _).mono ?_; rintro e w' ⟨rfl, rfl⟩))
    go_ret
    exact ⟨rfl, rfl⟩
  · rw [Pl.nextI_no h]
    rcases specTest3 n t b h with g1 | ⟨g1, g2⟩ | ⟨g1, g2, g3⟩
    all_goals
      clear h
      go_enter Try.func72, Try.ntmps72
      go_wp2_with (first | (go_at_call 40; refine (specIn _ _ _ _).mono ?_; rintro e w' ⟨rfl, rfl⟩) | (go_at_call 41; refine (specBaseOk _ _).mono ?_; rintro e w' ⟨rfl, rfl⟩))
      all_goals
        go_ret
        exact ⟨rfl, rfl⟩

end Go.Proofs.Ytakkjlcnfkklpaa
