/-
  impl.lastFirst, the range over function; impl and spec of SumOf.
-/
import Derived.RangeFuncNested
import Derived.RangeFuncBound
import Derived.RangeFuncCalls
import Derived.RangeFuncLeaves
import Derived.RangeFuncBox
import Derived.Shelf.Abstract
import Derived.Shelf.RegionOpen
import Derived.WalkKit
import Derived.OwnWalkIn
import Derived.TacticsInMore
import Derived.LoopNIn
import Derived.LoopIn
import Derived.Lib.Hide
import Derived.Test.YtakkjlcnfkklpaaProg
import Derived.Test.YtakkjlcnfkklpaaMath
import Derived.Test.YtakkjlcnfkklpaaList
namespace Go.Proofs.Ytakkjlcnfkklpaa
open Go.RowKit Go.Shelf

attribute [local go_sem] Oper.semAt_some

theorem cell_new_l (W : World) (v : Value) (t : TypeId) : (W.alloc (.cells #[v] t)).cell? ⟨W.heap.size, 0, none⟩ = some v ∧ (W.alloc (.cells #[v] t)).frozen? ⟨W.heap.size, 0, none⟩ = false := ⟨(Boxed.new W t v).cell, (Boxed.new W t v).frozen⟩
theorem cell_alloc_l {W : World} {a : Addr} {v : Value} (o : Obj) (h : W.cell? a = some v) : (W.alloc o).cell? a = some v := cell_kept h (World.grownBy_alloc W o none) (fun r e => by cases e)
theorem frozen_alloc_l {W : World} {a : Addr} {v : Value} (o : Obj) (h : W.cell? a = some v) (hf : W.frozen? a = false) : (W.alloc o).frozen? a = false := (frozen_kept h (World.grownBy_alloc W o none) (fun r e => by cases e)).trans hf

/-- What a round keeps: the blocks from B1 up to B2 lie as they lay. -/
def Kept (B1 B2 : Nat) (W W' : World) : Prop := ∀ k, B1 ≤ k → k < B2 → W'.heap[k]? = W.heap[k]?
theorem Kept.refl {B1 B2 : Nat} (W : World) : Kept B1 B2 W W := fun _ _ _ => rfl
theorem Kept.trans {B1 B2 : Nat} {A B C : World} (h : Kept B1 B2 A B) (k : Kept B1 B2 B C) : Kept B1 B2 A C := fun i h1 h2 => (k i h1 h2).trans (h i h1 h2)
theorem Kept.cell {B1 B2 : Nat} {W W' : World} (h : Kept B1 B2 W W') {p : Addr} (h1 : B1 ≤ p.block) (h2 : p.block < B2) : W'.cell? p = W.cell? p := World.cell?_of_block (w := W) (h _ h1 h2)
theorem Kept.setCell {B1 B2 : Nat} {A W : World} (h : Kept B1 B2 A W) {p : Addr} (hp : p.block < B1 ∨ B2 ≤ p.block) (u : Value) : Kept B1 B2 A (W.setCell p u) :=
  h.trans fun k h1 h2 => Below.heap_setCell _ _ _ _ (by omega)
theorem Kept.alloc {B1 B2 : Nat} {A W : World} (h : Kept B1 B2 A W) (hB : B2 ≤ W.heap.size) (o : Obj) : Kept B1 B2 A (W.alloc o) := h.trans fun k h1 h2 => Below.heap_alloc _ _ _ (by omega)
theorem Kept.drew {B1 B2 : Nat} {A W : World} (h : Kept B1 B2 A W) : Kept B1 B2 A W.drew := h
theorem Kept.of_below {B1 B2 : Nat} {A W : World} (h : Below B2 A W) : Kept B1 B2 A W := fun k _ h2 => h.block k h2
theorem kept_b {B1 B2 : Nat} {w : World} (hB : B2 ≤ w.heap.size) (W : World) (l : Nat) (o o' : Obj) (hl : w.heap.size ≤ l) (_ : W.heap[l]? = some o) (_ : o.isCells = false) (_ : o.isWalk = false) : Kept B1 B2 W (W.putObj l o') :=
  fun k _ h2 => World.putObj_heap_other (by omega)

set_option maxRecDepth 100000 in
set_option maxHeartbeats 2000000 in
theorem lastFirst1 (F : Fence) (n : Nat) (h7 : F.fn 85) (hro : F.round = none) (hn : 1 ≤ n) (l B1 : Nat) (x b : Nat) (hb : 2 ≤ b) (hb' : b ≤ 16) (hx : x ≤ 1000000000) (J Jx : List Pl.Dg → World → Prop)
    (hY : ∀ pre d W, J pre W → pre.length < (Pl.digsR b x).length → YieldAt F (n - 1) Try.prog l #[.int .i64 (d.1 : Int)] W fun e W' =>
      (e = .returned (.bool true) ∧ J (pre ++ [d]) W' ∧ Kept B1 (B1 + 2) W W') ∨ (e = .returned (.bool false) ∧ Jx (pre ++ [d]) W'))
    (W : World) (hB0 : W.cell? ⟨B1, 0, none⟩ = some (.int .i64 x)) (hB1 : W.cell? ⟨B1 + 1, 0, none⟩ = some (.int .i64 b)) (h0 : J [] W) :
    CallsIn F n Try.prog 85 #[.func (.yield l) #[] #[], .pointer (some ⟨B1, 0, none⟩), .pointer (some ⟨B1 + 1, 0, none⟩)] W fun e W' => (∃ v, e = .returned v) ∧
      ((∃ ys, ys = Pl.digsF b x ∧ J ys W') ∨ (∃ pre, pre <+: Pl.digsF b x ∧ Jx pre W')) := by
  refine callsIn_of_wp Try.func85 rfl h7 ?_ hro
  simp only [Try.ntmps85, List.size_toArray, List.length_cons, List.length_nil, Nat.reduceAdd, Nat.reduceSub, Array.replicate_succ, Array.replicate_zero, List.push_toArray, List.append_toArray, List.nil_append, List.cons_append]
  gi_wp2
  gi_loopw [4] (fun i wr => ∃ (pre : List Pl.Dg) (left : Nat), left ≤ x ∧ i = .int .i64 left ∧ pre ++ Pl.digsF b left = Pl.digsF b x ∧ J pre wr ∧ wr.cell? ⟨B1 + 1, 0, none⟩ = some (.int .i64 b))
    (fun i _ => (intOf i).toNat)
  case atStart => exact ⟨[], x, Nat.le_refl _, rfl, rfl, h0, hB1⟩
  case round =>
    obtain ⟨pre, left, hle, rfl, hx', hJs, hc⟩ := hrel
    have hb0 : 0 ≤ (left : Int) := by omega
    have hb2 : 1 ≤ (b : Int) := by omega
    have hne : ((b : Int) == 0) = false := by simp; omega
    by_cases hlt : left < b
    · have hlen : pre.length < (Pl.digsR b x).length := by
        have := congrArg List.length hx'; rw [List.length_append, Pl.digsF_len, Pl.digsF_len, Pl.digsR_lt hlt] at this; simp at this; omega
      obtain ⟨fn, tmps, assign, body, hy, hR⟩ := hY pre (Pl.dg (left % b)) wr hJs hlen
      rw [Pl.dg_val (Nat.lt_of_lt_of_le (Nat.mod_lt _ (by omega)) hb')] at hy
      simp only [Int.natCast_emod] at hy
      have HX := Lib.hid hx'
      clear hx'
      gi_wp2
      refine hR.mono ?_
      rintro e W3 (⟨rfl, hJ3, hk3⟩ | ⟨rfl, hJx3⟩)
      · have hc3 : W3.cell? ⟨B1 + 1, 0, none⟩ = some (.int .i64 b) := (hk3.cell (p := ⟨B1 + 1, 0, none⟩) (by simp) (by simp)).trans hc
        gi_wp2
        refine bodyPost_ret (results_none rfl _ _ _) rfl ?_
        refine ⟨⟨_, rfl⟩, .inl ⟨_, ?_, hJ3⟩⟩
        rw [← HX.out, Pl.digsF_one hlt, Nat.mod_eq_of_lt hlt]
      · gi_wp2
        refine bodyPost_ret (results_none rfl _ _ _) rfl ?_
        refine ⟨⟨_, rfl⟩, .inr ⟨_, ?_, hJx3⟩⟩
        rw [← HX.out, Pl.digsF_one hlt, Nat.mod_eq_of_lt hlt]
        exact List.prefix_refl _
    · have hdn : left / b < left := Nat.div_lt_self (by omega) (by omega)
      have hd0 : 0 ≤ (left : Int) / (b : Int) := Int.ediv_nonneg (by omega) (by omega)
      have hd1 : (left : Int) / (b : Int) < (left : Int) := show ((left / b : Nat) : Int) < (left : Int) from Int.ofNat_lt.2 hdn
      have hmore := Pl.digsF_more hb (n := left) (by omega)
      have hlen : pre.length < (Pl.digsR b x).length := by
        have := congrArg List.length hx'; rw [List.length_append, Pl.digsF_len, Pl.digsF_len] at this; have := Pl.digsR_pos b left; omega
      obtain ⟨fn, tmps, assign, body, hy, hR⟩ := hY pre (Pl.dg (left % b)) wr hJs hlen
      rw [Pl.dg_val (Nat.lt_of_lt_of_le (Nat.mod_lt _ (by omega)) hb')] at hy
      simp only [Int.natCast_emod] at hy
      have HX := Lib.hid hx'
      have HM := Lib.hid hmore
      clear hx' hmore
      gi_wp2
      refine hR.mono ?_
      rintro e W3 (⟨rfl, hJ3, hk3⟩ | ⟨rfl, hJx3⟩)
      · have hc3 : W3.cell? ⟨B1 + 1, 0, none⟩ = some (.int .i64 b) := (hk3.cell (p := ⟨B1 + 1, 0, none⟩) (by simp) (by simp)).trans hc
        gi_wp2
        go_roundw
        case rel => exact ⟨_, left / b, Nat.le_trans (Nat.div_le_self _ _) hle, rfl, by rw [← HX.out, HM.out]; simp, hJ3, hc3⟩
        case measure =>
          simp [intOf]; omega
      · gi_wp2
        refine bodyPost_ret (results_none rfl _ _ _) rfl ?_
        refine ⟨⟨_, rfl⟩, .inr ⟨_, ?_, hJx3⟩⟩
        rw [← HX.out, HM.out]
        exact ⟨Pl.digsF b (left / b), by simp⟩

set_option maxHeartbeats 1000000 in
/-- lastFirst boxes both numbers; the function value captures the boxes. -/
theorem lastFirst (F : Fence) (n : Nat) (h5 : F.fn 76) (hro : F.round = none) (x b : Int) (w : World) :
    CallsIn F n Try.prog 76 #[.int .i64 x, .int .i64 b] w fun e w' => e = .returned (.func (.func 85) #[] #[.pointer (some ⟨w.heap.size, 0, none⟩), .pointer (some ⟨w.heap.size + 1, 0, none⟩)]) ∧
      w' = (w.alloc (.cells #[.int .i64 x] 3)).alloc (.cells #[.int .i64 b] 3) := by
  refine callsIn_of_wp Try.func76 rfl h5 ?_ hro
  simp only [Try.ntmps76, List.size_toArray, List.length_cons, List.length_nil, Nat.reduceAdd, Nat.reduceSub, Array.replicate_succ, Array.replicate_zero, List.push_toArray, List.append_toArray, List.nil_append, List.cons_append]
  gi_wp2
  go_ret
  exact ⟨rfl, rfl⟩

/-- What lastFirst hands back yields the digits, the last one first, to every loop that keeps its boxes. -/
theorem lastFirst_stops (F : Fence) (n : Nat) (h7 : F.fn 85) (hro : F.round = none) (hn : 1 ≤ n) (B1 : Nat) (x b : Nat) (hb : 2 ≤ b) (hb' : b ≤ 16) (hx : x ≤ 1000000000) (w : World) (hB : B1 + 1 < w.heap.size)
    (hB0 : w.cell? ⟨B1, 0, none⟩ = some (.int .i64 x)) (hB1 : w.cell? ⟨B1 + 1, 0, none⟩ = some (.int .i64 b)) :
    SeqStopsK F n Try.prog 85 #[.pointer (some ⟨B1, 0, none⟩), .pointer (some ⟨B1 + 1, 0, none⟩)] (fun d : Pl.Dg => #[Value.int .i64 (d.1 : Int)]) (Kept B1 (B1 + 2)) (fun ys => ys = Pl.digsF b x) (fun pre => pre <+: Pl.digsF b x) (Pl.digsR b x).length w := fun l J Jx W hW _ _ hY h0 =>
  lastFirst1 F n h7 hro hn l B1 x b hb hb' hx J Jx hY W ((hW.cell (p := ⟨B1, 0, none⟩) (by simp; omega)).trans hB0) ((hW.cell (p := ⟨B1 + 1, 0, none⟩) (by simp; omega)).trans hB1) h0

end Go.Proofs.Ytakkjlcnfkklpaa

namespace Go.Proofs.Ytakkjlcnfkklpaa
open Go.RowKit Go.Shelf

attribute [local go_sem] Oper.semAt_some

set_option maxHeartbeats 400000 in
theorem hasDigits (n b : Int) (w : World) :
    Calls Try.prog 39 #[.int .i64 n, .int .i64 b] w fun e w' => e = .returned (.bool (Pl.okB n b)) ∧ w = w' := by
  by_cases h0 : 0 ≤ n
  · by_cases h1 : n ≤ 1000000000
    · go_enter Try.func39, Try.ntmps39
      go_wp2_with (go_at_call 42; refine (implBaseOk _ _).mono ?_; rintro e w' ⟨rfl, rfl⟩)
      all_goals
        go_ret
        exact ⟨ret_bool (by simp_all [Pl.okB] <;> omega), rfl⟩
    · go_enter Try.func39, Try.ntmps39
      go_wp2_with (go_at_call 42; refine (implBaseOk _ _).mono ?_; rintro e w' ⟨rfl, rfl⟩)
      all_goals
        go_ret
        exact ⟨ret_bool (by simp_all [Pl.okB] <;> omega), rfl⟩
  · go_enter Try.func39, Try.ntmps39
    go_wp2_with (go_at_call 42; refine (implBaseOk _ _).mono ?_; rintro e w' ⟨rfl, rfl⟩)
    all_goals
      go_ret
      exact ⟨ret_bool (by simp_all [Pl.okB] <;> omega), rfl⟩

/-- The sum of what has come. -/
def sumDg (l : List Pl.Dg) : Nat := (l.map (·.1)).sum
theorem sumDg_snoc (l : List Pl.Dg) (d : Pl.Dg) : sumDg (l ++ [d]) = sumDg l + d.1 := by simp [sumDg]
theorem sumDg_le (l : List Pl.Dg) : sumDg l ≤ 16 * l.length := by
  induction l with
  | nil => simp [sumDg]
  | cons a l ih => simp only [sumDg, List.map_cons, List.sum_cons, List.length_cons] at *; have := a.2; omega

set_option maxRecDepth 100000 in
set_option maxHeartbeats 2000000 in
theorem sumOfYes (x b : Nat) (hb : 2 ≤ b) (hb' : b ≤ 16) (hx : x ≤ 1000000000) (w : World) :
    Calls Try.prog 64 #[.int .i64 x, .int .i64 b] w fun e W' => e = .returned (.int .i64 (Pl.sumD b x)) ∧ Below w.heap.size w W' := by
  refine (callsIn_wide (n := 5)).1 ?_
  have h1 : 1 ≤ 5 := by omega
  have hok : Pl.okB x b = true := by rw [Pl.okB_iff]; omega
  have hN := Pl.digsR_len30 hb hx
  refine callsIn_of_wp_marks Try.func64 rfl trivial ?_ rfl
  simp only [Try.ntmps64, List.size_toArray, List.length_cons, List.length_nil, Nat.reduceAdd, Nat.reduceSub, Array.replicate_succ, Array.replicate_zero, List.push_toArray, List.append_toArray, List.nil_append, List.cons_append]
  gi_wp2_with (first | (refine ⟨trivial, ?_⟩; gi_at_call 39; refine (callsIn_wide.2 (hasDigits _ _ _)).mono ?_; rintro e w' ⟨rfl, rfl⟩) | (refine ⟨trivial, ?_⟩; gi_at_call 76; refine (lastFirst Fence.wide (5 - 1) trivial rfl _ _ _).mono ?_; rintro e w' ⟨rfl, rfl⟩))
  have hs := cell_new_l w (.int .i64 0) 3
  have c1 := cell_new_l (w.alloc (.cells #[.int .i64 0] 3)) (.int .i64 x) 3
  have c2 := cell_new_l ((w.alloc (.cells #[.int .i64 0] 3)).alloc (.cells #[.int .i64 x] 3)) (.int .i64 b) 3
  simp only [World.size_alloc] at c1 c2
  have hB0 : Below w.heap.size w (((w.alloc (.cells #[.int .i64 0] 3)).alloc (.cells #[.int .i64 x] 3)).alloc (.cells #[.int .i64 b] 3)) := (((Below.refl _ w).alloc (Nat.le_refl _) _).alloc (by simp) _).alloc (by simp; omega) _
  refine wpIn_rangeFunc_ownF (F := Fence.wide) rfl h1 (gf := 85) (lb := #[.pointer (some ⟨w.heap.size + 1, 0, none⟩), .pointer (some ⟨w.heap.size + 1 + 1, 0, none⟩)]) rfl trivial (enters_of Try.func85 (by kernel_rfl) rfl)
    (lastFirst_stops Fence.wide (5 - 1) trivial rfl (by omega) (w.heap.size + 1) x b hb hb' hx _ (by simp) (cell_alloc_l _ c1.1) c2.1) Kept.trans (kept_b (by simp)) (Below.refl _ _) (fun _ => rfl)
    (fun pre W => (W.cell? ⟨w.heap.size, 0, none⟩ = some (.int .i64 (sumDg pre)) ∧ W.frozen? ⟨w.heap.size, 0, none⟩ = false) ∧ Below w.heap.size w W)
    (fun _ _ _ => False)
    (OwnFrom.and (Own.from (fun s A B row hs hg hr => ⟨cell_kept hs.1 hg hr, (frozen_kept hs.1 hg hr).trans hs.2⟩) _) (ownFrom_below (Nat.le_refl _) (by simp; omega)))
    (fun _ _ _ _ _ hs _ _ => hs)
    ⟨⟨cell_alloc_l _ (cell_alloc_l _ hs.1), frozen_alloc_l _ (cell_alloc_l _ hs.1) (frozen_alloc_l _ hs.1 hs.2)⟩, hB0⟩
    (fun d => { tmps := #[.int .i64 x, .int .i64 b, undef, undef, .int .i64 0, .pointer (some ⟨w.heap.size, 0, none⟩), .int .i64 (d.1 : Int), .int .i64 x, .int .i64 b, .bool true, .bool false, .int .i64 x, .int .i64 b,
      .func (.func 85) #[] #[.pointer (some ⟨w.heap.size + 1, 0, none⟩), .pointer (some ⟨w.heap.size + 1 + 1, 0, none⟩)], .int .i64 (d.1 : Int), undef, undef, undef, undef], defers := [] }) ?assign ?body ?done ?stop
  case assign =>
    intro l d W K hK
    gi_wp2
    exact hK
  case body =>
    rintro l pre d W ⟨⟨hc, hf⟩, hB⟩ hlen
    have hd := d.2
    have hsum := sumDg_le pre
    gi_wp2
    exact ⟨KeepsOthers.setCell _ _ _, (Kept.refl W).setCell (p := ⟨w.heap.size, 0, none⟩) (.inl (by simp)) _, ⟨by rw [sumDg_snoc]; exact World.cell?_setCell_same' _ _ _ (by rw [hc]; rfl), by rw [World.frozen?_setCell]; exact hf⟩, hB.setCell (p := ⟨w.heap.size, 0, none⟩) (Nat.le_refl _) _⟩
  case done =>
    rintro D ys W hD rfl ⟨⟨hc, _⟩, hB⟩ hK
    have hv : sumDg (Pl.digsF b x) = Pl.sumD b x := by rw [sumDg, Pl.digsF_val hb hb', Pl.sumD]
    rw [hv] at hc
    clear hv
    gi_wp2
    refine ⟨by simp, .inl ⟨_, _, rfl, run_takeDeferred hK, ?_⟩⟩
    exact ⟨_, results_tmp rfl _ _ _, rfl, hB.trans (belowK_b (w := w) (Nat.le_refl _) W D _ _ (by simp at hD; omega) hK rfl rfl)⟩
  case stop =>
    rintro D c pre W _ _ h _
    exact h.elim

set_option maxHeartbeats 400000 in
theorem implSumOf (n b : Int) (w : World) :
    Calls Try.prog 64 #[.int .i64 n, .int .i64 b] w fun e W' => e = .returned (.int .i64 (Pl.sumI n b)) ∧ Below w.heap.size w W' := by
  by_cases h : Pl.okB n b = true
  · obtain ⟨x, k, rfl, rfl, h1, h2, h3⟩ := Pl.okB_nat h
    rw [Pl.sumI_yes x k h]
    exact sumOfYes x k h1 h2 h3 w
  · rw [Pl.sumI_no h]
    go_enter Try.func64, Try.ntmps64
    go_wp2_with (go_at_call 39; refine (hasDigits _ _ _).mono ?_; rintro e w' ⟨rfl, rfl⟩)
    go_ret
    exact ⟨rfl, Below.refl _ _⟩

set_option maxHeartbeats 400000 in
theorem specSumYes (x b : Nat) (hb : 2 ≤ b) (hb' : b ≤ 16) (hx : x ≤ 1000000000) (w : World) :
    Calls Try.prog 70 #[.int .i64 x, .int .i64 b] w fun e w' => e = .returned (.int .i64 (Pl.sumD b x)) ∧ w = w' := by
  have hB : Pl.baseB b = true := by rw [Pl.baseB_iff]; omega
  have hne : ((b : Int) == 0) = false := by simp; omega
  have hle := Pl.sumD_le hb x
  go_enter Try.func70, Try.ntmps70
  go_wp2_with (first | (go_at_call 40; refine (specIn _ _ _ _).mono ?_; rintro e w' ⟨rfl, rfl⟩) | (go_at_call 41; refine (specBaseOk _ _).mono ?_; rintro e w' ⟨rfl, rfl⟩))
  go_loop [5, 6] (fun s l => ∃ (t left : Nat), t + Pl.sumD b left = Pl.sumD b x ∧ left ≤ x ∧ s = .int .i64 t ∧ l = .int .i64 left) (fun _ l => (intOf l).toNat)
  case atStart => exact ⟨0, x, by omega, by omega, rfl, rfl⟩
  case round =>
    obtain ⟨t, left, ht, hl, rfl, rfl⟩ := hrel
    have hst := Pl.sumD_step hb left
    have h0 : 0 ≤ (left : Int) / (b : Int) := Int.ediv_nonneg (by omega) (by omega)
    have h0' : 0 ≤ (left : Int) % (b : Int) := Int.emod_nonneg _ (by omega)
    have hm : left % b + Pl.sumD b (left / b) = Pl.sumD b left := hst.symm
    have hm' : (t : Int) + (left : Int) % (b : Int) ≤ 1000000000 := show (t : Int) + ((left % b : Nat) : Int) ≤ 1000000000 by omega
    by_cases hlt : 0 < left
    · have h1 : (left : Int) / (b : Int) < (left : Int) := show ((left / b : Nat) : Int) < (left : Int) from Int.ofNat_lt.2 (Nat.div_lt_self (by omega) (by omega))
      have HT := Lib.hid ht
      have HM := Lib.hid hm
      clear ht hm hst
      go_wp2
      go_round
      case rel => exact ⟨t + left % b, left / b, by rw [← HT.out, ← HM.out]; omega, Nat.le_trans (Nat.div_le_self _ _) hl, by simp, rfl⟩
      case measure =>
        have := Nat.div_lt_self (n := left) (k := b) (by omega) (by omega)
        simp [intOf]; omega
    · obtain rfl : left = 0 := by omega
      have e0 : Pl.sumD b 0 = 0 := Pl.sumD_lt (by omega)
      rw [e0] at ht
      have HT := Lib.hid ht
      clear ht hm hst e0 h0 h0' hm'
      go_wp2
      go_ret
      exact ⟨ret_int (by rw [← HT.out]; simp), rfl⟩

set_option maxHeartbeats 400000 in
theorem specSumOf (n b : Int) (w : World) :
    Calls Try.prog 70 #[.int .i64 n, .int .i64 b] w fun e w' => e = .returned (.int .i64 (Pl.sumI n b)) ∧ w = w' := by
  by_cases h : Pl.okB n b = true
  · obtain ⟨x, k, rfl, rfl, h1, h2, h3⟩ := Pl.okB_nat h
    rw [Pl.sumI_yes x k h]
    exact specSumYes x k h1 h2 h3 w
  · rw [Pl.sumI_no h]
    by_cases hn : (decide (0 ≤ n) && decide (n ≤ 1000000000)) = true
    · have hB : Pl.baseB b = false := by cases hb : Pl.baseB b <;> simp_all [Pl.okB]
      go_enter Try.func70, Try.ntmps70
      go_wp2_with (first | (go_at_call 40; refine (specIn _ _ _ _).mono ?_; rintro e w' ⟨rfl, rfl⟩) | (go_at_call 41; refine (specBaseOk _ _).mono ?_; rintro e w' ⟨rfl, rfl⟩))
      all_goals
        go_ret
        exact ⟨rfl, rfl⟩
    · have hn' : (decide (0 ≤ n) && decide (n ≤ 1000000000)) = false := by simpa using hn
      go_enter Try.func70, Try.ntmps70
      go_wp2_with (first | (go_at_call 40; refine (specIn _ _ _ _).mono ?_; rintro e w' ⟨rfl, rfl⟩) | (go_at_call 41; refine (specBaseOk _ _).mono ?_; rintro e w' ⟨rfl, rfl⟩))
      all_goals
        go_ret
        exact ⟨rfl, rfl⟩

end Go.Proofs.Ytakkjlcnfkklpaa
