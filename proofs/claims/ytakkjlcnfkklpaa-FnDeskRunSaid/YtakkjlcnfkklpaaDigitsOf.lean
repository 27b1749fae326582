/-
  l1Digits, reversed, DigitsOf, LongOf, alive; the exact laws of DigitsOf and LongOf.
-/
import Derived.Test.YtakkjlcnfkklpaaList
import Derived.Test.YtakkjlcnfkklpaaSumOf
import Derived.Deep.AppendLies
import Derived.Deep.RegionLaw
import Derived.OwnWalk
import Derived.Maps.AppendAt
namespace Go.Proofs.Ytakkjlcnfkklpaa
open Go.RowKit Go.Shelf

theorem info_int : (Try.prog.info? 3).map (fun i => (i.zero, i.size, i.bytes)) = some (some (.int .i64 0), 1, 8) := by kernel_rfl

/-- A call that hands back a new list of integers. -/
def ListPost (w : World) (xs : List Int) (e : Ending) (w' : World) : Prop := ∃ v, e = .returned v ∧ Row w.heap.size w' v xs ∧ Below w.heap.size w w'

theorem row_snoc {base : Nat} {w : World} {v : Value} {xs : List Int} {q : Int} (h : w.ownsRow base 3 1 v (xs.length + 1) (xs.map (Value.int .i64) ++ [.int .i64 q])) : Row base w v (xs ++ [q]) := by
  unfold Row; simpa using h

theorem below_append {B : Nat} {w w1 w2 : World} {e : TypeId} {size : Nat} {v : Value} {n : Nat} {xs : List Value} (h : Below B w w1) (hown : w1.ownsRow B e size v n xs) (hg : w1.grownBy w2 v.ownBlock) (hB : B ≤ w.heap.size := by exact Nat.le_refl _) : Below B w w2 :=
  h.grown hg (Nat.le_trans hB h.size) fun k e => (hown.lt k e).1

theorem row_one (w : World) (q : Int) : Row w.heap.size (w.alloc (.cells #[.int .i64 q] 3)) (.slice (some ⟨w.heap.size, 0, none⟩) 1 1) [q] :=
  World.ownsRow_lit w #[.int .i64 q] 1 (Nat.le_refl _) (by unfold maxLen; omega) (by simp)

theorem rev_step (xs : List Int) (k : Nat) (h : k < xs.length) : xs.reverse.take (k + 1) = xs.reverse.take k ++ [xs[xs.length - 1 - k]?.getD 0] := by
  rw [List.take_succ_eq_append_getElem (by simpa using h)]
  simp only [List.getElem_reverse]
  rw [List.getElem?_eq_getElem (by omega)]
  rfl

set_option maxHeartbeats 1000000 in
theorem reversed (v : Value) (xs : List Int) (w : World) (hv : Ints w v xs) (hx : xs.length ≤ 1000000000) :
    Calls Try.prog 80 #[v] w (ListPost w xs.reverse) := by
  obtain ⟨a, cap, rfl, ha⟩ := hv
  obtain ⟨i0, hi0, hz0, hz1, hz2⟩ := info_parts info_int
  obtain ⟨n, hn⟩ : ∃ n, xs.length = n := ⟨_, rfl⟩
  have HN := Lib.hid hn
  rw [hn] at ha hx ⊢
  clear hn
  go_enter Try.func80, Try.ntmps80
  go_wp2_with (at_make; refine wpList_make_own _ rfl _ _ 23 rfl w.heap.size 3 i0 (.int .i64 0) 1 Try.underlying23 hi0 hz0 hz1 .i64 .i64 _ n rfl rfl rfl (by rw [hz2]; omega) (by unfold maxLen; omega) (Nat.le_refl _) ?_; intro w0 hown0 hgrow0)
  have hb0 : Below w.heap.size w w0 := (Below.refl _ w).grown hgrow0 (Nat.le_refl _) (fun k e => by cases e)
  go_loopw [3, 10] (fun v' i wr => ∃ (k : Nat) (vv : Value), vv = v' ∧ k ≤ n ∧ i = .int .i64 k ∧ Row w.heap.size wr v' (xs.reverse.take k) ∧ Below w.heap.size w wr) (fun _ i _ => n - (intOf i).toNat)
  case atStart => exact ⟨0, _, rfl, Nat.zero_le _, rfl, hown0, hb0⟩
  case round =>
    obtain ⟨k, vv, rfl, hk, rfl, hr, hbl⟩ := hrel
    by_cases hlt : k < n
    · obtain ⟨b, off, rfl, hc⟩ := ha (n - 1 - k) (by omega)
      have hc' : wr.cell? ⟨b, off + (n - 1 - k), none⟩ = some (.int .i64 (xs[n - 1 - k]?.getD 0)) := (hbl.cell (p := ⟨b, off + (n - 1 - k), none⟩) (World.block_lt_of_cell? _ _ hc)).trans hc
      have HS := Lib.hid (rev_step xs k (by have := HN.out; omega))
      rw [HN.out] at HS
      have hlen : (xs.reverse.take k).length = k := by have := HN.out; simp; omega
      generalize hL : xs.reverse.take k = L at *
      generalize xs[n - 1 - k]?.getD 0 = q at *
      have hsz := hbl.size
      have hr' : wr.ownsRow w.heap.size 3 1 vv L.length (L.map (Value.int .i64)) := hr
      clear ha hc hb0 hown0 hgrow0 hL hr
      go_wp2_with (at_builtin; refine wpList_append_own _ rfl _ _ 23 rfl w.heap.size 3 i0 (.int .i64 0) 1 8 Try.underlying23 hi0 hz0 hz1 hz2 rfl (by decide) _ _ _ rfl (hr'.alloc _) ⟨wr.heap.size, 0, none⟩ 1 1 [.int .i64 q] rfl rfl (cell_one_new _ _ _) (by simp [Value.oneCell']) (by unfold maxLen; omega) (by omega) (by simp; omega) ?_; intro v2 w1 hown1 hgrow1 _)
      go_roundw
      case rel => exact ⟨k + 1, _, rfl, by omega, by go_num, by rw [HS.out]; exact row_snoc hown1, below_append (hbl.alloc hbl.size _) (hr'.alloc _) hgrow1⟩
      case measure => simp [intOf]; omega
    · obtain rfl : k = n := by omega
      have HR := Lib.hid hr
      have hfull : xs.reverse.take k = xs.reverse := List.take_of_length_le (by have := HN.out; simp; omega)
      have HF := Lib.hid hfull
      obtain ⟨a', cap', hv'⟩ := hr.shape
      clear ha hb0 hown0 hgrow0 hr hfull
      go_wp2
      go_ret
      exact ⟨_, rfl, by rw [← HF.out]; exact HR.out, hbl⟩

end Go.Proofs.Ytakkjlcnfkklpaa

namespace Go.Proofs.Ytakkjlcnfkklpaa
open Go.RowKit Go.Shelf

attribute [local go_sem] Oper.semAt_some

theorem row_empty (w : World) : Row w.heap.size (w.alloc (.cells #[] 3)) (.slice (some ⟨w.heap.size, 0, none⟩) 0 0) [] :=
  World.ownsRow_lit w #[] 0 (Nat.le_refl _) (by unfold maxLen; omega) (by simp)

/-- okB by its two halves, as spec's functions ask them. -/
theorem okB_halves (n b : Int) : Pl.okB n b = ((decide (0 ≤ n) && decide (n ≤ 1000000000)) && Pl.baseB b) := by simp [Pl.okB, Bool.and_comm]

/-- Behind 'out = append(out, ..)' in a loop over the iterator, the rows from n₁ on, the box below. -/
theorem appended' {W w1 : World} {n₁ B : Nat} {t e : TypeId} {v v' : Value} {k m : Nat} {xs ys : List Value} {tmp : Obj}
    (hv : Boxed W B t v) (hte : t ≠ e) (hrow : W.ownsRow n₁ e 1 v k xs) (hn₁ : n₁ ≤ W.heap.size) (hB : B < n₁) (hown' : w1.ownsRow n₁ e 1 v' m ys) (hgrow : (W.alloc tmp).grownBy w1 v.ownBlock) :
    Boxed w1 B t v ∧ Boxed (w1.setCell ⟨B, 0, none⟩ v') B t v' ∧ (w1.setCell ⟨B, 0, none⟩ v').ownsRow n₁ e 1 v' m ys ∧ KeepsOthers W (w1.setCell ⟨B, 0, none⟩ v') ∧ Below B W (w1.setCell ⟨B, 0, none⟩ v') ∧ Kept (B + 1) n₁ W (w1.setCell ⟨B, 0, none⟩ v') := by
  have hv1 : Boxed w1 B t v := (hv.alloc tmp).kept hgrow (hv.not_row hte hrow)
  refine ⟨hv1, hv1.set v', hown'.kept (grownBy_setCell' w1 B v') (.inr (hv1.not_row hte hown').symm), ?_, ?_, ?_⟩
  · refine ((KeepsOthers.alloc W tmp).trans (KeepsOthers.of_grownBy hgrow fun j o ej hj => ?_)).trans (KeepsOthers.setCell _ _ _)
    rcases (hrow.alloc tmp).2 with ⟨rfl, _⟩ | ⟨g, cap, cur, rfl, _, hgb, _⟩
    · simp [Value.ownBlock] at ej
    · obtain rfl : g = j := by simpa [Value.ownBlock] using ej
      rw [hgb] at hj; cases hj; rfl
  · refine (((Below.refl B W).alloc (by omega) tmp).grown hgrow (by simp; omega) fun j ej => ?_).setCell (p := ⟨B, 0, none⟩) (Nat.le_refl _) v'
    have := (hrow.lt j ej).1; omega
  · intro k h1 h2
    rw [Below.heap_setCell _ _ _ _ (by simp; omega), hgrow.block k (by simp; omega) (fun e => by have := (hrow.lt k e.symm).1; omega)]
    exact Below.heap_alloc _ _ _ (by omega)

/-- What has come, as integers. -/
def intsDg (l : List Pl.Dg) : List Int := l.map fun d => (d.1 : Int)
theorem intsDg_len (l : List Pl.Dg) : (intsDg l).length = l.length := by simp [intsDg]

theorem rev_digs {b x : Nat} (hb : 2 ≤ b) (hb' : b ≤ 16) : (intsDg (Pl.digsF b x)).reverse = Pl.digI b x := by
  have h : intsDg (Pl.digsF b x) = (Pl.digsR b x).map fun d : Nat => (d : Int) := by
    rw [← Pl.digsF_val (n := x) hb hb']; simp [intsDg]
  rw [h, Pl.digI, Pl.digs, List.map_reverse]

theorem _root_.Go.World.ownsRow.mono' {w : World} {base base' : Nat} {e : TypeId} {size : Nat} {v : Value} {n : Nat} {xs : List Value} (h : w.ownsRow base e size v n xs) (hb : base' ≤ base) : w.ownsRow base' e size v n xs := by
  rcases h with ⟨h1, h2 | ⟨g, cap, cur, hv, hg, r⟩⟩
  · exact ⟨h1, .inl h2⟩
  · exact ⟨h1, .inr ⟨g, cap, cur, hv, Nat.le_trans hb hg, r⟩⟩

set_option maxRecDepth 100000 in
set_option maxHeartbeats 2000000 in
theorem digitsOfYes (x b : Nat) (hb : 2 ≤ b) (hb' : b ≤ 16) (hx : x ≤ 1000000000) (w : World) :
    Calls Try.prog 81 #[.int .i64 x, .int .i64 b] w (ListPost w (Pl.digI b x)) := by
  refine (callsIn_wide (n := 5)).1 ?_
  have h1 : 1 ≤ 5 := by omega
  have hok : Pl.okB x b = true := by rw [Pl.okB_iff]; omega
  have hN := Pl.digsR_len30 hb hx
  obtain ⟨i0, hi0, hz0, hz1, hz2⟩ := info_parts info_int
  refine callsIn_of_wp_marks Try.func81 rfl trivial ?_ rfl
  simp only [Try.ntmps81, List.size_toArray, List.length_cons, List.length_nil, Nat.reduceAdd, Nat.reduceSub, Array.replicate_succ, Array.replicate_zero, List.push_toArray, List.append_toArray, List.nil_append, List.cons_append]
  gi_wp2_with (first | (refine ⟨trivial, ?_⟩; gi_at_call 39; refine (callsIn_wide.2 (hasDigits _ _ _)).mono ?_; rintro e w' ⟨rfl, rfl⟩) | (refine ⟨trivial, ?_⟩; gi_at_call 76; refine (lastFirst Fence.wide (5 - 1) trivial rfl _ _ _).mono ?_; rintro e w' ⟨rfl, rfl⟩))
  have b0 := Boxed.new w 23 (.slice none 0 0)
  have c1 := cell_new_l (w.alloc (.cells #[.slice none 0 0] 23)) (.int .i64 x) 3
  have c2 := cell_new_l ((w.alloc (.cells #[.slice none 0 0] 23)).alloc (.cells #[.int .i64 x] 3)) (.int .i64 b) 3
  simp only [World.size_alloc] at c1 c2
  have hB0 : Below w.heap.size w (((w.alloc (.cells #[.slice none 0 0] 23)).alloc (.cells #[.int .i64 x] 3)).alloc (.cells #[.int .i64 b] 3)) := (((Below.refl _ w).alloc (Nat.le_refl _) _).alloc (by simp) _).alloc (by simp; omega) _
  obtain ⟨W0, hW0⟩ : ∃ W0, (((w.alloc (.cells #[.slice none 0 0] 23)).alloc (.cells #[.int .i64 x] 3)).alloc (.cells #[.int .i64 b] 3)) = W0 := ⟨_, rfl⟩
  have hsz : W0.heap.size = w.heap.size + 3 := by rw [← hW0]; simp
  have d1 : W0.cell? ⟨w.heap.size + 1, 0, none⟩ = some (.int .i64 x) := by rw [← hW0]; exact cell_alloc_l _ c1.1
  have d2 : W0.cell? ⟨w.heap.size + 1 + 1, 0, none⟩ = some (.int .i64 b) := by rw [← hW0]; exact c2.1
  have d0 : Boxed W0 w.heap.size 23 (.slice none 0 0) := by rw [← hW0]; exact (b0.alloc _).alloc _
  rw [hW0] at hB0 ⊢
  clear hW0 b0 c1 c2
  have HSZ := Lib.hid hsz
  have hsz' : w.heap.size + 3 ≤ W0.heap.size := by omega
  clear hsz
  refine wpIn_rangeFunc_ownF (F := Fence.wide) rfl h1 (gf := 85) (lb := #[.pointer (some ⟨w.heap.size + 1, 0, none⟩), .pointer (some ⟨w.heap.size + 1 + 1, 0, none⟩)]) rfl trivial (enters_of Try.func85 (by kernel_rfl) rfl)
    (lastFirst_stops Fence.wide (5 - 1) trivial rfl (by omega) (w.heap.size + 1) x b hb hb' hx W0 (by omega) d1 d2) Kept.trans (kept_b (by omega)) (Below.refl _ _) (fun _ => rfl)
    (fun pre W => (∃ v, Boxed W w.heap.size 23 v ∧ W.ownsRow (w.heap.size + 3) 3 1 v pre.length ((intsDg pre).map (Value.int .i64)) ∧ True) ∧ Below w.heap.size W0 W)
    (fun _ _ _ => False)
    (OwnFrom.and (Own.from (holdsRow_own (w.heap.size + 3) w.heap.size 23 3 1 (fun pre : List Pl.Dg => pre.length) (fun pre => (intsDg pre).map (Value.int .i64)) (fun _ _ => True)) _) (ownFrom_below hB0.size (by omega)))
    (fun _ _ _ _ _ hs _ _ => hs)
    ⟨⟨_, d0, World.ownsRow_nil _ _ _ _, trivial⟩, Below.refl _ _⟩
    (fun d => { tmps := #[.int .i64 x, .int .i64 b, undef, undef, .slice none 0 0, .pointer (some ⟨w.heap.size, 0, none⟩), .int .i64 (d.1 : Int), .int .i64 x, .int .i64 b, .bool true, .bool false, .int .i64 x, .int .i64 b,
      .func (.func 85) #[] #[.pointer (some ⟨w.heap.size + 1, 0, none⟩), .pointer (some ⟨w.heap.size + 1 + 1, 0, none⟩)], .int .i64 (d.1 : Int), undef, undef, undef, undef, undef, undef], defers := [] }) ?assign ?body ?done ?stop
  case assign =>
    intro l d W K hK
    gi_wp2
    exact hK
  case body =>
    rintro l pre d W ⟨⟨v, hv, hrow, _⟩, hB⟩ hlen
    have hd := d.2
    have hc := hv.cell
    have hBs := hB.size
    gi_wp2_with (gi_at_builtin; refine wpListIn_append_own _ rfl _ _ 23 rfl (w.heap.size + 3) 3 i0 (.int .i64 0) 1 8 Try.underlying23 hi0 hz0 hz1 hz2 rfl (by decide) _ _ _ rfl (hrow.alloc _) ⟨W.heap.size, 0, none⟩ 1 1 [.int .i64 (d.1 : Int)] rfl rfl (cell_one_new _ _ _) (by simp [Value.oneCell']) (by unfold maxLen; omega) (by omega) (by simp; omega) ?_; intro v' w1 hown' hgrow _; obtain ⟨g', cap', rfl⟩ := ownsRow_succ hown'; obtain ⟨hv1, hv2, hr2, hk2, hb2, hp2⟩ := appended' hv (by decide) hrow (by omega) (by omega) hown' hgrow; have hc1 := hv1.cell; have hf1 := hv1.frozen)
    exact ⟨hk2, hp2, ⟨_, hv2, by simpa [intsDg] using hr2, trivial⟩, hB.trans (hb2.mono (Nat.le_refl _))⟩
  case done =>
    rintro D ys W hD rfl ⟨⟨v, hv, hrow, _⟩, hB⟩ hK
    have hc := hv.cell
    have hrow' : Row (w.heap.size + 3) W v (intsDg (Pl.digsF b x)) := by unfold Row; rw [intsDg_len]; exact hrow
    have HR := Lib.hid (reversed v _ W hrow'.ints (by rw [intsDg_len, Pl.digsF_len]; omega))
    rw [rev_digs hb hb'] at HR
    have hBW := hB0.trans hB
    clear hrow hrow' hv
    gi_wp2_with (refine ⟨trivial, ?_⟩; gi_at_call 80; refine (callsIn_wide.2 HR.out).mono ?_; rintro e W2 ⟨v2, rfl, hr2, hb2⟩)
    have hK' : W2.heap[D]? = some (.deferred (some [])) := (hb2.block D (lt_of_heap hK)).trans hK
    refine ⟨by simp, .inl ⟨_, _, rfl, run_takeDeferred hK', ?_⟩⟩
    exact ⟨_, results_tmp rfl _ _ _, v2, rfl, (ownsRow_putObj hr2 _ hK' rfl).mono' (by have := hB.size; have := hB0.size; omega), (hBW.trans (hb2.mono hBW.size)).trans (belowK_b (w := w) (Nat.le_refl _) W2 D _ _ (by omega) hK' rfl rfl)⟩
  case stop =>
    rintro D c pre W _ _ h _
    exact h.elim

set_option maxHeartbeats 400000 in
theorem implDigitsOf (n b : Int) (w : World) : Calls Try.prog 81 #[.int .i64 n, .int .i64 b] w (ListPost w (Pl.digA n b)) := by
  by_cases h : Pl.okB n b = true
  · obtain ⟨x, k, rfl, rfl, h1, h2, h3⟩ := Pl.okB_nat h
    rw [Pl.digA_yes x k h]
    exact digitsOfYes x k h1 h2 h3 w
  · rw [Pl.digA_no h]
    go_enter Try.func81, Try.ntmps81
    go_wp2_with (go_at_call 39; refine (hasDigits _ _ _).mono ?_; rintro e w' ⟨rfl, rfl⟩)
    go_ret
    exact ⟨_, rfl, World.ownsRow_nil _ _ _ _, Below.refl _ _⟩

/-- How many digits, as the functions answer: -1 for others. -/
def longI (n b : Int) : Int := if Pl.okB n b = true then ((Pl.digA n b).length : Int) else -1

theorem longI_nat (x k : Nat) (h : Pl.okB x k = true) : longI x k = ((Pl.digsR k x).length : Int) := by
  rw [longI, if_pos h, Pl.digA_yes x k h, Pl.digI_len]

set_option maxHeartbeats 400000 in
theorem alive (w : World) : Calls Try.prog 14 #[] w fun e w' => e = .returned (.bool true) ∧ w = w' := by
  go_enter Try.func14, Try.ntmps14
  go_wp2_with (go_at_call 42; refine (implBaseOk _ _).mono ?_; rintro e w' ⟨rfl, rfl⟩)
  go_ret
  exact ⟨ret_bool (by decide), rfl⟩

theorem alive_q (w : World) : Calls Try.prog 14 #[] w fun e w' => e = .returned (.bool true) ∧ w' = w := (alive w).mono fun _ _ h => ⟨h.1, h.2.symm⟩

end Go.Proofs.Ytakkjlcnfkklpaa

namespace Go.Proofs.Ytakkjlcnfkklpaa
open Go.RowKit

theorem eqL_self (xs : List Int) : eqL xs xs = true := by simp [eqL]

theorem Ints.kept {w w' : World} {v : Value} {xs : List Int} (h : Ints w v xs) {B : Nat} (hB : w.heap.size ≤ B) (hb : Below B w w') : Ints w' v xs := h.below (hb.mono hB)

end Go.Proofs.Ytakkjlcnfkklpaa
