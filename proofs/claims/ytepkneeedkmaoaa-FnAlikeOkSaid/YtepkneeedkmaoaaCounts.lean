/-
  impl: the method counts of a width: how often each digit comes, in an array.
-/
import Derived.Test.YtepkneeedkmaoaaWide
import Derived.Test.YtepkneeedkmaoaaSumOf
import Derived.Laws.EntriesVeiled
import Derived.Laws.Rows
namespace Go.Proofs.Ytepkneeedkmaoaa
open Go.RowKit Go.Shelf

attribute [local go_sem] Oper.semAt_some

namespace Pl
/-- How often each of 16 digits comes in a row. -/
def cntL (l : List Nat) : List Int := (List.range 16).map fun d => ((l.count d : Nat) : Int)
theorem cntL_len (l : List Nat) : (cntL l).length = 16 := by simp [cntL]
theorem cntL_get (l : List Nat) {j : Nat} (h : j < 16) : (cntL l)[j]?.getD 0 = ((l.count j : Nat) : Int) := by simp [cntL, h]
theorem cntL_snoc (l : List Nat) {d : Nat} (h : d < 16) : (cntL l).set d ((cntL l)[d]?.getD 0 + 1) = cntL (l ++ [d]) := by
  rw [cntL_get l h]
  apply List.ext_getElem
  · simp [cntL]
  · intro i h1 h2
    simp only [cntL, List.length_set, List.length_map, List.length_range] at h1
    simp only [cntL, List.getElem_set, List.getElem_map, List.getElem_range, List.count_append]
    by_cases hi : d = i
    · subst hi; simp
    · rw [if_neg hi]; simp [hi]
/-- The counts of a number of a width. -/
def cntsL (b w n : Nat) : List Int := (List.range 16).map fun d => ((cntW b w n d : Nat) : Int)
theorem cntsL_len (b w n : Nat) : (cntsL b w n).length = 16 := by simp [cntsL]
theorem cntsL_get (b w n : Nat) {j : Nat} (h : j < 16) : (cntsL b w n)[j]?.getD 0 = ((cntW b w n j : Nat) : Int) := by simp [cntsL, h]

theorem digW_zero (b : Nat) : ∀ k, digW b k 0 = List.replicate k 0 := by
  intro k
  induction k with
  | zero => rfl
  | succ k ih => rw [digW, Nat.zero_mod, Nat.zero_div, ih, List.replicate_succ]

theorem digW_digsR {b : Nat} (hb : 2 ≤ b) (k n : Nat) : digW b ((digsR b n).length + k) n = digsR b n ++ List.replicate k 0 := by
  refine digInd hb (P := fun n => digW b ((digsR b n).length + k) n = digsR b n ++ List.replicate k 0) ?_ ?_ n
  · intro n h
    rw [digsR_lt h, List.length_singleton, Nat.add_comm, digW, Nat.mod_eq_of_lt h, Nat.div_eq_of_lt h, digW_zero]; rfl
  · intro n h ih
    rw [digsR_ge hb h, List.length_cons, show (digsR b (n / b)).length + 1 + k = (digsR b (n / b)).length + k + 1 by omega, digW, ih]; rfl

theorem cntsL_eq {b v n : Nat} (hb : 2 ≤ b) (h : (digsR b n).length ≤ v) : (cntL (digsR b n)).set 0 ((cntL (digsR b n))[0]?.getD 0 + ((v : Int) - ((digsR b n).length : Int))) = cntsL b v n := by
  obtain ⟨k, rfl⟩ : ∃ k, v = (digsR b n).length + k := ⟨v - (digsR b n).length, by omega⟩
  rw [cntL_get _ (by omega)]
  apply List.ext_getElem
  · simp [cntL, cntsL]
  · intro i h1 h2
    simp only [cntL, cntsL, cntW, digW_digsR hb, List.getElem_set, List.getElem_map, List.getElem_range, List.count_append, List.count_replicate]
    by_cases hi : 0 = i
    · subst hi; simp; omega
    · rw [if_neg hi]
      have : (0 == i) = false := by simpa using hi
      simp [this]
end Pl

/-- An array of numbers in a block. -/
def Arr (W : World) (B : Nat) (c : List Int) : Prop := W.heap[B]? = some (.cells (c.map (Value.int .i64)).toArray 48 (0, 0))

theorem Arr.cell {W : World} {B : Nat} {c : List Int} (h : Arr W B c) {j : Nat} (hj : j < c.length) : W.cell? ⟨B, j, none⟩ = some (.int .i64 (c[j]?.getD 0)) ∧ W.frozen? ⟨B, j, none⟩ = false := by
  unfold Arr at h
  refine ⟨?_, by simp [World.frozen?, h]⟩
  rw [cell_of_row W B j _ _ _ h]
  simp [hj]

theorem Arr.set {W : World} {B : Nat} {c : List Int} (h : Arr W B c) (j : Nat) (q : Int) : Arr (W.setCell ⟨B, j, none⟩ (.int .i64 q)) B (c.set j q) := by
  unfold Arr at *
  rw [setCell_eq_setRow W B j _ _ _ _ h, setRow_heap W B _ _ _ _ h]
  simp [List.map_set]

theorem Arr.other {W : World} {B : Nat} {c : List Int} (h : Arr W B c) {a : Addr} (ha : a.block ≠ B) (u : Value) : Arr (W.setCell a u) B c := by
  unfold Arr at *
  rw [Below.heap_setCell _ _ _ _ (fun e => ha e.symm)]; exact h

theorem Arr.keptG {W W' : World} {B : Nat} {c : List Int} {row : Option Nat} (h : Arr W B c) (hg : W.grownBy W' row) (hr : ∀ r, row = some r → ∃ o : Obj, W.heap[r]? = some o ∧ o.isCells = false) : Arr W' B c := by
  unfold Arr at *
  rw [grownBy_keeps_cells hg hr h rfl]; exact h

theorem Arr.alloc {W : World} {B : Nat} {c : List Int} (h : Arr W B c) (o : Obj) : Arr (W.alloc o) B c := by
  unfold Arr at *
  rw [Below.heap_alloc _ _ _ (lt_of_heap h)]; exact h

theorem Arr.new (W : World) (c : List Int) : Arr (W.alloc (.cells (c.map (Value.int .i64)).toArray 48)) W.heap.size c := heap_alloc_new _ _

theorem below_setRow {B : Nat} {a w : World} (h : Below B a w) {g : Nat} (hg : B ≤ g) (c : Array Value) : Below B a (w.setRow g c) :=
  ⟨h.os, h.tape, h.output, by rw [show (w.setRow g c).heap.size = w.heap.size by simp [World.setRow]]; exact h.size, fun k hk => by rw [setRow_other _ _ _ _ (by omega)]; exact h.block k hk⟩

theorem info_arr16 : (Try.prog.info? 48).map (·.size) = some 16 := by kernel_rfl

theorem wpListIn_load_arr {F : Fence} {n : Nat} {W : World} {ops : Array Oper} {rest : List Oper} {o : Oper} {a : Act} {Q : Exit → Act → World → Prop} (hg : o.guard = none) (x : Operand) (hop : o.op = .load 48 x) {B : Nat} {c : List Int}
    (hx : a.eval x = .pointer (some ⟨B, 0, none⟩)) (hA : Arr W B c) (hl : c.length = 16) (hK : wpListIn F n Try.prog ops Q rest (a.put o.dst (.agg (c.map (Value.int .i64)).toArray)) W) :
    wpListIn F n Try.prog ops Q (o :: rest) a W := by
  refine wpListIn_plain hg fun K hK' => ?_
  have hrun := run_loadVar_row (P := Try.prog) W B 48 48 _ (0, 0) _ hA Try.underlying48 rfl (by rw [info_arr16]; simp [hl])
  unfold Oper.wpIn
  refine ⟨by simp [Oper.about, hop], ?_⟩
  rw [Oper.semAt_plain F _ _ (by rw [hop]; intro c hc'; cases hc')]
  simp only [execOp, hop, hx, Instr.loadAt, Instr.sureAddr, Sem.run_bind, Sem.run_pure, Result.andThen_ok, hrun]
  exact hK' _ _ hK

theorem wpListIn_store_arr {F : Fence} {n : Nat} {W : World} {ops : Array Oper} {rest : List Oper} {o : Oper} {a : Act} {Q : Exit → Act → World → Prop} (hg : o.guard = none) (x y : Operand) (hop : o.op = .store 48 x y) {B : Nat} {c c' : List Int}
    (hx : a.eval x = .pointer (some ⟨B, 0, none⟩)) (hy : a.eval y = .agg (c'.map (Value.int .i64)).toArray) (hA : Arr W B c) (hl : c.length = 16) (hl' : c'.length = 16)
    (hK : wpListIn F n Try.prog ops Q rest (a.put o.dst undef) (W.setRow B (c'.map (Value.int .i64)).toArray)) :
    wpListIn F n Try.prog ops Q (o :: rest) a W := by
  refine wpListIn_plain hg fun K hK' => ?_
  have hrun := run_storeVar_row (P := Try.prog) W B 48 48 _ (c'.map (Value.int .i64)).toArray hA (by rw [info_arr16]; simp [hl']) (by simp [hl, hl']) (by simp [Value.oneCell'])
  unfold Oper.wpIn
  refine ⟨by simp [Oper.about, hop], ?_⟩
  rw [Oper.semAt_plain F _ _ (by rw [hop]; intro c hc'; cases hc')]
  simp only [execOp, hop, hx, hy, Instr.storeAt, Instr.sureAddr, Sem.run_bind, Sem.run_pure, Result.andThen_ok, hrun]
  exact hK' _ _ hK

set_option maxRecDepth 100000 in
set_option maxHeartbeats 2000000 in
theorem widthCounts (x v b : Nat) (h1 : 2 ≤ b) (h2 : b ≤ 16) (h3 : 2 ≤ v) (h4 : v ≤ 6) (hx : x < b ^ v) (w : World) :
    Calls Try.prog 53 #[.agg #[.int .i64 v, .int .i64 b], .int .i64 x] w fun e W' => e = .returned (.agg ((Pl.cntsL b v x).map (Value.int .i64)).toArray) ∧ Below w.heap.size w W' := by
  refine (callsIn_wide (n := 5)).1 ?_
  have h1' : 1 ≤ 5 := by omega
  have hx' : x ≤ 1000000000 := by have := Pl.pow_le24 (b := b) (w := v) h2 h4; omega
  have hN := (Pl.len_iff h1 (w := v) (by omega) x).2 hx
  have HC : Hid ((Pl.cntL (Pl.digsR b x)).set 0 ((Pl.cntL (Pl.digsR b x))[0]?.getD 0 + ((v : Int) - ((Pl.digsR b x).length : Int))) = Pl.cntsL b v x) := Lib.hid (Pl.cntsL_eq h1 hN)
  clear hx
  refine callsIn_of_wp_marks Try.func53 rfl trivial ?_ rfl
  simp only [Try.ntmps53, List.size_toArray, List.length_cons, List.length_nil, Nat.reduceAdd, Nat.reduceSub, Array.replicate_succ, Array.replicate_zero, List.push_toArray, List.append_toArray, List.nil_append, List.cons_append]
  gi_wp2_with (refine ⟨trivial, ?_⟩; gi_at_call 50; refine (lastFirst Fence.wide (5 - 1) trivial rfl _ _ _).mono ?_; rintro e w' ⟨rfl, rfl⟩)
  obtain ⟨Z, hZ⟩ : ∃ Z, Z = Pl.cntL [] := ⟨_, rfl⟩
  have hZ' : #[Value.int IntKind.i64 0, Value.int IntKind.i64 0, Value.int IntKind.i64 0, Value.int IntKind.i64 0, Value.int IntKind.i64 0, Value.int IntKind.i64 0, Value.int IntKind.i64 0, Value.int IntKind.i64 0, Value.int IntKind.i64 0, Value.int IntKind.i64 0, Value.int IntKind.i64 0, Value.int IntKind.i64 0, Value.int IntKind.i64 0, Value.int IntKind.i64 0, Value.int IntKind.i64 0, Value.int IntKind.i64 0] = (Z.map (Value.int .i64)).toArray := by rw [hZ]; rfl
  rw [hZ']
  clear hZ'
  obtain ⟨W0, hW0⟩ : ∃ W0, ((((((w.alloc (.cells #[.int .i64 v, .int .i64 b] 42)).alloc (.cells (Z.map (Value.int .i64)).toArray 48)).alloc (.cells (Z.map (Value.int .i64)).toArray 48)).alloc (.cells #[.int .i64 v] 3)).alloc (.cells #[.int .i64 x] 3)).alloc (.cells #[.int .i64 b] 3)) = W0 := ⟨_, rfl⟩
  have hsz : W0.heap.size = w.heap.size + 6 := by rw [← hW0]; simp
  have hB0 : Below w.heap.size w W0 := by rw [← hW0]; exact ((((((Below.refl _ w).alloc (Nat.le_refl _) _).alloc (by simp) _).alloc (by simp; omega) _).alloc (by simp; omega) _).alloc (by simp; omega) _).alloc (by simp; omega) _
  have a1 : Arr W0 (w.heap.size + 1) Z := by
    rw [← hW0]
    have c := Arr.new (w.alloc (.cells #[.int .i64 v, .int .i64 b] 42)) Z
    simp only [World.size_alloc] at c
    exact (((c.alloc _).alloc _).alloc _).alloc _
  have a2 : Arr W0 (w.heap.size + 1 + 1) Z := by
    rw [← hW0]
    have c := Arr.new ((w.alloc (.cells #[.int .i64 v, .int .i64 b] 42)).alloc (.cells (Z.map (Value.int .i64)).toArray 48)) Z
    simp only [World.size_alloc] at c
    exact ((c.alloc _).alloc _).alloc _
  have d1 : W0.cell? ⟨w.heap.size + 1 + 1 + 1, 0, none⟩ = some (.int .i64 v) ∧ W0.frozen? ⟨w.heap.size + 1 + 1 + 1, 0, none⟩ = false := by
    rw [← hW0]
    have c := cell_new_l (((w.alloc (.cells #[.int .i64 v, .int .i64 b] 42)).alloc (.cells (Z.map (Value.int .i64)).toArray 48)).alloc (.cells (Z.map (Value.int .i64)).toArray 48)) (.int .i64 v) 3
    simp only [World.size_alloc] at c
    exact ⟨cell_alloc_l _ (cell_alloc_l _ c.1), frozen_alloc_l _ (cell_alloc_l _ c.1) (frozen_alloc_l _ c.1 c.2)⟩
  have d2 : W0.cell? ⟨w.heap.size + 1 + 1 + 1 + 1, 0, none⟩ = some (.int .i64 x) := by
    rw [← hW0]
    have c := cell_new_l ((((w.alloc (.cells #[.int .i64 v, .int .i64 b] 42)).alloc (.cells (Z.map (Value.int .i64)).toArray 48)).alloc (.cells (Z.map (Value.int .i64)).toArray 48)).alloc (.cells #[.int .i64 v] 3)) (.int .i64 x) 3
    simp only [World.size_alloc] at c
    exact cell_alloc_l _ c.1
  have d3 : W0.cell? ⟨w.heap.size + 1 + 1 + 1 + 1 + 1, 0, none⟩ = some (.int .i64 b) := by
    rw [← hW0]
    have c := cell_new_l (((((w.alloc (.cells #[.int .i64 v, .int .i64 b] 42)).alloc (.cells (Z.map (Value.int .i64)).toArray 48)).alloc (.cells (Z.map (Value.int .i64)).toArray 48)).alloc (.cells #[.int .i64 v] 3)).alloc (.cells #[.int .i64 x] 3)) (.int .i64 b) 3
    simp only [World.size_alloc] at c
    exact c.1
  rw [hW0]
  clear hW0
  have hsz' : w.heap.size + 6 ≤ W0.heap.size := by omega
  have hZl : Z.length = 16 := by rw [hZ, Pl.cntL_len]
  have a2' : Arr W0 (w.heap.size + 1 + 1) (Pl.cntL (([] : List Pl.Dg).map (·.1))) := by rw [hZ] at a2; exact a2
  clear hsz hZ a2
  refine wpIn_rangeFunc_ownF (F := Fence.wide) rfl h1' (gf := 61) (lb := #[.pointer (some ⟨w.heap.size + 1 + 1 + 1 + 1, 0, none⟩), .pointer (some ⟨w.heap.size + 1 + 1 + 1 + 1 + 1, 0, none⟩)]) rfl trivial (enters_of Try.func61 (by kernel_rfl) rfl)
    (lastFirst_stops Fence.wide (5 - 1) trivial rfl (by omega) (w.heap.size + 1 + 1 + 1 + 1) x b h1 h2 hx' W0 (by omega) d2 d3) Kept.trans (kept_b (by omega)) (Below.refl _ _) (fun _ => rfl)
    (fun pre W => (Arr W (w.heap.size + 1 + 1) (Pl.cntL (pre.map (·.1))) ∧ W.cell? ⟨w.heap.size + 1 + 1 + 1, 0, none⟩ = some (.int .i64 ((v : Int) - (pre.length : Int))) ∧ W.frozen? ⟨w.heap.size + 1 + 1 + 1, 0, none⟩ = false ∧ Arr W (w.heap.size + 1) Z) ∧ Below w.heap.size w W)
    (fun _ _ _ => False)
    (OwnFrom.and (Own.from (fun s A B row hs hg hr => ⟨hs.1.keptG hg hr, cell_kept hs.2.1 hg hr, (frozen_kept hs.2.1 hg hr).trans hs.2.2.1, hs.2.2.2.keptG hg hr⟩) _) (ownFrom_below (Nat.le_refl _) (by omega)))
    (fun _ _ _ _ _ hs _ _ => hs)
    ⟨⟨a2', by rw [d1.1]; simp, d1.2, a1⟩, hB0⟩
    (fun d => { tmps := #[.agg #[.int .i64 v, .int .i64 b], .int .i64 x, .pointer (some ⟨w.heap.size, 0, none⟩), undef, .pointer (some ⟨w.heap.size + 1, 0, none⟩), .pointer (some ⟨w.heap.size + 1 + 1, 0, none⟩), .pointer (some ⟨w.heap.size + 1 + 1 + 1, 0, none⟩), .int .i64 (d.1 : Int), .pointer (some ⟨w.heap.size, 0, none⟩), .int .i64 v, .int .i64 x, .pointer (some ⟨w.heap.size, 1, none⟩), .int .i64 b,
      .func (.func 61) #[] #[.pointer (some ⟨w.heap.size + 1 + 1 + 1 + 1, 0, none⟩), .pointer (some ⟨w.heap.size + 1 + 1 + 1 + 1 + 1, 0, none⟩)], .int .i64 (d.1 : Int), undef, undef, undef, undef, undef, undef, undef, undef, undef, undef, undef, undef, undef], defers := [] }) ?assign ?body ?done ?stop
  case assign =>
    intro l d W K hK
    gi_wp2
    exact hK
  case body =>
    rintro l pre d W ⟨⟨hA, hc, hf, hZr⟩, hB⟩ hlen
    have hd := d.2
    have hS := Pl.cntL_snoc (pre.map (·.1)) hd
    have hcn := hA.cell (j := d.1) (by rw [Pl.cntL_len]; exact hd)
    have hbd : (0 : Int) ≤ (Pl.cntL (pre.map (·.1)))[d.1]?.getD 0 ∧ (Pl.cntL (pre.map (·.1)))[d.1]?.getD 0 ≤ 30 := by
      rw [Pl.cntL_get _ hd]
      have := List.count_le_length (a := d.1) (l := pre.map (·.1))
      rw [List.length_map] at this; omega
    have hpre : (pre.map (·.1)) ++ [d.1] = (pre ++ [d]).map (·.1) := by simp
    rw [hpre] at hS
    generalize (Pl.cntL (pre.map (·.1)))[d.1]?.getD 0 = p at *
    have hS' := hA.set d.1 (p + 1)
    rw [hS] at hS'
    have HS := Lib.hid hS'
    obtain ⟨e1, e2⟩ := hcn
    obtain ⟨q1, q2⟩ := hbd
    have f1 : (W.setCell ⟨w.heap.size + 1 + 1, d.1, none⟩ (.int .i64 (p + 1))).cell? ⟨w.heap.size + 1 + 1 + 1, 0, none⟩ = some (.int .i64 ((v : Int) - (pre.length : Int))) := by
      rw [World.cell?_setCell_other _ _ _ _ (by simp)]; exact hc
    have hlt : (d.1 : Int) < 16 := by omega
    have hd0 : 0 ≤ (d.1 : Int) := by omega
    have hpl : pre.length ≤ 6 := by omega
    have HZ := Lib.hid hZr
    clear hS hS' hpre hA hZr
    gi_wp2
    refine ⟨(KeepsOthers.setCell _ _ _).trans (KeepsOthers.setCell _ _ _), ((Kept.refl W).setCell (p := ⟨w.heap.size + 1 + 1, d.1, none⟩) (.inl (by simp)) _).setCell (p := ⟨w.heap.size + 1 + 1 + 1, 0, none⟩) (.inl (by simp)) _, ⟨HS.out.other (by simp) _, ?_, by rw [World.frozen?_setCell, World.frozen?_setCell]; exact hf, (HZ.out.other (by simp) _).other (by simp; omega) _⟩,
      (hB.setCell (p := ⟨w.heap.size + 1 + 1, d.1, none⟩) (by simp; omega) _).setCell (p := ⟨w.heap.size + 1 + 1 + 1, 0, none⟩) (by simp; omega) _⟩
    rw [World.cell?_setCell_same' _ _ _ (by rw [f1]; rfl)]
    simp; omega
  case done =>
    rintro D ys W hD rfl ⟨⟨hA, hc, hf, hZr⟩, hB⟩ hK
    rw [Pl.digsF_val h1 h2] at hA
    rw [Pl.digsF_len] at hc
    have hbd : (0 : Int) ≤ (Pl.cntL (Pl.digsR b x))[0]?.getD 0 ∧ (Pl.cntL (Pl.digsR b x))[0]?.getD 0 ≤ 6 := by
      rw [Pl.cntL_get _ (by omega)]
      have := List.count_le_length (a := 0) (l := Pl.digsR b x)
      omega
    obtain ⟨e1, e2⟩ := hA.cell (j := 0) (by rw [Pl.cntL_len]; omega)
    have HA := Lib.hid (hA.set 0 ((Pl.cntL (Pl.digsR b x))[0]?.getD 0 + ((v : Int) - ((Pl.digsR b x).length : Int))))
    rw [HC.out] at HA
    have hCl := Pl.cntsL_len b v x
    obtain ⟨C, hCe⟩ : ∃ C, Pl.cntsL b v x = C := ⟨_, rfl⟩
    have HEQ := Lib.hid hCe
    rw [hCe] at HA hCl
    clear hCe HC
    generalize (Pl.cntL (Pl.digsR b x))[0]?.getD 0 = p at *
    obtain ⟨a, ha⟩ : ∃ a, (v : Int) - ((Pl.digsR b x).length : Int) = a := ⟨_, rfl⟩
    have ha2 : 0 ≤ a ∧ a ≤ 6 := by omega
    rw [ha] at hc HA
    have HS := Lib.hid (hZr.other (a := ⟨w.heap.size + 1 + 1, 0, none⟩) (by simp) (.int .i64 (p + a)))
    have hrow : (((W.setCell ⟨w.heap.size + 1 + 1, 0, none⟩ (.int .i64 (p + a))).setRow (w.heap.size + 1) (C.map (Value.int .i64)).toArray)).heap[w.heap.size + 1]? = some (.cells (C.map (Value.int .i64)).toArray 48 (0, 0)) := setRow_heap _ _ _ _ _ _ (hZr.other (a := ⟨w.heap.size + 1 + 1, 0, none⟩) (by simp) (.int .i64 (p + a)))
    have HR := Lib.hid hrow
    obtain ⟨q1, q2⟩ := hbd
    obtain ⟨q3, q4⟩ := ha2
    have HL := Lib.hid hZl
    have HCL := Lib.hid hCl
    clear hrow hA hZr ha hN hZl hCl
    gi_wp2_with (first | (refine wpListIn_load_arr rfl (.tmp 5) rfl rfl HA.out HCL.out ?_) | (refine wpListIn_store_arr rfl (.tmp 4) (.tmp 27) rfl rfl rfl HS.out HL.out HCL.out ?_))
    have hK' : ((W.setCell ⟨w.heap.size + 1 + 1, 0, none⟩ (.int .i64 (p + a))).setRow (w.heap.size + 1) (C.map (Value.int .i64)).toArray).heap[D]? = some (Obj.deferred (some [])) := by
      rw [setRow_other _ _ _ _ (by omega), Below.heap_setCell _ _ _ _ (by simp; omega)]; exact hK
    have hB2 : Below w.heap.size w ((W.setCell ⟨w.heap.size + 1 + 1, 0, none⟩ (.int .i64 (p + a))).setRow (w.heap.size + 1) (C.map (Value.int .i64)).toArray) := below_setRow (hB.setCell (p := ⟨w.heap.size + 1 + 1, 0, none⟩) (by simp; omega) _) (by omega) _
    refine ⟨by simp, .inl ⟨_, _, rfl, run_takeDeferred hK', ?_⟩⟩
    refine ⟨_, results_cell_row rfl _ _ (w.heap.size + 1) 48 _ (0, 0) _ (by simp [Act.put]) ((World.putObj_heap_other (by omega)).trans HR.out) Try.underlying48 rfl (by rw [info_arr16]; simp [HCL.out]), ?_⟩
    refine ⟨by rw [HEQ.out], hB2.trans (belowK_b (w := w) (Nat.le_refl _) _ D _ _ (by omega) hK' rfl rfl)⟩
  case stop =>
    rintro D c pre W _ _ h _
    exact h.elim

end Go.Proofs.Ytepkneeedkmaoaa
