/-
  Structs in boxes: load, store, a field; results that are structs; rows of deeds.
-/
import Derived.Deep.MidRow
import Derived.Laws.Rows
import Derived.Laws.Tables
import Derived.Test.YtgkkoegfmhgcjaaDoorDigitsOf
import Derived.Test.YtgkkoegfmhgcjaaDoorMathText
import Derived.Test.YtgkkoegfmhgcjaaDoorRowFacts
namespace Go.Proofs.YtgkkoegfmhgcjaaDoor
open Go.RowKit Go.Shelf

/-- A struct in a block of its own. -/
def SBox (W : World) (B : Nat) (T : TypeId) (cs : Array Value) : Prop := W.heap[B]? = some (.cells cs T (0, 0))
theorem SBox.new (W : World) (T : TypeId) (cs : Array Value) : SBox (W.alloc (.cells cs T)) W.heap.size T cs := heap_alloc_new _ _
theorem SBox.lt {W : World} {B : Nat} {T : TypeId} {cs : Array Value} (h : SBox W B T cs) : B < W.heap.size := lt_of_heap h
theorem SBox.below {W W' : World} {B n : Nat} {T : TypeId} {cs : Array Value} (h : SBox W B T cs) (hb : Below n W W') (hB : B < n) : SBox W' B T cs := (hb.block B hB).trans h
theorem SBox.kept {W W' : World} {B : Nat} {T : TypeId} {cs : Array Value} (h : SBox W B T cs) (hb : Below W.heap.size W W') : SBox W' B T cs := h.below hb h.lt
theorem SBox.alloc {W : World} {B : Nat} {T : TypeId} {cs : Array Value} (h : SBox W B T cs) (o : Obj) : SBox (W.alloc o) B T cs := (Below.heap_alloc W o B h.lt).trans h
theorem SBox.cell {W : World} {B : Nat} {T : TypeId} {cs : Array Value} (h : SBox W B T cs) (i : Nat) : W.cell? ⟨B, i, none⟩ = cs[i]? := cell_of_row W B i _ _ _ h
theorem SBox.frozen {W : World} {B : Nat} {T : TypeId} {cs : Array Value} (h : SBox W B T cs) (i : Nat) : W.frozen? ⟨B, i, none⟩ = false := by
  unfold SBox at h
  simp [World.frozen?, h]
theorem SBox.set {W : World} {B : Nat} {T : TypeId} {cs : Array Value} (h : SBox W B T cs) (i : Nat) (v : Value) : SBox (W.setCell ⟨B, i, none⟩ v) B T (cs.setIfInBounds i v) := by
  unfold SBox at *
  rw [setCell_eq_setRow W B i _ _ _ _ h, setRow_heap W B _ _ _ _ h]
theorem SBox.far {W : World} {B : Nat} {T : TypeId} {cs : Array Value} (h : SBox W B T cs) {p : Addr} (hp : B ≠ p.block) (v : Value) : SBox (W.setCell p v) B T cs := (Below.heap_setCell _ _ _ _ hp).trans h
theorem SBox.grown {W W' : World} {B : Nat} {T : TypeId} {cs : Array Value} {row : Option Nat} (h : SBox W B T cs) (hg : W.grownBy W' row) (hne : row ≠ some B) : SBox W' B T cs := (hg.block B h.lt (fun e => hne e.symm)).trans h
theorem below_srow {n B : Nat} (W : World) (hn : n ≤ B) (c : Array Value) : Below n W (W.setRow B c) :=
  ⟨rfl, rfl, rfl, by rw [show (W.setRow B c).heap.size = W.heap.size by simp [World.setRow]]; exact Nat.le_refl _, fun k hk => setRow_other _ _ _ _ (by omega)⟩

/-- The whole struct is stored. -/
theorem sbox_store {W : World} {ops : Array Oper} {rest : List Oper} {o : Oper} {a : Act} {Q : Exit → Act → World → Prop} (hg : o.guard = none) (x y : Operand) (T : TypeId) (hop : o.op = .store T x y) {B : Nat} (cs cs' : Array Value)
    (hx : a.eval x = .pointer (some ⟨B, 0, none⟩)) (hy : a.eval y = .agg cs') (hA : SBox W B T cs) (hi : (Tryd.prog.info? T).map (·.size) = some cs'.size) (hs : cs'.size = cs.size) (h1 : cs'.all (·.oneCell') = true)
    (hK : ∀ W', SBox W' B T cs' → (∀ n, n ≤ B → Below n W W') → W'.heap.size = W.heap.size → (∀ i, i ≠ B → W'.heap[i]? = W.heap[i]?) → wpList Tryd.prog ops Q rest (a.put o.dst undef) W') :
    wpList Tryd.prog ops Q (o :: rest) a W := by
  refine wpList_store_row hg T x y hop B _ hx hy T _ hA hi hs.symm h1 ?_
  exact hK _ (setRow_heap _ _ _ _ _ _ hA) (fun n hn => below_srow W hn _) (by simp [World.setRow]) (fun i hi => setRow_other _ _ _ _ hi)
/-- The whole struct is loaded. -/
theorem sbox_load {W : World} {ops : Array Oper} {rest : List Oper} {o : Oper} {a : Act} {Q : Exit → Act → World → Prop} (hg : o.guard = none) (x : Operand) (T : TypeId) (hop : o.op = .load T x) {B : Nat} (cs : Array Value) (d : TypeDesc)
    (hx : a.eval x = .pointer (some ⟨B, 0, none⟩)) (hA : SBox W B T cs) (hd : d.isRow = true) (hu : Tryd.prog.underlying T = some d) (hi : (Tryd.prog.info? T).map (·.size) = some cs.size)
    (hK : wpList Tryd.prog ops Q rest (a.put o.dst (.agg cs)) W) :
    wpList Tryd.prog ops Q (o :: rest) a W :=
  wpList_load_row hg T x hop B hx T _ (0, 0) _ hA hu (by cases d <;> first | rfl | exact absurd hd (by simp)) hi hK

/-- Two results: a struct in its box, and a slot. -/
theorem results_cell_tmp {fn : Func} {p q : Tmp} {T : TypeId} (h : fn.results = #[.cell p T, .tmp q]) (tmps : Array Value) (w : World) (g : Nat) (cs : Array Value) (d : TypeDesc) (v : Value)
    (hp : tmps.getD p undef = .pointer (some ⟨g, 0, none⟩)) (hq : tmps.getD q undef = v) (hg : SBox w g T cs)
    (hd : d.isRow = true) (hu : Tryd.prog.underlying T = some d) (hi : (Tryd.prog.info? T).map (·.size) = some cs.size) :
    (results fn tmps).run Tryd.prog w = .ok (.tuple #[.agg cs, v]) w := by
  have hp' : tmps[p]?.getD undef = .pointer (some ⟨g, 0, none⟩) := by simpa using hp
  have hq' : tmps[q]?.getD undef = v := by simpa using hq
  simp [results, h, hp', hq', asAddr, run_loadVar_row w g T T cs (0, 0) d hg hu (by cases d <;> first | rfl | exact absurd hd (by simp)) hi]
/-- Two results: two structs in their boxes. -/
theorem results_cell_cell {fn : Func} {p q : Tmp} {T U : TypeId} (h : fn.results = #[.cell p T, .cell q U]) (tmps : Array Value) (w : World) (g g' : Nat) (cs cs' : Array Value) (d d' : TypeDesc)
    (hp : tmps.getD p undef = .pointer (some ⟨g, 0, none⟩)) (hq : tmps.getD q undef = .pointer (some ⟨g', 0, none⟩)) (hg : SBox w g T cs) (hg' : SBox w g' U cs')
    (hd : d.isRow = true) (hu : Tryd.prog.underlying T = some d) (hi : (Tryd.prog.info? T).map (·.size) = some cs.size)
    (hd' : d'.isRow = true) (hu' : Tryd.prog.underlying U = some d') (hi' : (Tryd.prog.info? U).map (·.size) = some cs'.size) :
    (results fn tmps).run Tryd.prog w = .ok (.tuple #[.agg cs, .agg cs']) w := by
  have hp' : tmps[p]?.getD undef = .pointer (some ⟨g, 0, none⟩) := by simpa using hp
  have hq' : tmps[q]?.getD undef = .pointer (some ⟨g', 0, none⟩) := by simpa using hq
  simp [results, h, hp', hq', asAddr, run_loadVar_row w g T T cs (0, 0) d hg hu (by cases d <;> first | rfl | exact absurd hd (by simp)) hi, run_loadVar_row w g' U U cs' (0, 0) d' hg' hu' (by cases d' <;> first | rfl | exact absurd hd' (by simp)) hi']

/-- append(nil row.., list...) of integers that lie anywhere. -/
theorem run_append_nil (w : World) (base : Nat) (t ty e : TypeId) (i : TypeInfo) (size : Nat) (ht : Tryd.prog.underlying t = some (.slice e)) (hi : Tryd.prog.info? e = some i)
    (v : Value) (n : Nat) (xs : List Value) (hown : w.ownsRow base e size v n xs) (c : Nat) : (Builtin.append_ #[t, t] ty #[v, .slice none 0 c]).run Tryd.prog w = .ok v w := by
  rcases hown.2 with ⟨rfl, rfl⟩ | ⟨g, cap, cur, rfl, _, _, hnc, _⟩
  · simp [Builtin.append_, run_underlying ht, sizeOf, typeInfo, hi, Builtin.lenOf, Builtin.firstCells]
  · simp [Builtin.append_, run_underlying ht, sizeOf, typeInfo, hi, Builtin.lenOf, Builtin.firstCells, hnc, storeCells]
theorem wp_append_ints {o : Oper} {a : Act} {W : World} {K : Act → World → Prop} {Q : Exit → Act → World → Prop} (s x : Operand)
    (ho : o.op = .call { callee := .builtin .append, args := #[s, x], argTypes := #[51, 51] }) (base : Nat) (v u : Value) (xs ys : List Int) (hs : a.eval s = v) (hv : Row base W v xs)
    (hx : a.eval x = u) (hu : Ints W u ys) (hl : xs.length + ys.length ≤ 1000000000) (hbase : base ≤ W.heap.size)
    (h : ∀ v' W', Row base W' v' (xs ++ ys) → Below base W W' → K (a.put o.dst v') W') : Oper.wp Tryd.prog o a W K Q := by
  obtain ⟨i0, hi0, hz0, hz1, hz2⟩ := info_parts info_int
  obtain ⟨ad, cap, rfl, hc⟩ := hu
  cases ad with
  | none =>
    have h0 : ys = [] := by
      rcases Nat.eq_zero_or_pos ys.length with h0 | h0
      · exact List.eq_nil_of_length_eq_zero h0
      · obtain ⟨b, off, e, _⟩ := hc 0 h0; cases e
    subst h0
    have hrun := run_append_nil W base 51 o.type 3 i0 1 Tryd.underlying51 hi0 v xs.length (xs.map (Value.int .i64)) hv cap
    have h' := h v W (by rw [List.append_nil]; exact hv) (Below.refl _ _)
    unfold Oper.wp
    simp only [List.length_nil] at hx
    simp [execOp, ho, resolve, invoke, builtin, hs, hx, hrun, Result.andThen]
    exact h'
  | some ad =>
    refine wp_append_own W s x 51 ho base 3 i0 (.int .i64 0) 1 8 Tryd.underlying51 hi0 hz0 hz1 hz2 rfl (by decide) v xs.length (xs.map (Value.int .i64)) hs hv ad ys.length cap (ys.map (Value.int .i64)) hx (by simp) ?_ (by simp [Value.oneCell']) (by unfold maxLen; omega) (by omega) hbase ?_
    · intro j q hq
      have hj : j < ys.length := by
        have := (List.getElem?_eq_some_iff.1 hq).1
        simpa using this
      obtain ⟨b, off, e, hcell⟩ := hc j hj
      obtain rfl := Option.some.inj e
      rw [Addr.add_lit, hcell]
      rw [List.getElem?_map, List.getElem?_eq_getElem hj] at hq
      rw [List.getElem?_eq_getElem hj]
      simpa using hq
    · intro v' w' hown hgrow _
      refine h v' w' ?_ (below_append (Below.refl _ _) hv hgrow hbase)
      unfold Row
      rw [List.length_append, List.map_append]
      exact hown
/-- The same as a step of a region that draws. -/
theorem step_append_ints {ops : Array Oper} {o : Oper} {a : Act} {W : World} {K : Act → World → Prop} {Q : Exit → Act → World → Prop} {E : Prop} (hgd : o.guard = none) (s x : Operand)
    (ho : o.op = .call { callee := .builtin .append, args := #[s, x], argTypes := #[51, 51] }) (base : Nat) (v u : Value) (xs ys : List Int) (hs : a.eval s = v) (hv : Row base W v xs)
    (hx : a.eval x = u) (hu : Ints W u ys) (hl : xs.length + ys.length ≤ 1000000000) (hbase : base ≤ W.heap.size)
    (h : ∀ v' W', Row base W' v' (xs ++ ys) → Below base W W' → K (a.put o.dst v') W') :
    if Region.wanted o (yielded ops a.tmps) = true then Oper.wp Tryd.prog o a W K Q else E := by
  have hw : Region.wanted o (yielded ops a.tmps) = true := by simp [Region.wanted, hgd]
  rw [if_pos hw]
  exact wp_append_ints s x ho base v u xs ys hs hv hx hu hl hbase h

/-- A row lies as it lay where another block is written. -/
theorem Row.others {base : Nat} {w w' : World} {v : Value} {xs : List Int} (h : Row base w v xs) {B : Nat} (hB : B < base) (ho : ∀ i, i ≠ B → w'.heap[i]? = w.heap[i]?) : Row base w' v xs := by
  rcases h with ⟨h1, h2 | ⟨g, cap, cur, hv, hg, hh, r⟩⟩
  · exact ⟨h1, .inl h2⟩
  · exact ⟨h1, .inr ⟨g, cap, cur, hv, hg, by rw [ho g (by omega)]; exact hh, r⟩⟩
theorem info_deed : (Tryd.prog.info? 25).map (fun i => (i.zero, i.size, i.bytes)) = some (some (.agg #[.int .i64 0, .int .i64 0]), 2, 16) := by kernel_rfl
theorem size_deed : (Tryd.prog.info? 25).map (·.size) = some 2 := by kernel_rfl
theorem deed_store {W : World} {ops : Array Oper} {rest : List Oper} {o : Oper} {a : Act} {Q : Exit → Act → World → Prop} (hg : o.guard = none) (x y : Operand) (hop : o.op = .store 25 x y) {B : Nat} {k n k' n' : Int}
    (hx : a.eval x = .pointer (some ⟨B, 0, none⟩)) (hy : a.eval y = .agg #[.int .i64 k', .int .i64 n']) (hA : SBox W B 25 #[.int .i64 k, .int .i64 n])
    (hK : ∀ W', SBox W' B 25 #[.int .i64 k', .int .i64 n'] → (∀ n, n ≤ B → Below n W W') → W'.heap.size = W.heap.size → (∀ i, i ≠ B → W'.heap[i]? = W.heap[i]?) → wpList Tryd.prog ops Q rest (a.put o.dst undef) W') :
    wpList Tryd.prog ops Q (o :: rest) a W :=
  sbox_store hg x y 25 hop _ _ hx hy hA (by rw [size_deed]; rfl) rfl (by simp [Value.oneCell']) hK
theorem deed_load {W : World} {ops : Array Oper} {rest : List Oper} {o : Oper} {a : Act} {Q : Exit → Act → World → Prop} (hg : o.guard = none) (x : Operand) (hop : o.op = .load 25 x) {B : Nat} {k n : Int}
    (hx : a.eval x = .pointer (some ⟨B, 0, none⟩)) (hA : SBox W B 25 #[.int .i64 k, .int .i64 n])
    (hK : wpList Tryd.prog ops Q rest (a.put o.dst (.agg #[.int .i64 k, .int .i64 n])) W) :
    wpList Tryd.prog ops Q (o :: rest) a W :=
  sbox_load hg x 25 hop _ _ hx hA rfl Tryd.underlying25 (by rw [size_deed]; rfl) hK
namespace Pl
/-- The cells of a row of deeds. -/
def deedCells (ds : List (Int × Int)) : List Value := ds.flatMap fun d => [Value.int .i64 d.1, Value.int .i64 d.2]
theorem deedCells_len (ds : List (Int × Int)) : (deedCells ds).length = ds.length * 2 := by
  induction ds with
  | nil => rfl
  | cons d t ih => rw [deedCells, List.flatMap_cons, List.length_append, ← deedCells, ih]; simp; omega
theorem deedCells_snoc (ds : List (Int × Int)) (d : Int × Int) : deedCells (ds ++ [d]) = deedCells ds ++ [Value.int .i64 d.1, Value.int .i64 d.2] := by simp [deedCells]
theorem deedCells_at (ds : List (Int × Int)) : ∀ j, j < ds.length → (deedCells ds)[j * 2]? = some (.int .i64 (ds[j]?.getD (0, 0)).1) ∧ (deedCells ds)[j * 2 + 1]? = some (.int .i64 (ds[j]?.getD (0, 0)).2) := by
  induction ds with
  | nil => intro j hj; simp at hj
  | cons d t ih =>
    intro j hj
    have e : deedCells (d :: t) = Value.int .i64 d.1 :: Value.int .i64 d.2 :: deedCells t := rfl
    rw [e]
    cases j with
    | zero => simp
    | succ j =>
      have := ih j (by simpa using hj)
      rw [show (j + 1) * 2 = j * 2 + 1 + 1 by omega, List.getElem?_cons_succ, List.getElem?_cons_succ, List.getElem?_cons_succ, List.getElem?_cons_succ, List.getElem?_cons_succ]
      exact this
end Pl

/-- The slice value v holds the deeds ds. -/
def Deeds (w : World) (v : Value) (ds : List (Int × Int)) : Prop :=
  ∃ a cap, v = .slice a ds.length cap ∧ ∀ j, j < ds.length → ∃ b off, a = some ⟨b, off, none⟩ ∧ w.cell? ⟨b, off + j * 2, none⟩ = some (.int .i64 (ds[j]?.getD (0, 0)).1) ∧ w.cell? ⟨b, off + (j * 2 + 1), none⟩ = some (.int .i64 (ds[j]?.getD (0, 0)).2)
/-- The slice value v owns the deeds ds, in a block from 'base' on. -/
def DRow (base : Nat) (w : World) (v : Value) (ds : List (Int × Int)) : Prop := w.ownsRow base 25 2 v ds.length (Pl.deedCells ds)
/-- A call that hands back a new list of deeds. -/
theorem Deeds.below {w w' : World} {v : Value} {ds : List (Int × Int)} (h : Deeds w v ds) (hb : Below w.heap.size w w') : Deeds w' v ds := by
  obtain ⟨a, cap, hv, hc⟩ := h
  refine ⟨a, cap, hv, fun j hj => ?_⟩
  obtain ⟨b, off, ha, hx, hy⟩ := hc j hj
  exact ⟨b, off, ha, (hb.cell (p := ⟨b, off + j * 2, none⟩) (World.block_lt_of_cell? _ _ hx)).trans hx, (hb.cell (p := ⟨b, off + (j * 2 + 1), none⟩) (show b < w.heap.size from World.block_lt_of_cell? _ _ hx)).trans hy⟩
theorem DRow.shape {base : Nat} {w : World} {v : Value} {ds : List (Int × Int)} (h : DRow base w v ds) : ∃ a cap, v = .slice a ds.length cap := by
  rcases h.2 with ⟨rfl, h0⟩ | ⟨g, cap, cur, rfl, _⟩
  · rw [h0]; exact ⟨none, 0, rfl⟩
  · exact ⟨_, cap, rfl⟩
theorem DRow.deeds {base : Nat} {w : World} {v : Value} {ds : List (Int × Int)} (h : DRow base w v ds) : Deeds w v ds := by
  have h' := h
  rcases h.2 with ⟨rfl, h0⟩ | ⟨g, cap, cur, rfl, _⟩
  · rw [List.length_eq_zero_iff] at h0; subst h0; exact ⟨none, 0, rfl, fun j hj => by simp at hj⟩
  · refine ⟨_, cap, rfl, fun j hj => ⟨g, 0, rfl, ?_, ?_⟩⟩
    · rw [Nat.zero_add, World.ownsRow.cellAt h' (j * 2) (by omega)]; exact (Pl.deedCells_at ds j hj).1
    · rw [Nat.zero_add, World.ownsRow.cellAt h' (j * 2 + 1) (by omega)]; exact (Pl.deedCells_at ds j hj).2
theorem DRow.lies {base : Nat} {w : World} {v : Value} {ds : List (Int × Int)} (h : DRow base w v ds) (h1 : 1 ≤ ds.length) :
    ∃ g cap, v = .slice (some ⟨g, 0, none⟩) ds.length cap ∧ base ≤ g ∧ g < w.heap.size ∧ ds.length ≤ cap ∧ ∀ j, j < ds.length → w.cell? ⟨g, j * 2, none⟩ = some (.int .i64 (ds[j]?.getD (0, 0)).1) ∧ w.cell? ⟨g, j * 2 + 1, none⟩ = some (.int .i64 (ds[j]?.getD (0, 0)).2) := by
  have h' := h
  rcases h.2 with ⟨_, h0⟩ | ⟨g, cap, cur, rfl, hg, hh, hc, _⟩
  · omega
  · refine ⟨g, cap, rfl, hg, lt_of_heap hh, hc, fun j hj => ⟨?_, ?_⟩⟩
    · rw [World.ownsRow.cellAt h' (j * 2) (by omega)]; exact (Pl.deedCells_at ds j hj).1
    · rw [World.ownsRow.cellAt h' (j * 2 + 1) (by omega)]; exact (Pl.deedCells_at ds j hj).2
theorem DRow.below {base : Nat} {w w' : World} {v : Value} {ds : List (Int × Int)} (h : DRow base w v ds) (hb : Below w.heap.size w w') : DRow base w' v ds := by
  rcases h with ⟨h1, h2 | ⟨g, cap, cur, hv, hg, hh, r⟩⟩
  · exact ⟨h1, .inl h2⟩
  · exact ⟨h1, .inr ⟨g, cap, cur, hv, hg, by rw [hb.block g (lt_of_heap hh)]; exact hh, r⟩⟩
theorem drow_empty (w : World) : DRow w.heap.size (w.alloc (.cells #[] 25)) (.slice (some ⟨w.heap.size, 0, none⟩) 0 0) [] :=
  World.ownsRow_lit w #[] 0 (Nat.le_refl _) (by unfold maxLen; omega) (by simp)
theorem drow_snoc {base : Nat} {w : World} {v : Value} {ds : List (Int × Int)} {k n : Int} (h : w.ownsRow base 25 2 v (ds.length + 1) (Pl.deedCells ds ++ [.int .i64 k, .int .i64 n])) : DRow base w v (ds ++ [(k, n)]) := by
  unfold DRow
  rw [Pl.deedCells_snoc, List.length_append]
  exact h
/-- The cells of one deed in a block of its own. -/
theorem cell_deed_new (w : World) (k n : Int) (t : TypeId) : ∀ j u, [Value.int .i64 k, Value.int .i64 n][j]? = some u → (w.alloc (.cells #[.int .i64 k, .int .i64 n] t)).cell? ((⟨w.heap.size, 0, none⟩ : Addr).add j) = some u :=
  World.news_of_block (cs := #[.int .i64 k, .int .i64 n]) (t := t) (fr := (0, 0)) (heap_alloc_new w _)

end Go.Proofs.YtgkkoegfmhgcjaaDoor
