/-
  impl: the maps of methods by which a desk answers; impl.DeskLine.
-/
import Derived.Test.YtgkkoegfmhgcjaaGreatDoorLineI
import Derived.Test.YtgkkoegfmhgcjaaGreatDoorTurnReg
import Derived.Test.YtgkkoegfmhgcjaaGreatDoorSpecLine2
namespace Go.Proofs.YtgkkoegfmhgcjaaGreatDoor
open Go.RowKit Go.Shelf Go.Maps

/-- How a function reads: its number. -/
def fnElem (v : Value) : Option (DataW Unit × List MemPlace) := match v with
  | .func (.func f) a b => if a = #[] ∧ b = #[] then some (.lit (.int .i64 f), []) else some (.lit (.bool false), [])
  | _ => some (.lit (.bool false), [])
theorem fnElem_func (f : Nat) : fnElem (.func (.func f) #[] #[]) = some (.lit (.int .i64 f), []) := by simp [fnElem]
theorem fnElem_inv {v : Value} {f : Int} {ps : List MemPlace} (h : fnElem v = some (.lit (.int .i64 f), ps)) : ∃ k : Nat, v = .func (.func k) #[] #[] ∧ f = (k : Int) := by
  unfold fnElem at h
  split at h
  · rename_i k a b
    split at h
    · rename_i hab
      obtain ⟨rfl, rfl⟩ := hab
      refine ⟨k, rfl, ?_⟩
      injection h with h; injection h with h _; injection h with h; injection h with _ h; exact h.symm
    · injection h with h; injection h with h _; injection h with h; cases h
  · injection h with h; injection h with h _; injection h with h; cases h
theorem strKeyed : Keyed Tryz.prog 9 := string_keyed Tryz.underlying9
abbrev OwnQ (w : World) (b n : Nat) (D : DataW Unit) : Prop := w.ownsMap Tryz.prog 9 fnElem b n D

/-- An entry of a map that is written out. -/
theorem wpList_insert_fn {ops : Array Oper} {rest : List Oper} {o : Oper} {a : Act} {Q : Exit → Act → World → Prop} {w : World} (t e : TypeId) (ht : Tryz.prog.underlying t = some (.map 9 e)) (hg : o.guard = none) (m : Operand) (s : ByteArray) (f : Nat)
    (hop : o.op = Op.insert t m (.const (.string s)) (.func f)) (b n : Nat) (D : DataW Unit) (hm : a.eval m = .map (some b)) (hown : OwnQ w b n D) (hn : n ≤ 1000) (hs : s.size ≤ 1000)
    (hK : ∀ w', OwnQ w' b (n + 1) (D.put (.string s.data.toList) (.lit (.int .i64 f))) → w.grownBy w' (some b) → wpList Tryz.prog ops Q rest (a.put o.dst undef) w') :
    wpList Tryz.prog ops Q (o :: rest) a w := by
  refine wpList_plain hg fun K' hK' => ?_
  obtain ⟨w', hrun, r1, r2⟩ := hown.update strKeyed ht (by unfold maxLen; omega) (Go.WideMaps.keyOf_string_mk Tryz.underlying9 (s := s) (by unfold maxLen; omega)) (fnElem_func f)
  have e1 : a.eval (.const (.string s)) = .string s := rfl
  have e2 : a.eval (.func f) = .func (.func f) #[] #[] := rfl
  unfold Oper.wp
  simp only [execOp, hop]
  rw [hm, e1, e2]
  simp [hrun, Result.andThen]
  exact hK' _ _ (hK w' r1 r2)

/-- A word is looked up that is there, .. -/
theorem wpList_look_hit {ops : Array Oper} {rest : List Oper} {o : Oper} {a : Act} {Q : Exit → Act → World → Prop} {w : World} (t e : TypeId) (ht : Tryz.prog.underlying t = some (.map 9 e)) {z : Value} (hz : ∀ W, (zeroValue e).run Tryz.prog W = .ok z W) (hz2 : fnElem z = some (.lit (.bool false), []))
    (hg : o.guard = none) (m x : Operand) (hop : o.op = Op.lookup t m x true) (b n : Nat) (D : DataW Unit) (hm : a.eval m = .map (some b)) (hown : OwnQ w b n D) (s : ByteArray) (hs : s.size ≤ 1000000000) (hx : a.eval x = .string s) (f : Nat)
    (hhas : Maps.has D (.string s.data.toList) = true) (hat : D.atKey (.string s.data.toList) (.lit (.bool false)) = .lit (.int .i64 f))
    (hK : wpList Tryz.prog ops Q rest (a.put o.dst (.tuple #[.func (.func f) #[] #[], .bool true])) w) :
    wpList Tryz.prog ops Q (o :: rest) a w := by
  refine wpList_lookup_own_ok w hg m x t hop 9 e strKeyed ht fnElem (hz w) (.lit (.bool false)) [] hz2 b n D hm hown (.string s) _ hx (Go.WideMaps.keyOf_string_mk Tryz.underlying9 (by unfold maxLen; omega)) fun v ps hv => ?_
  rw [hat] at hv
  obtain ⟨k, rfl, hk⟩ := fnElem_inv hv
  obtain rfl : k = f := by omega
  rw [hhas]
  exact hK
/-- .. or is not. -/
theorem wpList_look_miss {ops : Array Oper} {rest : List Oper} {o : Oper} {a : Act} {Q : Exit → Act → World → Prop} {w : World} (t e : TypeId) (ht : Tryz.prog.underlying t = some (.map 9 e)) {z : Value} (hz : ∀ W, (zeroValue e).run Tryz.prog W = .ok z W) (hz2 : fnElem z = some (.lit (.bool false), []))
    (hg : o.guard = none) (m x : Operand) (hop : o.op = Op.lookup t m x true) (b n : Nat) (D : DataW Unit) (hm : a.eval m = .map (some b)) (hown : OwnQ w b n D) (s : ByteArray) (hs : s.size ≤ 1000000000) (hx : a.eval x = .string s)
    (hhas : Maps.has D (.string s.data.toList) = false)
    (hK : ∀ v, wpList Tryz.prog ops Q rest (a.put o.dst (.tuple #[v, .bool false])) w) :
    wpList Tryz.prog ops Q (o :: rest) a w := by
  refine wpList_lookup_own_ok w hg m x t hop 9 e strKeyed ht fnElem (hz w) (.lit (.bool false)) [] hz2 b n D hm hown (.string s) _ hx (Go.WideMaps.keyOf_string_mk Tryz.underlying9 (by unfold maxLen; omega)) fun v ps _ => ?_
  rw [hhas]
  exact hK v
theorem zeroFn1 (W : World) : (zeroValue 110).run Tryz.prog W = .ok .nilFunc W := by kernel_rfl
theorem zeroFn2 (W : World) : (zeroValue 114).run Tryz.prog W = .ok .nilFunc W := by kernel_rfl

def qD1 : DataW Unit := (((((((((((.map [] : DataW Unit).put (.string [110, 117, 109, 98, 101, 114]) (.lit (.int .i64 (114 : Nat)))).put (.string [100, 105, 103, 105, 116, 115]) (.lit (.int .i64 (115 : Nat)))).put (.string [114, 111, 111, 116]) (.lit (.int .i64 (116 : Nat)))).put (.string [114, 111, 117, 110, 100]) (.lit (.int .i64 (117 : Nat)))).put (.string [104, 97, 112, 112, 121]) (.lit (.int .i64 (118 : Nat)))).put (.string [112, 97, 108, 105, 110, 100, 114, 111, 109, 101]) (.lit (.int .i64 (119 : Nat)))).put (.string [115, 101, 108, 102]) (.lit (.int .i64 (120 : Nat)))).put (.string [112, 101, 114, 115, 105, 115, 116, 115]) (.lit (.int .i64 (121 : Nat)))).put (.string [110, 111, 117, 103, 104, 116, 115]) (.lit (.int .i64 (122 : Nat)))).put (.string [115, 116, 101, 112, 115]) (.lit (.int .i64 (123 : Nat))))
set_option maxRecDepth 100000 in
set_option maxHeartbeats 2000000 in
theorem implQuestions (w : World) : Calls Tryz.prog 94 #[] w fun e w' => ∃ b, e = .returned (.map (some b)) ∧ OwnQ w' b 10 qD1 ∧ Below w.heap.size w w' := by
  have hmm := @run_makeMap Tryz.prog
  have hown0 : OwnQ (w.alloc (.map #[] 0)) w.heap.size 0 (.map []) := World.ownsMap_made w _ _ _
  have hb0 : Below w.heap.size w (w.alloc (.map #[] 0)) := (Below.refl _ _).alloc (Nat.le_refl _) _
  go_enter Tryz.func94, Tryz.ntmps94
  go_wp2_with (first
    | (refine wpList_insert_fn 112 _ Tryz.underlying112 rfl _ _ _ rfl w.heap.size 0 _ rfl hown0 (by decide) (by decide) ?_; intro w1 hown1 hgrow1)
    | (refine wpList_insert_fn 112 _ Tryz.underlying112 rfl _ _ _ rfl w.heap.size 1 _ rfl hown1 (by decide) (by decide) ?_; intro w2 hown2 hgrow2)
    | (refine wpList_insert_fn 112 _ Tryz.underlying112 rfl _ _ _ rfl w.heap.size 2 _ rfl hown2 (by decide) (by decide) ?_; intro w3 hown3 hgrow3)
    | (refine wpList_insert_fn 112 _ Tryz.underlying112 rfl _ _ _ rfl w.heap.size 3 _ rfl hown3 (by decide) (by decide) ?_; intro w4 hown4 hgrow4)
    | (refine wpList_insert_fn 112 _ Tryz.underlying112 rfl _ _ _ rfl w.heap.size 4 _ rfl hown4 (by decide) (by decide) ?_; intro w5 hown5 hgrow5)
    | (refine wpList_insert_fn 112 _ Tryz.underlying112 rfl _ _ _ rfl w.heap.size 5 _ rfl hown5 (by decide) (by decide) ?_; intro w6 hown6 hgrow6)
    | (refine wpList_insert_fn 112 _ Tryz.underlying112 rfl _ _ _ rfl w.heap.size 6 _ rfl hown6 (by decide) (by decide) ?_; intro w7 hown7 hgrow7)
    | (refine wpList_insert_fn 112 _ Tryz.underlying112 rfl _ _ _ rfl w.heap.size 7 _ rfl hown7 (by decide) (by decide) ?_; intro w8 hown8 hgrow8)
    | (refine wpList_insert_fn 112 _ Tryz.underlying112 rfl _ _ _ rfl w.heap.size 8 _ rfl hown8 (by decide) (by decide) ?_; intro w9 hown9 hgrow9)
    | (refine wpList_insert_fn 112 _ Tryz.underlying112 rfl _ _ _ rfl w.heap.size 9 _ rfl hown9 (by decide) (by decide) ?_; intro w10 hown10 hgrow10)
    | fail)
  go_ret
  have hb : Below w.heap.size w w10 := by
    have step : ∀ {W W' : World}, Below w.heap.size w W → W.grownBy W' (some w.heap.size) → Below w.heap.size w W' := fun h g => h.grown g h.size (fun k e => by cases e; exact Nat.le_refl _)
    exact (step (step (step (step (step (step (step (step (step (step hb0 hgrow1) hgrow2) hgrow3) hgrow4) hgrow5) hgrow6) hgrow7) hgrow8) hgrow9) hgrow10)
  exact ⟨w.heap.size, rfl, hown10, hb⟩

def qD2 : DataW Unit := (((.map [] : DataW Unit).put (.string [99, 97, 114, 114, 105, 101, 115]) (.lit (.int .i64 (124 : Nat)))).put (.string [111, 110, 101]) (.lit (.int .i64 (125 : Nat))))
set_option maxRecDepth 100000 in
set_option maxHeartbeats 2000000 in
theorem implQuestionsN (w : World) : Calls Tryz.prog 95 #[] w fun e w' => ∃ b, e = .returned (.map (some b)) ∧ OwnQ w' b 2 qD2 ∧ Below w.heap.size w w' := by
  have hmm := @run_makeMap Tryz.prog
  have hown0 : OwnQ (w.alloc (.map #[] 0)) w.heap.size 0 (.map []) := World.ownsMap_made w _ _ _
  have hb0 : Below w.heap.size w (w.alloc (.map #[] 0)) := (Below.refl _ _).alloc (Nat.le_refl _) _
  go_enter Tryz.func95, Tryz.ntmps95
  go_wp2_with (first
    | (refine wpList_insert_fn 116 _ Tryz.underlying116 rfl _ _ _ rfl w.heap.size 0 _ rfl hown0 (by decide) (by decide) ?_; intro w1 hown1 hgrow1)
    | (refine wpList_insert_fn 116 _ Tryz.underlying116 rfl _ _ _ rfl w.heap.size 1 _ rfl hown1 (by decide) (by decide) ?_; intro w2 hown2 hgrow2)
    | fail)
  go_ret
  have hb : Below w.heap.size w w2 := by
    have step : ∀ {W W' : World}, Below w.heap.size w W → W.grownBy W' (some w.heap.size) → Below w.heap.size w W' := fun h g => h.grown g h.size (fun k e => by cases e; exact Nat.le_refl _)
    exact (step (step hb0 hgrow1) hgrow2)
  exact ⟨w.heap.size, rfl, hown2, hb⟩

theorem qD1_0 : Maps.has qD1 (.string [110, 117, 109, 98, 101, 114]) = true ∧ qD1.atKey (.string [110, 117, 109, 98, 101, 114]) (.lit (.bool false)) = .lit (.int .i64 (114 : Nat)) := ⟨rfl, rfl⟩
theorem qD1_1 : Maps.has qD1 (.string [100, 105, 103, 105, 116, 115]) = true ∧ qD1.atKey (.string [100, 105, 103, 105, 116, 115]) (.lit (.bool false)) = .lit (.int .i64 (115 : Nat)) := ⟨rfl, rfl⟩
theorem qD1_2 : Maps.has qD1 (.string [114, 111, 111, 116]) = true ∧ qD1.atKey (.string [114, 111, 111, 116]) (.lit (.bool false)) = .lit (.int .i64 (116 : Nat)) := ⟨rfl, rfl⟩
theorem qD1_3 : Maps.has qD1 (.string [114, 111, 117, 110, 100]) = true ∧ qD1.atKey (.string [114, 111, 117, 110, 100]) (.lit (.bool false)) = .lit (.int .i64 (117 : Nat)) := ⟨rfl, rfl⟩
theorem qD1_4 : Maps.has qD1 (.string [104, 97, 112, 112, 121]) = true ∧ qD1.atKey (.string [104, 97, 112, 112, 121]) (.lit (.bool false)) = .lit (.int .i64 (118 : Nat)) := ⟨rfl, rfl⟩
theorem qD1_5 : Maps.has qD1 (.string [112, 97, 108, 105, 110, 100, 114, 111, 109, 101]) = true ∧ qD1.atKey (.string [112, 97, 108, 105, 110, 100, 114, 111, 109, 101]) (.lit (.bool false)) = .lit (.int .i64 (119 : Nat)) := ⟨rfl, rfl⟩
theorem qD1_6 : Maps.has qD1 (.string [115, 101, 108, 102]) = true ∧ qD1.atKey (.string [115, 101, 108, 102]) (.lit (.bool false)) = .lit (.int .i64 (120 : Nat)) := ⟨rfl, rfl⟩
theorem qD1_7 : Maps.has qD1 (.string [112, 101, 114, 115, 105, 115, 116, 115]) = true ∧ qD1.atKey (.string [112, 101, 114, 115, 105, 115, 116, 115]) (.lit (.bool false)) = .lit (.int .i64 (121 : Nat)) := ⟨rfl, rfl⟩
theorem qD1_8 : Maps.has qD1 (.string [110, 111, 117, 103, 104, 116, 115]) = true ∧ qD1.atKey (.string [110, 111, 117, 103, 104, 116, 115]) (.lit (.bool false)) = .lit (.int .i64 (122 : Nat)) := ⟨rfl, rfl⟩
theorem qD1_9 : Maps.has qD1 (.string [115, 116, 101, 112, 115]) = true ∧ qD1.atKey (.string [115, 116, 101, 112, 115]) (.lit (.bool false)) = .lit (.int .i64 (123 : Nat)) := ⟨rfl, rfl⟩
theorem qD1_no (l : List UInt8) (h : ∀ i : Fin 10, l ≠ Pl.askW[i.val]?.getD []) : Maps.has qD1 (.string l) = false := by
  have ne : ∀ {a b : List UInt8}, a ≠ b → (Lit.string a) ≠ Lit.string b := fun h e => h (by injection e)
  unfold qD1
  rw [Maps.has_put_other (ne (b := [115, 116, 101, 112, 115]) (h ⟨9, by decide⟩))]
  rw [Maps.has_put_other (ne (b := [110, 111, 117, 103, 104, 116, 115]) (h ⟨8, by decide⟩))]
  rw [Maps.has_put_other (ne (b := [112, 101, 114, 115, 105, 115, 116, 115]) (h ⟨7, by decide⟩))]
  rw [Maps.has_put_other (ne (b := [115, 101, 108, 102]) (h ⟨6, by decide⟩))]
  rw [Maps.has_put_other (ne (b := [112, 97, 108, 105, 110, 100, 114, 111, 109, 101]) (h ⟨5, by decide⟩))]
  rw [Maps.has_put_other (ne (b := [104, 97, 112, 112, 121]) (h ⟨4, by decide⟩))]
  rw [Maps.has_put_other (ne (b := [114, 111, 117, 110, 100]) (h ⟨3, by decide⟩))]
  rw [Maps.has_put_other (ne (b := [114, 111, 111, 116]) (h ⟨2, by decide⟩))]
  rw [Maps.has_put_other (ne (b := [100, 105, 103, 105, 116, 115]) (h ⟨1, by decide⟩))]
  rw [Maps.has_put_other (ne (b := [110, 117, 109, 98, 101, 114]) (h ⟨0, by decide⟩))]
  rfl
theorem qD2_0 : Maps.has qD2 (.string [99, 97, 114, 114, 105, 101, 115]) = true ∧ qD2.atKey (.string [99, 97, 114, 114, 105, 101, 115]) (.lit (.bool false)) = .lit (.int .i64 (124 : Nat)) := ⟨rfl, rfl⟩
theorem qD2_1 : Maps.has qD2 (.string [111, 110, 101]) = true ∧ qD2.atKey (.string [111, 110, 101]) (.lit (.bool false)) = .lit (.int .i64 (125 : Nat)) := ⟨rfl, rfl⟩
theorem qD2_no (l : List UInt8) (h1 : l ≠ Pl.carriesW) (h2 : l ≠ Pl.oneW) : Maps.has qD2 (.string l) = false := by
  have ne : ∀ {a b : List UInt8}, a ≠ b → (Lit.string a) ≠ Lit.string b := fun h e => h (by injection e)
  unfold qD2
  rw [Maps.has_put_other (ne (b := [111, 110, 101]) h2), Maps.has_put_other (ne (b := [99, 97, 114, 114, 105, 101, 115]) h1)]
  rfl

end Go.Proofs.YtgkkoegfmhgcjaaGreatDoor
