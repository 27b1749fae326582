/-
  The table of ends by their numbers of digits (an array of rows); as the program makes it.
-/
import Derived.Test.YtgdgafoaangmkaaEndLonger
import Derived.Test.YtgdgafoaangmkaaSortRow
import Derived.Laws.EntriesVeiled
import Derived.Laws.Rows
namespace Go.Proofs.Ytgdgafoaangmkaa
open Go.RowKit Go.Shelf

theorem info_five : (Try.prog.info? 50).map (·.size) = some 5 := by kernel_rfl

/-- An array of rows in its block. -/
def TabBox (W : World) (B : Nat) (vs : List Value) : Prop := W.heap[B]? = some (.cells vs.toArray 50 (0, 0))

theorem Row.tab {base B : Nat} {W : World} {v : Value} {xs : List Int} {vs : List Value} (h : Row base W v xs) (hB : TabBox W B vs) (o : Nat) (u : Value) : Row base (W.setCell ⟨B, o, none⟩ u) v xs := by
  rcases h with ⟨h1, h2⟩
  refine ⟨h1, ?_⟩
  rcases h2 with ⟨rfl, h3⟩ | ⟨g, cap, cur, rfl, hg, hh, hr⟩
  · exact Or.inl ⟨rfl, h3⟩
  · refine Or.inr ⟨g, cap, cur, rfl, hg, ?_, hr⟩
    have hne : g ≠ B := fun e => by rw [e, hB] at hh; exact absurd hh (by simp)
    rw [Below.heap_setCell _ _ _ _ hne]; exact hh

theorem TabBox.below {W W' : World} {B n : Nat} {vs : List Value} (h : TabBox W B vs) (hb : Below n W W') (hB : B < n) : TabBox W' B vs := (hb.block B hB).trans h
theorem TabBox.cell {W : World} {B : Nat} {vs : List Value} (h : TabBox W B vs) {j : Nat} (hj : j < vs.length) : W.cell? ⟨B, j, none⟩ = some (vs[j]?.getD undef) ∧ W.frozen? ⟨B, j, none⟩ = false := by
  unfold TabBox at h
  refine ⟨?_, by simp [World.frozen?, h]⟩
  rw [cell_of_row W B j _ _ _ h]
  simp [hj]
theorem TabBox.set {W : World} {B : Nat} {vs : List Value} (h : TabBox W B vs) (j : Nat) (u : Value) : TabBox (W.setCell ⟨B, j, none⟩ u) B (vs.set j u) := by
  unfold TabBox at *
  rw [setCell_eq_setRow W B j _ _ _ _ h, setRow_heap W B _ _ _ _ h]
  simp

/-- The rows of the table that are made. -/
def TabRows (base : Nat) (W : World) (vs : List Value) (k i : Nat) : Prop := ∀ j, j ≤ i → Row base W (vs[j]?.getD undef) ((Pl.endsF (k ^ j)).map fun d : Nat => (d : Int))

theorem TabRows.below {base : Nat} {W W' : World} {vs : List Value} {k i : Nat} (h : TabRows base W vs k i) (hb : Below W.heap.size W W') : TabRows base W' vs k i := fun j hj => Row.below (h j hj) hb

theorem TabRows.set {base B : Nat} {W : World} {vs : List Value} {k i : Nat} {u : Value} (h : TabRows base W vs k i) (hB : TabBox W B vs) (hi : i + 1 < vs.length) (hr : Row base W u ((Pl.endsF (k ^ (i + 1))).map fun d : Nat => (d : Int))) :
    TabRows base (W.setCell ⟨B, i + 1, none⟩ u) (vs.set (i + 1) u) k (i + 1) := by
  intro j hj
  rw [List.getElem?_set]
  by_cases he : i + 1 = j
  · subst he
    rw [if_pos rfl, if_pos hi]
    exact hr.tab hB _ _
  · rw [if_neg he]
    exact (h j (by omega)).tab hB _ _

theorem nils_five : #[Value.slice none 0 0, Value.slice none 0 0, Value.slice none 0 0, Value.slice none 0 0, Value.slice none 0 0] = (List.replicate 5 (Value.slice none 0 0)).toArray := rfl

theorem tab_load {W : World} {ops : Array Oper} {rest : List Oper} {o : Oper} {a : Act} {Q : Exit → Act → World → Prop} (hg : o.guard = none) (x : Operand) (hop : o.op = .load 50 x) {B : Nat} {vs : List Value}
    (hx : a.eval x = .pointer (some ⟨B, 0, none⟩)) (hA : TabBox W B vs) (hl : vs.length = 5)
    (hK : wpList Try.prog ops Q rest (a.put o.dst (.agg vs.toArray)) W) :
    wpList Try.prog ops Q (o :: rest) a W :=
  wpList_load_row hg 50 x hop B hx 50 _ (0, 0) _ hA Try.underlying50 rfl (by rw [info_five]; simp [hl]) hK

theorem tab_store {W : World} {ops : Array Oper} {rest : List Oper} {o : Oper} {a : Act} {Q : Exit → Act → World → Prop} (hg : o.guard = none) (x y : Operand) (hop : o.op = .store 50 x y) {B : Nat} {vs us : List Value}
    (hx : a.eval x = .pointer (some ⟨B, 0, none⟩)) (hy : a.eval y = .agg us.toArray) (hA : TabBox W B vs) (hl : vs.length = 5) (hu : us.length = 5) (hs : ∀ x ∈ us, ∃ a n c, x = .slice a n c)
    (hK : wpList Try.prog ops Q rest (a.put o.dst undef) (W.setRow B us.toArray)) :
    wpList Try.prog ops Q (o :: rest) a W :=
  wpList_store_row hg 50 x y hop B _ hx hy 50 _ hA (by rw [info_five]; simp; omega) (by simp; omega) (by
    simp [Value.oneCell']
    intro x hx; obtain ⟨a, n, c, rfl⟩ := hs x hx; rfl) hK

set_option maxHeartbeats 4000000 in
theorem sizeTable (L k : Nat) (h1 : L ≤ 4) (h2 : 2 ≤ k) (h3 : k ≤ 16) (w : World) :
    Calls Try.prog 44 #[.agg #[.int .i64 L, .int .i64 k]] w fun e w' => ∃ vs : List Value, e = .returned (.agg vs.toArray) ∧ vs.length = 5 ∧ TabRows w.heap.size w' vs k L ∧ Below w.heap.size w w' := by
  have HN1 := SizeBox.new w (L : Int) (k : Int)
  obtain ⟨c0, c1⟩ := HN1.cells
  go_enter Try.func44, Try.ntmps44
  go_wp2_with fail
  clear c0 c1
  obtain ⟨v0, hv0⟩ : ∃ v0, Value.slice (some ⟨w.heap.size + 1 + 1, 0, none⟩) 1 1 = v0 := ⟨_, rfl⟩
  obtain ⟨W0, hW0⟩ : ∃ W0, ((((w.alloc (.cells #[.int .i64 L, .int .i64 k] 47)).alloc (.cells #[.slice none 0 0, .slice none 0 0, .slice none 0 0, .slice none 0 0, .slice none 0 0] 50)).alloc (.cells #[.int .i64 0] 3)).alloc
    (.cells #[.slice (some ⟨w.heap.size + 1 + 1, 0, none⟩) 1 1, .slice none 0 0, .slice none 0 0, .slice none 0 0, .slice none 0 0] 50)) = W0 := ⟨_, rfl⟩
  have hsz : W0.heap.size = w.heap.size + 4 := by rw [← hW0]; simp
  have hB0 : Below w.heap.size w W0 := by rw [← hW0]; exact ((((Below.refl _ w).alloc (Nat.le_refl _) _).alloc (by simp) _).alloc (by simp; omega) _).alloc (by simp; omega) _
  have hS0 : SizeBox W0 w.heap.size L k := by
    rw [← hW0]
    exact HN1.below ((((Below.refl (w.heap.size + 1) _).alloc (by simp) _).alloc (by simp) _).alloc (by simp) _) (by omega)
  have hR0 : TabBox W0 (w.heap.size + 1) (List.replicate 5 (.slice none 0 0)) := by
    rw [← hW0, nils_five]
    have h := heap_alloc_new (w.alloc (.cells #[.int .i64 L, .int .i64 k] 47)) (.cells (List.replicate 5 (Value.slice none 0 0)).toArray 50)
    rw [World.size_alloc] at h
    exact TabBox.below (W := (w.alloc (.cells #[.int .i64 L, .int .i64 k] 47)).alloc (.cells (List.replicate 5 (Value.slice none 0 0)).toArray 50)) h (((Below.refl (w.heap.size + 2) _).alloc (by simp) _).alloc (by simp) _) (by omega)
  have hT0 : TabBox W0 (w.heap.size + 1 + 1 + 1) [v0, .slice none 0 0, .slice none 0 0, .slice none 0 0, .slice none 0 0] := by
    rw [← hW0, ← hv0]
    have h := heap_alloc_new (((w.alloc (.cells #[.int .i64 L, .int .i64 k] 47)).alloc (.cells #[.slice none 0 0, .slice none 0 0, .slice none 0 0, .slice none 0 0, .slice none 0 0] 50)).alloc (.cells #[.int .i64 0] 3))
      (.cells #[.slice (some ⟨w.heap.size + 1 + 1, 0, none⟩) 1 1, .slice none 0 0, .slice none 0 0, .slice none 0 0, .slice none 0 0] 50)
    simp only [World.size_alloc] at h
    exact h
  have hr0 : Row w.heap.size W0 v0 [0] := by
    rw [← hW0, ← hv0]
    have h := row_one' w.heap.size ((w.alloc (.cells #[.int .i64 L, .int .i64 k] 47)).alloc (.cells #[.slice none 0 0, .slice none 0 0, .slice none 0 0, .slice none 0 0, .slice none 0 0] 50)) 0 (by simp; omega)
    simp only [World.size_alloc] at h
    exact World.ownsRow.alloc h _
  rw [hW0]
  have HV0 := Lib.hid hv0.symm
  clear hW0 hv0 HN1
  have hRows0 : TabRows w.heap.size W0 [v0, .slice none 0 0, .slice none 0 0, .slice none 0 0, .slice none 0 0] k 0 := by
    intro j hj
    obtain rfl : j = 0 := by omega
    rw [Pl.endsF_one]
    exact hr0
  have hsl : ∀ x ∈ [v0, .slice none 0 0, .slice none 0 0, .slice none 0 0, .slice none 0 0], ∃ a n c, x = Value.slice a n c := by
    intro x hx
    simp only [List.mem_cons, List.not_mem_nil, or_false] at hx
    rcases hx with rfl | rfl | rfl | rfl | rfl
    · exact ⟨_, _, _, HV0.out⟩
    all_goals exact ⟨_, _, _, rfl⟩
  clear hr0
  go_loopw [4, 5, 7, 12] (fun _ _ _ iv wr => ∃ (i : Nat) (vs : List Value), i ≤ L ∧ iv = .int .i64 i ∧ vs.length = 5 ∧ (∀ x ∈ vs, ∃ a n c, x = Value.slice a n c) ∧ TabBox wr (w.heap.size + 1 + 1 + 1) vs ∧ TabRows w.heap.size wr vs k i ∧ SizeBox wr w.heap.size L k ∧ TabBox wr (w.heap.size + 1) (List.replicate 5 (.slice none 0 0)) ∧ Below w.heap.size w wr ∧ w.heap.size + 4 ≤ wr.heap.size) (fun _ _ _ iv _ => L - (intOf iv).toNat)
  case atStart => exact ⟨0, _, by omega, rfl, rfl, hsl, hT0, hRows0, hS0, hR0, hB0, by omega⟩
  case round =>
    clear hT0 hRows0 hS0 hR0 hB0 hsz
    obtain ⟨i, vs, hi, rfl, hvl, hvs, hT, hRows, hS, hR, hB, hz⟩ := hrel
    obtain ⟨wo, rfl⟩ : ∃ wo, wo = wr := ⟨_, rfl⟩
    by_cases hlt : i < L
    · have hil : (i : Int) < (L : Int) := by omega
      have hi5 : (i : Int) < 5 := by omega
      have hi0 : 0 ≤ (i : Int) := by omega
      obtain ⟨hf1, hf2⟩ := Pl.endsF_few (L := i) h2 h3 (by omega)
      obtain ⟨g, cap, hv, hg, hgl, hcap, hcm, hc⟩ := (hRows i (Nat.le_refl _)).lies (by rw [List.length_map]; exact hf1)
      obtain ⟨t0, t1⟩ := hT.cell (j := i) (by omega)
      rw [hv] at t0
      have HSORT : Hid (sortI ((Pl.longRow k i (Pl.endsF (k ^ i))).map fun d : Nat => (d : Int)) = (Pl.endsF (k ^ (i + 1))).map fun d : Nat => (d : Int)) := Lib.hid (Pl.ends_sorted (by omega))
      have hpos : 1 ≤ ((Pl.longRow k i (Pl.endsF (k ^ i))).map fun d : Nat => (d : Int)).length := by
        have h := congrArg List.length HSORT.out
        rw [sortI_len] at h
        rw [h, List.length_map]
        exact (Pl.endsF_few (L := i + 1) h2 h3 (by omega)).1
      have HPOS := Lib.hid hpos
      have HMEM : Hid (∀ j, j < (Pl.endsF (k ^ i)).length → (Pl.endsF (k ^ i))[j]?.getD 0 < k ^ i) := Lib.hid fun j hj => by
        rw [List.getElem?_eq_getElem hj, Option.getD_some]
        exact (Pl.mem_endsF.1 (List.getElem_mem hj)).1
      have hcell : ∀ j, j < (Pl.endsF (k ^ i)).length → wo.cell? ⟨g, j, none⟩ = some (.int .i64 (((Pl.endsF (k ^ i))[j]?.getD 0 : Nat) : Int)) := fun j hj => by
        rw [hc j (by rw [List.length_map]; exact hj), List.getElem?_map]
        cases (Pl.endsF (k ^ i))[j]? <;> rfl
      have HCELL := Lib.hid hcell
      have HT := Lib.hid hT
      have HR := Lib.hid hR
      have HS := Lib.hid hS
      have HRows := Lib.hid hRows
      have HVS := Lib.hid hvs
      obtain ⟨p0, p1⟩ := hS.cells
      have hml : (List.map (fun d : Nat => (d : Int)) (Pl.endsF (k ^ i))).length = (Pl.endsF (k ^ i)).length := List.length_map ..
      rw [hml] at t0 hcap
      clear hT hR hRows hS hvs hpos hcell hc hv hml
      generalize Pl.endsF (k ^ i) = F at *
      go_wp2_with fail
      go_loopw [5, 7, 19] (fun ev _ jv wq => ∃ (j : Nat) (vv : Value), vv = ev ∧ j ≤ F.length ∧ jv = .int .i64 j ∧ Row wo.heap.size wq vv ((Pl.longRow k i (F.take j)).map fun d : Nat => (d : Int)) ∧ Below wo.heap.size wo wq) (fun _ _ jv _ => F.length - (intOf jv).toNat)
      case atStart => exact ⟨0, _, rfl, by omega, rfl, World.ownsRow_nil _ _ _ _, Below.refl _ _⟩
      case round =>
        clear p0 p1 t0 t1
        obtain ⟨j, vv, rfl, hj, rfl, hr, hbq⟩ := hrel
        by_cases hjl : j < F.length
        · have hij : (j : Int) < (F.length : Int) := by omega
          have hx := HMEM.out j hjl
          have hcj := (hbq.cell (p := ⟨g, j, none⟩) hgl).trans (HCELL.out j hjl)
          have HTK : Hid (F.take (j + 1) = F.take j ++ [F[j]?.getD 0]) := Lib.hid (by rw [List.take_add_one, List.getElem?_eq_getElem hjl]; rfl)
          obtain ⟨p0, p1⟩ := (HS.out.below hbq (by omega)).cells
          have hll := Pl.longRow_len k i (F.take j)
          have hl2 : (F.take j).length ≤ 4 := by rw [List.length_take]; omega
          have hl3 : (F.take j).length * k ≤ 4 * 16 := Nat.mul_le_mul hl2 h3
          generalize F[j]?.getD 0 = x at *
          have HL := Lib.hid (sizeLonger i k x (by omega) h2 h3 hx)
          have hxl := Pl.longTo_len k i x k
          have HR1 := Lib.hid hr
          have hsq := hbq.size
          clear hr
          go_wp2_with fail
          refine (HL.out _).mono ?_
          rintro e w2 ⟨u, rfl, ru, b2⟩
          have HR2 := Lib.hid (Row.below HR1.out b2)
          have HRU := Lib.hid ru
          have hb2 := hbq.trans (b2.mono hsq)
          clear ru b2 HR1
          go_wp2_with (at_builtin; refine append_row rfl (.tmp 23) (.tmp 29) rfl wo.heap.size _ vv u _ _ rfl rfl HR2.out HRU.out (by rw [List.length_map, List.length_map]; omega) hb2.size ?_; intro v3 w3 hr3 hb3)
          have HR3 := Lib.hid hr3
          clear hr3
          go_wp2_with fail
          go_roundw
          case rel => exact ⟨j + 1, _, rfl, by omega, by go_num, by rw [HTK.out, Pl.longRow_snoc, List.map_append]; exact HR3.out, hb2.trans hb3⟩
          case measure => simp [intOf]; omega
        · obtain rfl : j = F.length := by omega
          have hij : ¬ (F.length : Int) < (F.length : Int) := by omega
          rw [List.take_length] at hr
          have hll := Pl.longRow_len k i F
          have hl3 : F.length * k ≤ 4 * 16 := Nat.mul_le_mul hf2 h3
          have HR1 := Lib.hid hr
          have hsq := hbq.size
          clear hr
          go_wp2_with fail
          refine (sliceSort HR1.out HPOS.out (by rw [List.length_map]; omega)).mono ?_
          rintro e w3 ⟨rfl, r3, hbel⟩
          have hb3 := hbel wo.heap.size wo (Nat.le_refl _) hbq
          rw [HSORT.out] at r3
          have hT3 := HT.out.below hb3 (by omega)
          have hfew := Pl.endsF_few (L := i + 1) h2 h3 (by omega)
          obtain ⟨g2, cap2, rfl, _⟩ := r3.lies (by rw [List.length_map]; omega)
          have HR3 := Lib.hid r3
          have HT3 := Lib.hid hT3
          have hz3 := hb3.size
          obtain ⟨q0, q1⟩ := hT3.cell (j := i + 1) (by omega)
          have e1 : IntKind.i64.wrap ((i : Int) + 1) = (i : Int) + 1 := IntWalk.i64_in _ (by omega)
          have i5 : (i : Int) + 1 < 5 := by omega
          have i0 : 0 ≤ (i : Int) + 1 := by omega
          have HRows3 := Lib.hid (HRows.out.below hb3)
          have HS3 := Lib.hid (HS.out.below hb3 (by omega))
          have HRB3 := Lib.hid (HR.out.below hb3 (by omega))
          obtain ⟨u, hu⟩ : ∃ u, Value.slice (some ⟨g2, 0, none⟩) ((Pl.endsF (k ^ (i + 1))).map fun d : Nat => (d : Int)).length cap2 = u := ⟨_, rfl⟩
          have HU := Lib.hid hu
          obtain ⟨N, hN⟩ : ∃ N, ((Pl.endsF (k ^ (i + 1))).map fun d : Nat => (d : Int)).length = N := ⟨_, rfl⟩
          rw [hu] at HR3
          rw [hN] at hu ⊢
          have HUE := Lib.hid hu
          clear hbel r3 hT3 HR1 hfew hN hll hl3 hu
          generalize vs[i + 1]?.getD undef = old at q0
          go_wp2_with fail
          go_roundw
          case rel =>
            rw [HUE.out]
            refine ⟨i + 1, vs.set (i + 1) u, by omega, by go_num, by simpa using hvl, ?_, HT3.out.set (i + 1) u, TabRows.set HRows3.out HT3.out (by omega) (Row.mono HR3.out (by omega)), ?_, ?_, ?_, ?_⟩
            · intro y hy
              rcases List.mem_or_eq_of_mem_set hy with h | rfl
              · exact HVS.out y h
              · exact ⟨_, _, _, HUE.out.symm⟩
            · exact HS3.out.below (n := w.heap.size + 1) ((Below.refl _ _).setCell (by simp) _) (by omega)
            · exact HRB3.out.below (n := w.heap.size + 2) ((Below.refl _ _).setCell (by simp) _) (by omega)
            · exact (hB.trans (hb3.mono (by omega))).setCell (by simp; omega) _
            · simp; omega
          case measure => simp [intOf]; omega
    · obtain rfl : i = L := by omega
      have hil : ¬ (i : Int) < (i : Int) := by omega
      have HT := Lib.hid hT
      have HR := Lib.hid hR
      have HRows := Lib.hid hRows
      clear hT hR hRows hS
      go_wp2_with (first | (refine tab_load rfl (.tmp 3) rfl rfl HT.out hvl ?_) | (refine tab_store rfl (.tmp 2) (.tmp 39) rfl rfl rfl HR.out rfl hvl hvs ?_))
      refine bodyPost_ret (results_cell_row rfl _ _ (w.heap.size + 1) 50 _ (0, 0) _ rfl (setRow_heap _ _ _ _ _ _ HR.out) Try.underlying50 rfl (by rw [info_five]; simp [hvl])) rfl ?_
      refine ⟨vs, rfl, hvl, ?_, hB.trans (below_row wo (by omega) _)⟩
      intro j hj
      have hr := HRows.out j hj
      rcases hr with ⟨g1, g2⟩
      refine ⟨g1, ?_⟩
      rcases g2 with ⟨h4, h5⟩ | ⟨g, cap, cur, h4, hg, hh, hrest⟩
      · exact Or.inl ⟨h4, h5⟩
      · refine Or.inr ⟨g, cap, cur, h4, hg, ?_, hrest⟩
        have hne : g ≠ w.heap.size + 1 := fun e => by rw [e, HR.out] at hh; exact absurd hh (by simp)
        rw [setRow_other _ _ _ _ hne]; exact hh

end Go.Proofs.Ytgdgafoaangmkaa
