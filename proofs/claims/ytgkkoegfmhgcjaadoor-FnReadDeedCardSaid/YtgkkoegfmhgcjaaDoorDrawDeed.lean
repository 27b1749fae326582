/-
  A deed drawn; deeds; a desk.
-/
import Derived.Deep.RegionWith
import Derived.Deep.DeepCutAuto
import Derived.Test.YtgkkoegfmhgcjaaDoorDrawBox
import Derived.Test.YtgkkoegfmhgcjaaDoorDrawWhole
import Derived.Test.YtgkkoegfmhgcjaaDoorStructs
namespace Go.Proofs.YtgkkoegfmhgcjaaDoor
open Go.RowKit Go.Shelf

theorem Only.above {r g o : Nat} {v : Value} {w w' : World} (h : Only r w w') (hg : w.heap.size ≤ g) : Only r w (w'.setCell ⟨g, o, none⟩ v) :=
  ⟨by simpa using h.size, fun k hk hr => (Below.heap_setCell _ _ _ _ (by simp; omega)).trans (h.block k hk hr)⟩
theorem Rd.set {w0 : World} {r q g o : Nat} {v : Value} {w : World} (h : Rd w0 r q w) (hg : r < g) : Rd w0 r q (w.setCell ⟨g, o, none⟩ v) :=
  h.over ((Below.refl _ _).setCell (by simp; omega) v)
theorem SBox.only {r : Nat} {W W' : World} {B : Nat} {T : TypeId} {cs : Array Value} (h : SBox W B T cs) (ho : Only r W W') (hne : B ≠ r) : SBox W' B T cs := (ho.block B h.lt hne).trans h

theorem IsRow.stay {k : IntKind} {w w' : World} {a : Option Addr} {len cap : Nat} {z : List Int} (h : IsRow k w a len cap z) (hb : Below w.heap.size w w') : IsRow k w' a len cap z := by
  rcases h with h | ⟨x, h1, h2, h3, h4, h5, h6⟩
  · exact .inl h
  · exact .inr ⟨x, h1, h2, h3, h4, fun i hi => (hb.cell (World.block_lt_of_cell? _ _ (h5 i hi))).trans (h5 i hi), h6⟩

/-- A deed's box behind the first statement. -/
def DeedCut (w0 : World) (r q : Nat) (w1 : World) (s : Value) (wc : World) : Prop :=
  ∃ g k, s = .pointer (some ⟨g, 0, none⟩) ∧ SBox wc g 25 #[.int .i64 k, .int .i64 0] ∧ w1.heap.size ≤ g ∧ Rd w0 r (q + 13) wc ∧ Only r w1 wc
/-- A deed is drawn. -/
def DeedDraw (w0 : World) (r q : Nat) (w : World) (e : Ending) (w' : World) : Prop :=
  ∃ k n : Int, e = .returned (.agg #[.int .i64 k, .int .i64 n]) ∧ Rd w0 r (q + 100) w' ∧ Only r w w'

def deedPsi (r B : Nat) (t : Nat) : Option (Value → World → Prop) :=
  if t = 3 then some fun v W => ∃ g, v = .pointer (some ⟨g, 0, none⟩) ∧ g ≠ r ∧ B ≤ g ∧ SBox W g 25 #[.int .i64 0, .int .i64 0]
  else if t = 14 then some fun v _ => ∃ x : Int, v = .agg #[.int .i64 x, .int .i64 0] else none
theorem deedPsi_keeps (r B : Nat) : ∀ t p, deedPsi r B t = some p → ∀ v W W', p v W → Only r W W' → p v W' := by
  intro t p h v W W' hp hO
  unfold deedPsi at h
  split at h
  · cases h
    obtain ⟨g, h1, h2, h3, h4⟩ := hp
    exact ⟨g, h1, h2, h3, h4.only hO h2⟩
  · split at h
    · cases h; exact hp
    · cases h
theorem deedPsi_in (r B : Nat) : ∀ t p, deedPsi r B t = some p → t ∈ [3, 14] := by
  intro t p h
  unfold deedPsi at h
  split at h
  · rename_i e; subst e; decide
  · split at h
    · rename_i e; subst e; decide
    · cases h

/-- One result: a struct in its box. -/
theorem results_one {fn : Func} {p : Tmp} {T : TypeId} (h : fn.results = #[.cell p T]) (tmps : Array Value) (w : World) (g : Nat) (cs : Array Value) (d : TypeDesc)
    (hp : tmps.getD p undef = .pointer (some ⟨g, 0, none⟩)) (hg : SBox w g T cs)
    (hd : d.isRow = true) (hu : Tryd.prog.underlying T = some d) (hi : (Tryd.prog.info? T).map (·.size) = some cs.size) :
    (results fn tmps).run Tryd.prog w = .ok (.agg cs) w := by
  have hp' : tmps[p]?.getD undef = .pointer (some ⟨g, 0, none⟩) := by simpa using hp
  simp [results, h, hp', asAddr, run_loadVar_row w g T T cs (0, 0) d hg hu (by cases d <;> first | rfl | exact absurd hd (by simp)) hi]
theorem cells_three {w w6 : World} {r : Nat} {a b c x : Int} (hO : Only r (w.alloc (.cells #[.int .i64 a, .int .i64 b, .int .i64 c] 3)) w6) (hr : r < w.heap.size) (h0 : 0 ≤ x) (h3 : x < 3) :
    ∃ (X : Nat) (y : Int), x = X ∧ w6.cell? ⟨w.heap.size, X, none⟩ = some (.int .i64 y) := by
  obtain ⟨X, rfl⟩ := Int.eq_ofNat_of_zero_le h0
  have hX : X = 0 ∨ X = 1 ∨ X = 2 := by omega
  rcases hX with rfl | rfl | rfl
  · exact ⟨0, a, rfl, hO.cell (p := ⟨w.heap.size, 0, none⟩) (by rw [World.cell?_alloc_new]; rfl) (by simp; omega)⟩
  · exact ⟨1, b, rfl, hO.cell (p := ⟨w.heap.size, 1, none⟩) (by rw [World.cell?_alloc_new]; rfl) (by simp; omega)⟩
  · exact ⟨2, c, rfl, hO.cell (p := ⟨w.heap.size, 2, none⟩) (by rw [World.cell?_alloc_new]; rfl) (by simp; omega)⟩
set_option maxRecDepth 100000 in
theorem deed_build_wp {o : Oper} {a : Act} {W : World} {K : Act → World → Prop} {Q : Exit → Act → World → Prop} {t : Nat} (ho : o.op = .build 25 #[(0, .tmp t)]) (x : Int) (hx : a.eval (.tmp t) = .int .i64 x)
    (hK : K (a.put o.dst (.agg #[.int .i64 x, .int .i64 0])) W) : o.wp Tryd.prog a W K Q := by
  refine wp_build 25 _ ho ?_ ?_
  · simp only [List.map_toArray, List.map_cons, List.map_nil, hx]; rfl
  · simp only [List.map_toArray, List.map_cons, List.map_nil, hx]; exact hK
set_option maxRecDepth 100000 in
theorem deed_alloc_wp {o : Oper} {a : Act} {W : World} {K : Act → World → Prop} {Q : Exit → Act → World → Prop} (ho : o.op = .alloc 25)
    (hK : K (a.put o.dst (.pointer (some ⟨W.heap.size, 0, none⟩))) (W.alloc (.cells #[.int .i64 0, .int .i64 0] 25))) : o.wp Tryd.prog a W K Q := by
  unfold Oper.wp execOp
  simp [ho, go_sem]
  exact hK

set_option maxRecDepth 100000 in
set_option maxHeartbeats 4000000 in
theorem l20Deed (w0 : World) (r q : Nat) (w : World) (hR : Rd w0 r q w) (hq : q ≤ 40000) :
    Calls Tryd.prog 11 #[.pointer (some ⟨r, 0, none⟩)] w (DeedDraw w0 r q w) := by
  have hR1 : Rd w0 r q (w.alloc (.cells #[.int .i64 0, .int .i64 0] 25)) := hR.kept ((Below.refl _ _).alloc (Nat.le_refl _) _)
  have hO1 : Only r w (w.alloc (.cells #[.int .i64 0, .int .i64 0] 25)) := Only.of_below ((Below.refl _ _).alloc (Nat.le_refl _) _)
  have hB1 : SBox (w.alloc (.cells #[.int .i64 0, .int .i64 0] 25)) w.heap.size 25 #[.int .i64 0, .int .i64 0] := SBox.new _ _ _
  have hz1 : w.heap.size + 1 ≤ (w.alloc (.cells #[.int .i64 0, .int .i64 0] 25)).heap.size := by simp
  have hrw : r < w.heap.size := hR.lt.2
  go_enter Tryd.func11, Tryd.ntmps11
  go_upto_region 1 with (fail)
  generalize w.alloc (.cells #[.int .i64 0, .int .i64 0] 25) = w1 at *
  go_cut [3] (fun s wc => DeedCut w0 r q w1 s wc)
  case first =>
    refine wp_region_put (q0 := q) (table1 w0 r) [(0, .ptr)] [3, 14] (deedPsi r w1.heap.size) (deedPsi_keeps _ _) (deedPsi_in _ _) mixed (by decide) ?_ (by kernel_rfl) ?_ hR1 (by simp; omega) ?_ ?_
    · intro t ht; simp only [List.mem_cons, List.not_mem_nil, or_false] at ht; rcases ht with rfl | rfl <;> decide
    · intro t s h
      rw [look_one] at h
      obtain ⟨rfl, rfl⟩ := h
      rfl
    · intro i o d hio hd hsp a W q' hin hR' hO'
      rcases i with _ | _ | _ | _ | _ | _ | _ | _ | _ | _ | _ | _ | _ | i
      all_goals first
        | (obtain rfl := Option.some.inj hio; obtain rfl := Option.some.inj hd; exact absurd hsp (by decide))
        | (cases hio; done)
        | (obtain rfl := Option.some.inj hio; cases hd; done)
        | (obtain rfl := Option.some.inj hio; obtain rfl := Option.some.inj hd)
      · obtain ⟨x, hx, _, _⟩ := hin 13 (.int 0 15) (by simp [Op.operands]) (by kernel_rfl)
        refine deed_build_wp rfl x hx ⟨_, rfl, fun p hp => ?_, hR', Only.refl _ _⟩
        cases hp
        exact ⟨x, rfl⟩
      · have hO2 : Only r W (W.alloc (.cells #[.int .i64 0, .int .i64 0] 25)) := Only.of_below ((Below.refl _ _).alloc (Nat.le_refl _) _)
        refine deed_alloc_wp rfl ⟨_, rfl, fun p hp => ?_, hR'.kept ((Below.refl _ _).alloc (Nat.le_refl _) _), hO2⟩
        cases hp
        exact ⟨W.heap.size, rfl, by have := hR'.lt; omega, hO'.size, SBox.new _ _ _⟩
    · intro o ho f W hin hpsi hold hR' hO'
      obtain rfl := Option.some.inj ho
      obtain ⟨g, hg, hgr, hgs, hB⟩ := hpsi 3 _ rfl
      obtain ⟨x, hx⟩ := hpsi 14 _ rfl
      simp only [List.size_toArray, List.length_cons, List.length_nil, Nat.reduceAdd, List.range, List.range.loop, List.map_cons, List.map_nil] at hR' ⊢
      rw [hg, hx, hold 0 (by decide), hold 1 (by decide), hold 2 (by decide)]
      refine wp_store_row _ _ _ rfl g #[.int .i64 x, .int .i64 0] rfl rfl _ _ hB (by rw [size_deed]; rfl) rfl (by simp [Value.oneCell']) ?_
      have hBB : SBox (W.setRow g #[.int .i64 x, .int .i64 0]) g 25 #[.int .i64 x, .int .i64 0] := setRow_heap _ _ _ _ _ _ hB
      have hRR := hR'.over (below_srow (n := r + 1) W (by have := hR1.lt; omega) #[.int .i64 x, .int .i64 0] (B := g))
      have hOO : Only r w1 (W.setRow g #[.int .i64 x, .int .i64 0]) := ⟨by have := hO'.size; simpa [World.setRow] using this, fun k hk hr => (setRow_other _ _ _ _ (by omega)).trans (hO'.block k hk hr)⟩
      clear hpsi hold hin ho
      show Exit.then _ _ .normal { tmps := #[.pointer (some ⟨r, 0, none⟩), undef, .pointer (some ⟨w.heap.size, 0, none⟩), .pointer (some ⟨g, 0, none⟩), f 4, f 5, f 6, f 7, f 8, f 9, f 10, f 11, f 12, f 13, .agg #[.int .i64 x, .int .i64 0], f 15, f 16, f 17, f 18, f 19, f 20, f 21, f 22, f 23, f 24, f 25, f 26, f 27, f 28, f 29, f 30], defers := [] } _
      generalize W.setRow g #[.int .i64 x, .int .i64 0] = W2 at *
      go_wp2_with fail
      go_meet
      exact ⟨g, x, rfl, hBB, hgs, hRR, hOO⟩
  case rest =>
    obtain ⟨g, k, rfl, hB, hg, hR2, hO2⟩ := hcut
    have hB0 := hB1.only hO2 (by omega)
    have hO := hO1.trans hO2
    have hzc := hO2.size
    clear hR hR1 hO1 hB1 hO2
    have c0 := hB.cell 0
    have c1 := hB.cell 1
    have f1 := hB.frozen 1
    have hgw : w.heap.size ≤ g := by omega
    have hgr : g ≠ r := by omega
    have hwr : w.heap.size ≠ r := by omega
    have hrg : r < g := by omega
    by_cases hk : k = 0
    · subst hk
      go_wp2_with fail
      refine (l20Whole w0 r (q + 13) wc hR2 (by omega)).mono ?_
      rintro e w3 ⟨x, rfl, x1, x2, hR3, hO3⟩
      rcases Int.lt_or_le x 0 with hm | hm
      · have B3 := hB.only hO3 hgr
        have c0' := B3.cell 0
        have c1' := B3.cell 1
        have f1' := B3.frozen 1
        have HB := Lib.hid (B3.set 1 (.int .i64 0))
        have HZ := Lib.hid ((hB0.only hO3 hwr).far (p := ⟨g, 1, none⟩) (by simp; omega) (.int .i64 0))
        have HO := Lib.hid ((hO.trans hO3).above (o := 1) (v := .int .i64 0) hgw)
        have HRd := Lib.hid (hR3.set (o := 1) (v := .int .i64 0) hrg)
        clear hB hB0 hO hR2 c0 c1 f1 hR3 hO3 B3
        go_wp2_with fail
        refine (odd w0 r (q + 63) 40 _ (HRd.out.le (by omega)) (by omega) (by omega) (by omega)).mono ?_
        rintro e w5 ⟨bb, rfl, hR5, hO5⟩
        have B5 := HB.out.only hO5 hgr
        have Z5 := HZ.out.only hO5 hwr
        have O5 := HO.out.trans hO5
        have hr5 := hR5.lt.2
        clear hO5 HB HZ HO HRd
        cases bb with
        | true =>
          have hR5a := hR5.kept ((Below.refl _ _).alloc (Nat.le_refl _) (.cells #[.int .i64 (-1), .int .i64 1000000001, .int .i64 7] 3))
          have B5a := B5.alloc (.cells #[.int .i64 (-1), .int .i64 1000000001, .int .i64 7] 3)
          have Z5a := Z5.alloc (.cells #[.int .i64 (-1), .int .i64 1000000001, .int .i64 7] 3)
          have O5a : Only r w (w5.alloc (.cells #[.int .i64 (-1), .int .i64 1000000001, .int .i64 7] 3)) := O5.trans (Only.of_below ((Below.refl _ _).alloc (Nat.le_refl _) _))
          go_wp2_with fail
          refine (pick w0 r _ 3 _ (by omega) hR5a).mono ?_
          rintro e w6 ⟨x, rfl, x0, x1, hR6, hO6⟩
          have x3 := x1 (by omega)
          obtain ⟨X, y, rfl, hc⟩ := cells_three hO6 hr5 x0 x3
          have B6 := B5a.only hO6 hgr
          have Z6 := Z5a.only hO6 hwr
          have O6 := O5a.trans hO6
          have e1 := B6.cell 1
          have e2 := B6.frozen 1
          have B7 := Lib.hid (B6.set 1 (.int .i64 y))
          have Z7 := Lib.hid (Z6.far (p := ⟨g, 1, none⟩) (by simp; omega) (.int .i64 y))
          have O7 := Lib.hid (O6.above (o := 1) (v := .int .i64 y) hgw)
          have R7 := Lib.hid (hR6.set (o := 1) (v := .int .i64 y) hrg)
          clear hR5 hR5a B5 B5a Z5 Z5a O5 O5a hO6 B6 Z6 O6 hR6 x1
          go_wp2_with (first | (refine deed_load rfl _ rfl rfl B7.out ?_) | (refine deed_store rfl _ _ rfl rfl rfl Z7.out ?_; intro w9 hS9 hbl9 hsz9 hO9))
          refine bodyPost_ret (results_one rfl _ _ w.heap.size _ _ rfl hS9 rfl Tryd.underlying25 (by rw [size_deed]; rfl)) rfl ?_
          exact ⟨_, _, rfl, (R7.out.over (hbl9 (r + 1) (by omega))).le (by omega), ⟨by rw [hsz9]; exact O7.out.size, fun i hi hir => (hO9 i (by omega)).trans (O7.out.block i hi hir)⟩⟩
        | false =>
          go_wp2_with (first | (refine deed_load rfl _ rfl rfl B5 ?_) | (refine deed_store rfl _ _ rfl rfl rfl Z5 ?_; intro w9 hS9 hbl9 hsz9 hO9))
          refine bodyPost_ret (results_one rfl _ _ w.heap.size _ _ rfl hS9 rfl Tryd.underlying25 (by rw [size_deed]; rfl)) rfl ?_
          exact ⟨_, _, rfl, (hR5.over (hbl9 (r + 1) (by omega))).le (by omega), ⟨by rw [hsz9]; exact O5.size, fun i hi hir => (hO9 i (by omega)).trans (O5.block i hi hir)⟩⟩
      · have hm2 : ¬ x < 0 := by omega
        clear hm
        have B3 := hB.only hO3 hgr
        have c0' := B3.cell 0
        have c1' := B3.cell 1
        have f1' := B3.frozen 1
        have HB := Lib.hid (B3.set 1 (.int .i64 x))
        have HZ := Lib.hid ((hB0.only hO3 hwr).far (p := ⟨g, 1, none⟩) (by simp; omega) (.int .i64 x))
        have HO := Lib.hid ((hO.trans hO3).above (o := 1) (v := .int .i64 x) hgw)
        have HRd := Lib.hid (hR3.set (o := 1) (v := .int .i64 x) hrg)
        clear hB hB0 hO hR2 c0 c1 f1 hR3 hO3 B3
        go_wp2_with fail
        refine (odd w0 r (q + 63) 40 _ (HRd.out.le (by omega)) (by omega) (by omega) (by omega)).mono ?_
        rintro e w5 ⟨bb, rfl, hR5, hO5⟩
        have B5 := HB.out.only hO5 hgr
        have Z5 := HZ.out.only hO5 hwr
        have O5 := HO.out.trans hO5
        have hr5 := hR5.lt.2
        clear hO5 HB HZ HO HRd
        cases bb with
        | true =>
          have hR5a := hR5.kept ((Below.refl _ _).alloc (Nat.le_refl _) (.cells #[.int .i64 (-1), .int .i64 1000000001, .int .i64 7] 3))
          have B5a := B5.alloc (.cells #[.int .i64 (-1), .int .i64 1000000001, .int .i64 7] 3)
          have Z5a := Z5.alloc (.cells #[.int .i64 (-1), .int .i64 1000000001, .int .i64 7] 3)
          have O5a : Only r w (w5.alloc (.cells #[.int .i64 (-1), .int .i64 1000000001, .int .i64 7] 3)) := O5.trans (Only.of_below ((Below.refl _ _).alloc (Nat.le_refl _) _))
          go_wp2_with fail
          refine (pick w0 r _ 3 _ (by omega) hR5a).mono ?_
          rintro e w6 ⟨x, rfl, x0, x1, hR6, hO6⟩
          have x3 := x1 (by omega)
          obtain ⟨X, y, rfl, hc⟩ := cells_three hO6 hr5 x0 x3
          have B6 := B5a.only hO6 hgr
          have Z6 := Z5a.only hO6 hwr
          have O6 := O5a.trans hO6
          have e1 := B6.cell 1
          have e2 := B6.frozen 1
          have B7 := Lib.hid (B6.set 1 (.int .i64 y))
          have Z7 := Lib.hid (Z6.far (p := ⟨g, 1, none⟩) (by simp; omega) (.int .i64 y))
          have O7 := Lib.hid (O6.above (o := 1) (v := .int .i64 y) hgw)
          have R7 := Lib.hid (hR6.set (o := 1) (v := .int .i64 y) hrg)
          clear hR5 hR5a B5 B5a Z5 Z5a O5 O5a hO6 B6 Z6 O6 hR6 x1
          go_wp2_with (first | (refine deed_load rfl _ rfl rfl B7.out ?_) | (refine deed_store rfl _ _ rfl rfl rfl Z7.out ?_; intro w9 hS9 hbl9 hsz9 hO9))
          refine bodyPost_ret (results_one rfl _ _ w.heap.size _ _ rfl hS9 rfl Tryd.underlying25 (by rw [size_deed]; rfl)) rfl ?_
          exact ⟨_, _, rfl, (R7.out.over (hbl9 (r + 1) (by omega))).le (by omega), ⟨by rw [hsz9]; exact O7.out.size, fun i hi hir => (hO9 i (by omega)).trans (O7.out.block i hi hir)⟩⟩
        | false =>
          go_wp2_with (first | (refine deed_load rfl _ rfl rfl B5 ?_) | (refine deed_store rfl _ _ rfl rfl rfl Z5 ?_; intro w9 hS9 hbl9 hsz9 hO9))
          refine bodyPost_ret (results_one rfl _ _ w.heap.size _ _ rfl hS9 rfl Tryd.underlying25 (by rw [size_deed]; rfl)) rfl ?_
          exact ⟨_, _, rfl, (hR5.over (hbl9 (r + 1) (by omega))).le (by omega), ⟨by rw [hsz9]; exact O5.size, fun i hi hir => (hO9 i (by omega)).trans (O5.block i hi hir)⟩⟩
    · have HB := Lib.hid hB
      have HZ := Lib.hid hB0
      have HO := Lib.hid hO
      have HRd := Lib.hid hR2
      clear hB hB0 hO hR2
      go_wp2_with fail
      refine (odd w0 r (q + 63) 40 _ (HRd.out.le (by omega)) (by omega) (by omega) (by omega)).mono ?_
      rintro e w5 ⟨bb, rfl, hR5, hO5⟩
      have B5 := HB.out.only hO5 hgr
      have Z5 := HZ.out.only hO5 hwr
      have O5 := HO.out.trans hO5
      have hr5 := hR5.lt.2
      clear hO5 HB HZ HO HRd
      cases bb with
      | true =>
        have hR5a := hR5.kept ((Below.refl _ _).alloc (Nat.le_refl _) (.cells #[.int .i64 (-1), .int .i64 1000000001, .int .i64 7] 3))
        have B5a := B5.alloc (.cells #[.int .i64 (-1), .int .i64 1000000001, .int .i64 7] 3)
        have Z5a := Z5.alloc (.cells #[.int .i64 (-1), .int .i64 1000000001, .int .i64 7] 3)
        have O5a : Only r w (w5.alloc (.cells #[.int .i64 (-1), .int .i64 1000000001, .int .i64 7] 3)) := O5.trans (Only.of_below ((Below.refl _ _).alloc (Nat.le_refl _) _))
        go_wp2_with fail
        refine (pick w0 r _ 3 _ (by omega) hR5a).mono ?_
        rintro e w6 ⟨x, rfl, x0, x1, hR6, hO6⟩
        have x3 := x1 (by omega)
        obtain ⟨X, y, rfl, hc⟩ := cells_three hO6 hr5 x0 x3
        have B6 := B5a.only hO6 hgr
        have Z6 := Z5a.only hO6 hwr
        have O6 := O5a.trans hO6
        have e1 := B6.cell 1
        have e2 := B6.frozen 1
        have B7 := Lib.hid (B6.set 1 (.int .i64 y))
        have Z7 := Lib.hid (Z6.far (p := ⟨g, 1, none⟩) (by simp; omega) (.int .i64 y))
        have O7 := Lib.hid (O6.above (o := 1) (v := .int .i64 y) hgw)
        have R7 := Lib.hid (hR6.set (o := 1) (v := .int .i64 y) hrg)
        clear hR5 hR5a B5 B5a Z5 Z5a O5 O5a hO6 B6 Z6 O6 hR6 x1
        go_wp2_with (first | (refine deed_load rfl _ rfl rfl B7.out ?_) | (refine deed_store rfl _ _ rfl rfl rfl Z7.out ?_; intro w9 hS9 hbl9 hsz9 hO9))
        refine bodyPost_ret (results_one rfl _ _ w.heap.size _ _ rfl hS9 rfl Tryd.underlying25 (by rw [size_deed]; rfl)) rfl ?_
        exact ⟨_, _, rfl, (R7.out.over (hbl9 (r + 1) (by omega))).le (by omega), ⟨by rw [hsz9]; exact O7.out.size, fun i hi hir => (hO9 i (by omega)).trans (O7.out.block i hi hir)⟩⟩
      | false =>
        go_wp2_with (first | (refine deed_load rfl _ rfl rfl B5 ?_) | (refine deed_store rfl _ _ rfl rfl rfl Z5 ?_; intro w9 hS9 hbl9 hsz9 hO9))
        refine bodyPost_ret (results_one rfl _ _ w.heap.size _ _ rfl hS9 rfl Tryd.underlying25 (by rw [size_deed]; rfl)) rfl ?_
        exact ⟨_, _, rfl, (hR5.over (hbl9 (r + 1) (by omega))).le (by omega), ⟨by rw [hsz9]; exact O5.size, fun i hi hir => (hO9 i (by omega)).trans (O5.block i hi hir)⟩⟩

end Go.Proofs.YtgkkoegfmhgcjaaDoor
