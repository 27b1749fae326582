/-
  impl: desks: DeskNew, putBack, DeskDo, DeskRun.
-/
import Derived.Deep.RegionHeld3
import Derived.Test.YtakkjlcnfkklpaaDeskI1
namespace Go.Proofs.Ytakkjlcnfkklpaa
open Go.RowKit Go.Shelf

/-- A struct's block is no row's. -/
theorem Row.notBox {base : Nat} {w : World} {g n cap : Nat} {xs : List Int} (h : Row base w (.slice (some ⟨g, 0, none⟩) n cap) xs) (_h1 : 1 ≤ xs.length) {B : Nat} {T : TypeId} {cs : Array Value} (hB : SBox w B T cs) (hT : T ≠ 3) : B ≠ g := by
  rintro rfl
  rcases h.2 with ⟨h2, _⟩ | ⟨g', cap', cur, hv, hg, hh, r⟩
  · cases h2
  · simp only [Value.slice.injEq, Option.some.injEq, Addr.mk.injEq, and_true] at hv
    obtain ⟨rfl, _, _⟩ := hv
    unfold SBox at hB
    rw [hB] at hh
    injection hh with hh
    injection hh with _ ht _
    exact hT ht
/-- The three cells of a struct. -/
theorem SBox.c3 {W : World} {B : Nat} {T : TypeId} {a b c : Value} (h : SBox W B T #[a, b, c]) : W.cell? ⟨B, 0, none⟩ = some a ∧ W.cell? ⟨B, 1, none⟩ = some b ∧ W.cell? ⟨B, 2, none⟩ = some c := ⟨h.cell 0, h.cell 1, h.cell 2⟩

set_option maxRecDepth 100000 in
set_option maxHeartbeats 2000000 in
theorem implDeskNew (n b : Int) (w : World) :
    Calls Try.prog 16 #[.int .i64 n, .int .i64 b] w (DoPost w False (Pl.newA n b)) := by
  have hR0 : SBox (w.alloc (.cells #[.int .i64 0, .int .i64 0, .slice none 0 0] 25)) w.heap.size 25 #[.int .i64 0, .int .i64 0, .slice none 0 0] := SBox.new _ _ _
  have hb0 : Below w.heap.size w (w.alloc (.cells #[.int .i64 0, .int .i64 0, .slice none 0 0] 25)) := (Below.refl _ w).alloc (Nat.le_refl _) _
  obtain ⟨R, hR⟩ : ∃ R, Pl.newA n b = R := ⟨_, rfl⟩
  rw [hR]
  have HR0 := Lib.hid hR0
  clear hR0
  cases hok : Pl.okB n b with
  | true =>
    rw [Pl.newA, if_pos hok] at hR
    subst hR
    go_enter Try.func16, Try.ntmps16
    go_wp2_with (first | (go_at_call 39; refine (hasDigits _ _ _).mono ?_; rintro e w' ⟨rfl, rfl⟩; rw [hok]) | (refine desk_store rfl _ _ rfl rfl rfl rfl HR0.out ?_; intro w2 hS2 hbl2 hsz2 _))
    refine bodyPost_ret (results_cell_tmp rfl _ _ w.heap.size #[.int .i64 b, .int .i64 n, .slice none 0 0] _ (.bool true) rfl rfl hS2 rfl Try.underlying25 (by rw [size_desk]; rfl)) rfl ?_
    exact ⟨.slice none 0 0, rfl, .inl (World.ownsRow_nil _ _ _ _), fun h => h.elim, hb0.trans (hbl2 w.heap.size (by omega))⟩
  | false =>
    rw [Pl.newA, if_neg (by rw [hok]; decide)] at hR
    subst hR
    go_enter Try.func16, Try.ntmps16
    go_wp2_with (first | (go_at_call 39; refine (hasDigits _ _ _).mono ?_; rintro e w' ⟨rfl, rfl⟩; rw [hok]) | (refine desk_store rfl _ _ rfl rfl rfl rfl HR0.out ?_; intro w2 hS2 hbl2 hsz2 _))
    refine bodyPost_ret (results_cell_tmp rfl _ _ w.heap.size #[.int .i64 0, .int .i64 0, .slice none 0 0] _ (.bool false) rfl rfl hS2 rfl Try.underlying25 (by rw [size_desk]; rfl)) rfl ?_
    exact ⟨.slice none 0 0, rfl, .inl (World.ownsRow_nil _ _ _ _), fun h => h.elim, hb0.trans (hbl2 w.heap.size (by omega))⟩

/-- The number of before put back, if there is one. -/
def Pl.backA (d : Pl.Dk) : Pl.Dk × Bool := if d.past = [] then (d, false) else (⟨d.b, d.past[d.past.length - 1]?.getD 0, d.past.take (d.past.length - 1)⟩, true)

-- PUTBACK

set_option maxRecDepth 100000 in
set_option maxHeartbeats 4000000 in
theorem implPutBack (d : Pl.Dk) (pv : Value) (w : World) (hp : Ints w pv d.past) (hx : d.past.length ≤ 100000000) :
    Calls Try.prog 47 #[.agg #[.int .i64 d.b, .int .i64 d.n, pv]] w (DoPost w False (Pl.backA d)) := by
  obtain ⟨b, m, p⟩ := d
  simp only at hp hx ⊢
  have hp' := hp
  obtain ⟨a0, cap0, rfl, _⟩ := hp'
  have hb0 : Below w.heap.size w ((w.alloc (.cells #[.int .i64 b, .int .i64 m, .slice a0 p.length cap0] 25)).alloc (.cells #[.int .i64 0, .int .i64 0, .slice none 0 0] 25)) := ((Below.refl _ w).alloc (Nat.le_refl _) _).alloc (by simp) _
  have hA0 : SBox ((w.alloc (.cells #[.int .i64 b, .int .i64 m, .slice a0 p.length cap0] 25)).alloc (.cells #[.int .i64 0, .int .i64 0, .slice none 0 0] 25)) w.heap.size 25 #[.int .i64 b, .int .i64 m, .slice a0 p.length cap0] := (SBox.new w 25 _).alloc _
  have hR0 : SBox ((w.alloc (.cells #[.int .i64 b, .int .i64 m, .slice a0 p.length cap0] 25)).alloc (.cells #[.int .i64 0, .int .i64 0, .slice none 0 0] 25)) (w.heap.size + 1) 25 #[.int .i64 0, .int .i64 0, .slice none 0 0] := by
    have := SBox.new (w.alloc (.cells #[.int .i64 b, .int .i64 m, .slice a0 p.length cap0] 25)) 25 #[.int .i64 0, .int .i64 0, .slice none 0 0]
    rwa [World.size_alloc] at this
  have hI0 := hp.below hb0
  have hz0 : w.heap.size + 1 + 1 ≤ ((w.alloc (.cells #[.int .i64 b, .int .i64 m, .slice a0 p.length cap0] 25)).alloc (.cells #[.int .i64 0, .int .i64 0, .slice none 0 0] 25)).heap.size := by simp
  have HAL := Lib.hid (fun W (h : Ints W (.slice a0 p.length cap0) p) => implAlone ⟨b, m, p⟩ (.slice a0 p.length cap0) W h hx)
  have HNIL : Hid (p = [] → Pl.backA ⟨b, m, p⟩ = (⟨b, m, p⟩, false)) := Lib.hid fun h => by unfold Pl.backA; rw [if_pos h]
  have HSOME : Hid (p ≠ [] → Pl.backA ⟨b, m, p⟩ = (⟨b, p[p.length - 1]?.getD 0, p.take (p.length - 1)⟩, true)) := Lib.hid fun h => by unfold Pl.backA; rw [if_neg h]
  simp only at HAL
  go_enter Try.func47, Try.ntmps47
  go_upto_region 1 with (fail)
  generalize ((w.alloc (.cells #[.int .i64 b, .int .i64 m, .slice a0 p.length cap0] 25)).alloc (.cells #[.int .i64 0, .int .i64 0, .slice none 0 0] 25)) = w0 at *
  have K0 := hA0.c3
  have K0A := (hA0.alloc (.cells #[.int .i64 0, .int .i64 0, .slice none 0 0] 25)).c3
  have HA := Lib.hid hA0
  have HR := Lib.hid hR0
  have HVI : Hid (Ints w0.drew (.slice a0 p.length cap0) p) := Lib.hid (hI0.below ((Below.refl _ _).drew))
  have HVA : Hid (Ints (w0.alloc (.cells #[.int .i64 0, .int .i64 0, .slice none 0 0] 25)).drew (.slice a0 p.length cap0) p) := Lib.hid (hI0.below (((Below.refl _ _).alloc (Nat.le_refl _) _).drew))
  have hne0 : w.heap.size ≠ w0.heap.size := by omega
  have hwrap : IntKind.i64.wrap ((p.length : Int) - 1) = (p.length : Int) - 1 := IntWalk.i64_in _ (by omega)
  clear hA0 hR0 hI0 hp
  go_region_held3 (fun w' => w'.cell? ⟨w.heap.size, 0, none⟩ = some (.int .i64 b) ∧ w'.cell? ⟨w.heap.size, 1, none⟩ = some (.int .i64 m) ∧ w'.cell? ⟨w.heap.size, 2, none⟩ = some (.slice a0 p.length cap0))
    (first
      | with_reducible exact K0
      | with_reducible exact K0A
      | with_reducible exact K1
      | with_reducible exact K1A
      | with_reducible exact K1B
      | with_reducible exact K1S
      | assumption)
    (first
      | (go_at_call 46; ((with_reducible refine (HAL.out _ HVI.out).mono ?_); rintro e w1 ⟨v1, rfl, r1', b1'⟩; have bb1 : Below w0.heap.size w0 w1 := (Below.refl w0.heap.size w0).drew.trans b1'; have r1 : Row w0.heap.size w1 v1 p := r1'; obtain ⟨a1, l1, rfl⟩ := r1.shape; have hA1 := HA.out.kept bb1; have K1 := hA1.c3; have K1A := (hA1.alloc (.cells #[.int .i64 0, .int .i64 0, .slice none 0 0] 25)).c3; have K1B := (hA1.alloc (.cells #[.int .i64 b, .int .i64 m, .slice a1 p.length l1] 25)).c3; have K1S := K1; have HR1 := Lib.hid (HR.out.kept bb1); have V1 := Lib.hid r1; have hb1 := hb0.trans (bb1.mono hb0.size); have hz1 := bb1.size; clear hA1 r1 r1' b1' bb1))
      | (go_at_call 46; ((with_reducible refine (HAL.out _ HVA.out).mono ?_); rintro e w1 ⟨v1, rfl, r1', b1'⟩; have bb1 : Below w0.heap.size w0 w1 := (((Below.refl w0.heap.size w0).alloc (Nat.le_refl _) (.cells #[.int .i64 0, .int .i64 0, .slice none 0 0] 25)).drew).trans (b1'.mono (by simp)); have r6 : Row (w0.heap.size + 1) w1 v1 p := Row.mono r1' (by simp); have hN1 : SBox w1 w0.heap.size 25 #[.int .i64 0, .int .i64 0, .slice none 0 0] := (b1'.block w0.heap.size (by simp)).trans (heap_alloc_new w0 _); have n0 := hN1.cell 0; have n1 := hN1.cell 1; have n2 := hN1.cell 2; have f0 := hN1.frozen 0; have f1 := hN1.frozen 1; have f2 := hN1.frozen 2; have HN1 := Lib.hid hN1; have R6 := Lib.hid r6; obtain ⟨a1, l1, rfl⟩ := r6.shape; have hA1 := HA.out.kept bb1; have K1 := hA1.c3; have K1A := K1; have K1B := K1; have K1S := (((hA1.far (p := ⟨w0.heap.size, 0, none⟩) hne0 (.int .i64 b)).far (p := ⟨w0.heap.size, 1, none⟩) hne0 (.int .i64 m)).far (p := ⟨w0.heap.size, 2, none⟩) hne0 (.slice a1 p.length l1)).c3; have HR1 := Lib.hid (HR.out.kept bb1); have hb1 := hb0.trans (bb1.mono hb0.size); have hz1 := bb1.size; clear hA1 r6 hN1 r1' b1' bb1))
      )
  · have HS : Hid (SBox (w1.alloc (.cells #[.int .i64 b, .int .i64 m, .slice a1 p.length l1] 25)) w1.heap.size 25 #[.int .i64 b, .int .i64 m, .slice a1 p.length l1]) := Lib.hid (SBox.new _ _ _)
    have HRs := Lib.hid (HR1.out.alloc (.cells #[.int .i64 b, .int .i64 m, .slice a1 p.length l1] 25))
    have HV : Hid (Row (w.heap.size + 2) (w1.alloc (.cells #[.int .i64 b, .int .i64 m, .slice a1 p.length l1] 25)) (.slice a1 p.length l1) p) := Lib.hid (Row.mono (World.ownsRow.alloc V1.out _) hz0)
    have hbW := hb1.alloc hb1.size (.cells #[.int .i64 b, .int .i64 m, .slice a1 p.length l1] 25)
    have hBR : w.heap.size + 1 < w1.heap.size := by omega
    clear K0 K0A K1 K1A K1B K1S HR1 V1 hb1 HVI HVA HA HR HAL
    generalize w1.alloc (.cells #[.int .i64 b, .int .i64 m, .slice a1 p.length l1] 25) = W at *
    generalize w1.heap.size = B at *
    by_cases hp0 : p = []
    · have hR := Lib.hid (HNIL.out hp0)
      have hl0 : p.length = 0 := by rw [hp0]; rfl
      have hlt : (p.length : Int) < 1 := by omega
      have hlt' : (p.length : Int) - 1 < 0 := by omega
      clear hl0
      go_wp2_with (first | (refine desk_load rfl _ rfl rfl HS.out ?_) | (refine desk_store rfl _ _ rfl rfl rfl rfl HRs.out ?_; intro w9 hS9 hbl9 hsz9 hO9))
      refine bodyPost_ret (results_cell_tmp rfl _ _ (w.heap.size + 1) #[.int .i64 b, .int .i64 m, .slice a1 p.length l1] _ (.bool false) rfl rfl hS9 rfl Try.underlying25 (by rw [size_desk]; rfl)) rfl ?_
      rw [hR.out]
      exact ⟨_, rfl, .inl (Row.mono (Row.others HV.out (B := w.heap.size + 1) (by omega) hO9) (by omega)), fun h => h.elim, hbW.trans (hbl9 w.heap.size (by omega))⟩
    · have hR := Lib.hid (HSOME.out hp0)
      have hl : 1 ≤ p.length := List.length_pos_iff.2 hp0
      obtain ⟨g, cap, hsl, hg0, hg, hgc, _, hcell⟩ := HV.out.lies hl
      simp only [Value.slice.injEq, true_and] at hsl
      obtain ⟨rfl, rfl⟩ := hsl
      obtain ⟨q, hq⟩ : ∃ q, p.length = q + 1 := ⟨p.length - 1, by omega⟩
      have hlast := hcell q (by omega)
      have hrow := Lib.hid (HV.out.front rfl (m := q) (by omega))
      have s1 := HS.out.cell 1
      have s2 := HS.out.cell 2
      have f1 := HS.out.frozen 1
      have f2 := HS.out.frozen 2
      rw [hq] at hR hgc HS s1 s2 ⊢
      rw [Nat.add_sub_cancel] at hR
      have hwq : IntKind.i64.wrap (q : Int) = (q : Int) := IntWalk.i64_in _ (by omega)
      have hneB : B ≠ g := Row.notBox HV.out hl HS.out (by decide)
      have i1 : (q : Int) < (q : Int) + 1 := by omega
      have i2 : 0 ≤ (q : Int) := by omega
      have i3 : q < q + 1 := by omega
      have i4 : q ≤ l1 := by omega
      have i5 : (q : Int) ≤ (l1 : Int) := by omega
      have i6 : (0 : Int) < (q : Int) + 1 := by omega
      have i7 : ¬ (q : Int) + 1 < 1 := by omega
      have i8 : ¬ (q : Int) + 1 - 1 < 0 := by omega
      have i9 : ((q + 1 : Nat) : Int) - 1 = (q : Int) := by omega
      rw [i9]
      generalize p[q]?.getD 0 = L at *
      clear hcell hq hl hp0 i9 hwrap
      go_upto_region 4 with (fail)
      go_region
      have hS8 : SBox (((W.setCell ⟨B, 1, none⟩ (.int .i64 L)).setCell ⟨B, 2, none⟩ (.slice (some ⟨g, 0, none⟩) q l1)).drew) B 25 #[.int .i64 b, .int .i64 L, .slice (some ⟨g, 0, none⟩) q l1] := (HS.out.set 1 _).set 2 _
      have hR8 : SBox (((W.setCell ⟨B, 1, none⟩ (.int .i64 L)).setCell ⟨B, 2, none⟩ (.slice (some ⟨g, 0, none⟩) q l1)).drew) (w.heap.size + 1) 25 #[.int .i64 0, .int .i64 0, .slice none 0 0] := (HRs.out.far (p := ⟨B, 1, none⟩) (Nat.ne_of_lt hBR) _).far (p := ⟨B, 2, none⟩) (Nat.ne_of_lt hBR) _
      have hV8 : Row (w.heap.size + 2) (((W.setCell ⟨B, 1, none⟩ (.int .i64 L)).setCell ⟨B, 2, none⟩ (.slice (some ⟨g, 0, none⟩) q l1)).drew) (.slice (some ⟨g, 0, none⟩) q l1) (p.take q) := (hrow.out.setBox HS.out (by decide) 1 _).setBox (HS.out.set 1 _) (by decide) 2 _
      have hb8 : Below w.heap.size w (((W.setCell ⟨B, 1, none⟩ (.int .i64 L)).setCell ⟨B, 2, none⟩ (.slice (some ⟨g, 0, none⟩) q l1)).drew) := ((hbW.setCell (p := ⟨B, 1, none⟩) (by simp; omega) _).setCell (p := ⟨B, 2, none⟩) (by simp; omega) _).drew
      have HS8 := Lib.hid hS8
      have HR8 := Lib.hid hR8
      have HV8 := Lib.hid hV8
      clear hS8 hR8 hV8 s1 s2 f1 f2 hlast
      generalize ((W.setCell ⟨B, 1, none⟩ (.int .i64 L)).setCell ⟨B, 2, none⟩ (.slice (some ⟨g, 0, none⟩) q l1)).drew = W8 at *
      go_wp2_with (first | (refine desk_load rfl _ rfl rfl HS8.out ?_) | (refine desk_store rfl _ _ rfl rfl rfl rfl HR8.out ?_; intro w9 hS9 hbl9 hsz9 hO9))
      refine bodyPost_ret (results_cell_tmp rfl _ _ (w.heap.size + 1) #[.int .i64 b, .int .i64 L, .slice (some ⟨g, 0, none⟩) q l1] _ (.bool true) rfl rfl hS9 rfl Try.underlying25 (by rw [size_desk]; rfl)) rfl ?_
      rw [hR.out]
      exact ⟨_, rfl, .inl (Row.mono (Row.others HV8.out (B := w.heap.size + 1) (by omega) hO9) (by omega)), fun h => h.elim, hb8.trans (hbl9 w.heap.size (by omega))⟩
  · have HS : Hid (SBox (((w1.setCell ⟨w0.heap.size, 0, none⟩ (.int .i64 b)).setCell ⟨w0.heap.size, 1, none⟩ (.int .i64 m)).setCell ⟨w0.heap.size, 2, none⟩ (.slice a1 p.length l1)) w0.heap.size 25 #[.int .i64 b, .int .i64 m, .slice a1 p.length l1]) := Lib.hid (((HN1.out.set 0 _).set 1 _).set 2 _)
    have HRs := Lib.hid (((HR1.out.far (p := ⟨w0.heap.size, 0, none⟩) (by simp; omega) (.int .i64 b)).far (p := ⟨w0.heap.size, 1, none⟩) (by simp; omega) (.int .i64 m)).far (p := ⟨w0.heap.size, 2, none⟩) (by simp; omega) (.slice a1 p.length l1))
    have HV : Hid (Row (w.heap.size + 2) (((w1.setCell ⟨w0.heap.size, 0, none⟩ (.int .i64 b)).setCell ⟨w0.heap.size, 1, none⟩ (.int .i64 m)).setCell ⟨w0.heap.size, 2, none⟩ (.slice a1 p.length l1)) (.slice a1 p.length l1) p) := Lib.hid (Row.mono (((R6.out.setOther (p := ⟨w0.heap.size, 0, none⟩) (by simp) _).setOther (p := ⟨w0.heap.size, 1, none⟩) (by simp) _).setOther (p := ⟨w0.heap.size, 2, none⟩) (by simp) _) (by omega))
    have hbW := below_three hb1 (show w.heap.size ≤ w0.heap.size by omega) (.int .i64 b) (.int .i64 m) (.slice a1 p.length l1)
    have hBR : w.heap.size + 1 < w0.heap.size := by omega
    clear K0 K0A K1 K1A K1B K1S HR1 R6 hb1 HVI HVA HA HR HAL HN1 n0 n1 n2 f0 f1 f2 hne0
    generalize (((w1.setCell ⟨w0.heap.size, 0, none⟩ (.int .i64 b)).setCell ⟨w0.heap.size, 1, none⟩ (.int .i64 m)).setCell ⟨w0.heap.size, 2, none⟩ (.slice a1 p.length l1)) = W at *
    generalize w0.heap.size = B at *
    by_cases hp0 : p = []
    · have hR := Lib.hid (HNIL.out hp0)
      have hl0 : p.length = 0 := by rw [hp0]; rfl
      have hlt : (p.length : Int) < 1 := by omega
      have hlt' : (p.length : Int) - 1 < 0 := by omega
      clear hl0
      go_wp2_with (first | (refine desk_load rfl _ rfl rfl HS.out ?_) | (refine desk_store rfl _ _ rfl rfl rfl rfl HRs.out ?_; intro w9 hS9 hbl9 hsz9 hO9))
      refine bodyPost_ret (results_cell_tmp rfl _ _ (w.heap.size + 1) #[.int .i64 b, .int .i64 m, .slice a1 p.length l1] _ (.bool false) rfl rfl hS9 rfl Try.underlying25 (by rw [size_desk]; rfl)) rfl ?_
      rw [hR.out]
      exact ⟨_, rfl, .inl (Row.mono (Row.others HV.out (B := w.heap.size + 1) (by omega) hO9) (by omega)), fun h => h.elim, hbW.trans (hbl9 w.heap.size (by omega))⟩
    · have hR := Lib.hid (HSOME.out hp0)
      have hl : 1 ≤ p.length := List.length_pos_iff.2 hp0
      obtain ⟨g, cap, hsl, hg0, hg, hgc, _, hcell⟩ := HV.out.lies hl
      simp only [Value.slice.injEq, true_and] at hsl
      obtain ⟨rfl, rfl⟩ := hsl
      obtain ⟨q, hq⟩ : ∃ q, p.length = q + 1 := ⟨p.length - 1, by omega⟩
      have hlast := hcell q (by omega)
      have hrow := Lib.hid (HV.out.front rfl (m := q) (by omega))
      have s1 := HS.out.cell 1
      have s2 := HS.out.cell 2
      have f1 := HS.out.frozen 1
      have f2 := HS.out.frozen 2
      rw [hq] at hR hgc HS s1 s2 ⊢
      rw [Nat.add_sub_cancel] at hR
      have hwq : IntKind.i64.wrap (q : Int) = (q : Int) := IntWalk.i64_in _ (by omega)
      have hneB : B ≠ g := Row.notBox HV.out hl HS.out (by decide)
      have i1 : (q : Int) < (q : Int) + 1 := by omega
      have i2 : 0 ≤ (q : Int) := by omega
      have i3 : q < q + 1 := by omega
      have i4 : q ≤ l1 := by omega
      have i5 : (q : Int) ≤ (l1 : Int) := by omega
      have i6 : (0 : Int) < (q : Int) + 1 := by omega
      have i7 : ¬ (q : Int) + 1 < 1 := by omega
      have i8 : ¬ (q : Int) + 1 - 1 < 0 := by omega
      have i9 : ((q + 1 : Nat) : Int) - 1 = (q : Int) := by omega
      rw [i9]
      generalize p[q]?.getD 0 = L at *
      clear hcell hq hl hp0 i9 hwrap
      go_upto_region 4 with (fail)
      go_region
      have hS8 : SBox (((W.setCell ⟨B, 1, none⟩ (.int .i64 L)).setCell ⟨B, 2, none⟩ (.slice (some ⟨g, 0, none⟩) q l1)).drew) B 25 #[.int .i64 b, .int .i64 L, .slice (some ⟨g, 0, none⟩) q l1] := (HS.out.set 1 _).set 2 _
      have hR8 : SBox (((W.setCell ⟨B, 1, none⟩ (.int .i64 L)).setCell ⟨B, 2, none⟩ (.slice (some ⟨g, 0, none⟩) q l1)).drew) (w.heap.size + 1) 25 #[.int .i64 0, .int .i64 0, .slice none 0 0] := (HRs.out.far (p := ⟨B, 1, none⟩) (Nat.ne_of_lt hBR) _).far (p := ⟨B, 2, none⟩) (Nat.ne_of_lt hBR) _
      have hV8 : Row (w.heap.size + 2) (((W.setCell ⟨B, 1, none⟩ (.int .i64 L)).setCell ⟨B, 2, none⟩ (.slice (some ⟨g, 0, none⟩) q l1)).drew) (.slice (some ⟨g, 0, none⟩) q l1) (p.take q) := (hrow.out.setBox HS.out (by decide) 1 _).setBox (HS.out.set 1 _) (by decide) 2 _
      have hb8 : Below w.heap.size w (((W.setCell ⟨B, 1, none⟩ (.int .i64 L)).setCell ⟨B, 2, none⟩ (.slice (some ⟨g, 0, none⟩) q l1)).drew) := ((hbW.setCell (p := ⟨B, 1, none⟩) (by simp; omega) _).setCell (p := ⟨B, 2, none⟩) (by simp; omega) _).drew
      have HS8 := Lib.hid hS8
      have HR8 := Lib.hid hR8
      have HV8 := Lib.hid hV8
      clear hS8 hR8 hV8 s1 s2 f1 f2 hlast
      generalize ((W.setCell ⟨B, 1, none⟩ (.int .i64 L)).setCell ⟨B, 2, none⟩ (.slice (some ⟨g, 0, none⟩) q l1)).drew = W8 at *
      go_wp2_with (first | (refine desk_load rfl _ rfl rfl HS8.out ?_) | (refine desk_store rfl _ _ rfl rfl rfl rfl HR8.out ?_; intro w9 hS9 hbl9 hsz9 hO9))
      refine bodyPost_ret (results_cell_tmp rfl _ _ (w.heap.size + 1) #[.int .i64 b, .int .i64 L, .slice (some ⟨g, 0, none⟩) q l1] _ (.bool true) rfl rfl hS9 rfl Try.underlying25 (by rw [size_desk]; rfl)) rfl ?_
      rw [hR.out]
      exact ⟨_, rfl, .inl (Row.mono (Row.others HV8.out (B := w.heap.size + 1) (by omega) hO9) (by omega)), fun h => h.elim, hb8.trans (hbl9 w.heap.size (by omega))⟩

set_option maxRecDepth 100000 in
set_option maxHeartbeats 4000000 in
theorem implDeskDo (d : Pl.Dk) (pv : Value) (k n : Int) (w : World) (hp : Ints w pv d.past) (hx : d.past.length ≤ 100000000) :
    Calls Try.prog 21 #[.agg #[.int .i64 d.b, .int .i64 d.n, pv], .agg #[.int .i64 k, .int .i64 n]] w (DoPost w False (Pl.doA d k n)) := by
  obtain ⟨b, m, p⟩ := d
  simp only at hp hx ⊢
  have hp' := hp
  obtain ⟨a0, cap0, rfl, _⟩ := hp'
  have hb0 : Below w.heap.size w (((w.alloc (.cells #[.int .i64 b, .int .i64 m, (.slice a0 p.length cap0)] 25)).alloc (.cells #[.int .i64 k, .int .i64 n] 36)).alloc (.cells #[.int .i64 0, .int .i64 0, .slice none 0 0] 25)) := (((Below.refl _ w).alloc (Nat.le_refl _) _).alloc (by simp) _).alloc (by simp; omega) _
  have hA0 : SBox (((w.alloc (.cells #[.int .i64 b, .int .i64 m, (.slice a0 p.length cap0)] 25)).alloc (.cells #[.int .i64 k, .int .i64 n] 36)).alloc (.cells #[.int .i64 0, .int .i64 0, .slice none 0 0] 25)) w.heap.size 25 #[.int .i64 b, .int .i64 m, (.slice a0 p.length cap0)] := ((SBox.new w 25 #[.int .i64 b, .int .i64 m, (.slice a0 p.length cap0)]).alloc _).alloc _
  have hE0 : SBox (((w.alloc (.cells #[.int .i64 b, .int .i64 m, (.slice a0 p.length cap0)] 25)).alloc (.cells #[.int .i64 k, .int .i64 n] 36)).alloc (.cells #[.int .i64 0, .int .i64 0, .slice none 0 0] 25)) (w.heap.size + 1) 36 #[.int .i64 k, .int .i64 n] := by
    have := (SBox.new (w.alloc (.cells #[.int .i64 b, .int .i64 m, (.slice a0 p.length cap0)] 25)) 36 #[.int .i64 k, .int .i64 n]).alloc (.cells #[.int .i64 0, .int .i64 0, .slice none 0 0] 25)
    rwa [World.size_alloc] at this
  have hR0 : SBox (((w.alloc (.cells #[.int .i64 b, .int .i64 m, (.slice a0 p.length cap0)] 25)).alloc (.cells #[.int .i64 k, .int .i64 n] 36)).alloc (.cells #[.int .i64 0, .int .i64 0, .slice none 0 0] 25)) (w.heap.size + 1 + 1) 25 #[.int .i64 0, .int .i64 0, .slice none 0 0] := by
    have := SBox.new ((w.alloc (.cells #[.int .i64 b, .int .i64 m, (.slice a0 p.length cap0)] 25)).alloc (.cells #[.int .i64 k, .int .i64 n] 36)) 25 #[.int .i64 0, .int .i64 0, .slice none 0 0]
    rwa [World.size_alloc, World.size_alloc] at this
  have hI0 := hp.below hb0
  have hz0 : (((w.alloc (.cells #[.int .i64 b, .int .i64 m, (.slice a0 p.length cap0)] 25)).alloc (.cells #[.int .i64 k, .int .i64 n] 36)).alloc (.cells #[.int .i64 0, .int .i64 0, .slice none 0 0] 25)).heap.size = w.heap.size + 1 + 1 + 1 := by simp
  have HOK := Lib.hid (fun W (h : Ints W (.slice a0 p.length cap0) p) => implDeskOk ⟨b, m, p⟩ (.slice a0 p.length cap0) W h hx)
  have HAL := Lib.hid (fun W (h : Ints W (.slice a0 p.length cap0) p) => implAlone ⟨b, m, p⟩ (.slice a0 p.length cap0) W h hx)
  have HPB := Lib.hid (fun W (h : Ints W (.slice a0 p.length cap0) p) => implPutBack ⟨b, m, p⟩ (.slice a0 p.length cap0) W h hx)
  have HCH := Lib.hid (fun M W (h : Ints W (.slice a0 p.length cap0) p) h8 => implChanged ⟨b, m, p⟩ (.slice a0 p.length cap0) M W h h8)
  have HLD := Lib.hid (fun W => implLeadsTo b m (.slice a0 p.length cap0) k n W)
  simp only at HOK HAL HPB HCH
  go_enter Try.func21, Try.ntmps21
  go_wp2_with fail
  generalize (((w.alloc (.cells #[.int .i64 b, .int .i64 m, (.slice a0 p.length cap0)] 25)).alloc (.cells #[.int .i64 k, .int .i64 n] 36)).alloc (.cells #[.int .i64 0, .int .i64 0, .slice none 0 0] 25)) = w0 at *
  refine (HOK.out _ hI0).mono ?_
  rintro e w1 ⟨rfl, b1⟩
  have HA1 := Lib.hid (hA0.kept b1)
  have HE1 := Lib.hid (hE0.kept b1)
  have HR1 := Lib.hid (hR0.kept b1)
  have HI1 := Lib.hid (hI0.below b1)
  have hb1 := hb0.trans (b1.mono hb0.size)
  have hz1 : w.heap.size + 3 ≤ w1.heap.size := by have := b1.size; omega
  clear hA0 hE0 hR0 hI0 hb0 hz0 b1 HOK hp
  by_cases hok : Pl.dkB ⟨b, m, p⟩ = true
  · rw [hok]
    have HB : Hid (p.length ≤ 8 ∧ Pl.baseB b = true) := Lib.hid (by
      obtain ⟨h1, _, h2⟩ := (Pl.dkB_iff _).1 hok
      refine ⟨h2, ?_⟩
      unfold Pl.okB at h1
      rw [Bool.and_eq_true] at h1
      exact h1.1)
    have ek := HE1.out.cell 0
    have en := HE1.out.cell 1
    have am := HA1.out.cell 1
    have ab := HA1.out.cell 0
    by_cases hfar : n ≠ 0 ∧ k ≠ 0
    · have hR := Lib.hid (Pl.doA_far hok hfar.1 hfar.2)
      have t1 : (n != 0) = true := by simpa using hfar.1
      have t2 : (k != 0) = true := by simpa using hfar.2
      clear hfar hok
      go_wp2_with (first | (refine desk_load rfl _ rfl rfl HA1.out ?_))
      refine (HAL.out _ HI1.out).mono ?_
      rintro e w2 ⟨v2, rfl, r2', b2⟩
      have r2 : Row w1.heap.size w2 v2 p := r2'
      have HR2 := Lib.hid (HR1.out.kept b2)
      have hb2 := hb1.trans (b2.mono hb1.size)
      have hz2 := b2.size
      clear r2' b2 HR1 HA1 HE1 HI1 HAL HPB HCH HLD ek en am ab
      obtain ⟨a2, c2, rfl⟩ := r2.shape
      go_wp2_with (refine desk_store rfl _ _ rfl rfl rfl rfl HR2.out ?_; intro w3 hS3 hbl3 hsz3 hO3)
      refine bodyPost_ret (results_cell_tmp rfl _ _ (w.heap.size + 1 + 1) #[.int .i64 b, .int .i64 m, .slice a2 p.length c2] _ (.bool false) rfl rfl hS3 rfl Try.underlying25 (by rw [size_desk]; rfl)) rfl ?_
      rw [hR.out]
      exact ⟨_, rfl, .inl (Row.mono (Row.others r2 (B := w.heap.size + 1 + 1) (by omega) hO3) (by omega)), fun h => h.elim, hb2.trans (hbl3 w.heap.size (by omega))⟩
    · by_cases h7 : k = 7
      · have hn : n = 0 := Classical.byContradiction fun hn => hfar ⟨hn, by omega⟩
        subst h7 hn
        have HR : Hid (Pl.doA ⟨b, m, p⟩ 7 0 = Pl.backA ⟨b, m, p⟩) := Lib.hid (by
          unfold Pl.backA
          by_cases he : p = []
          · rw [if_pos he]; exact Pl.doA_none0 hok he
          · rw [if_neg he]; exact Pl.doA_back hok ⟨rfl, rfl⟩ he)
        clear hfar hok
        go_wp2_with (refine desk_load rfl _ rfl rfl HA1.out ?_)
        refine (HPB.out _ HI1.out).mono ?_
        rintro e w2 ⟨v2, rfl, r2', _, b2⟩
        obtain ⟨R, hG⟩ : ∃ R, Pl.backA ⟨b, m, p⟩ = R := ⟨_, rfl⟩
        rw [hG] at r2' ⊢
        obtain ⟨⟨rb, rn, rp⟩, rt⟩ := R
        have HG := Lib.hid hG
        clear hG
        have r2 : OwnTail w1.heap.size w2 v2 rp := r2'
        have HR2 := Lib.hid (HR1.out.kept b2)
        have hb2 := hb1.trans (b2.mono hb1.size)
        have hz2 := b2.size
        clear r2' b2 HR1 HA1 HE1 HI1 HAL HPB HCH HLD ek en am ab
        obtain ⟨a2, c2, rfl, _⟩ := r2.ints
        have HS2 := Lib.hid HR2.out
        go_wp2_with (refine desk_store rfl _ _ rfl rfl rfl rfl HR2.out ?_; intro w3 hS3 hbl3 hsz3 hO3)
        refine bodyPost_ret (results_cell_tmp rfl _ _ (w.heap.size + 1 + 1) #[.int .i64 rb, .int .i64 rn, .slice a2 rp.length c2] _ (.bool rt) rfl rfl hS3 rfl Try.underlying25 (by rw [size_desk]; rfl)) rfl ?_
        rw [HR.out, HG.out]
        exact ⟨_, rfl, OwnTail.mono (OwnTail.stored r2 HS2.out (by decide) hO3) (by omega), fun h => h.elim, hb2.trans (hbl3 w.heap.size (by omega))⟩
      · have h7' : (k == 7) = false := by rw [beq_eq_false_iff_ne]; exact h7
        have hcase : (n != 0) = false ∨ ((n != 0) = true ∧ (k != 0) = false) := by
          by_cases hn : n = 0
          · left; simp [hn]
          · right
            have hk : k = 0 := Classical.byContradiction fun hk => hfar ⟨hn, hk⟩
            exact ⟨by simpa using hn, by simp [hk]⟩
        have HM : Hid (Pl.mkI ⟨b, m, p⟩ k n = Pl.leadI b m k n) := Lib.hid (Pl.leadI_mk ⟨b, m, p⟩ k n hfar)
        have HY := Lib.hid (fun h => Pl.doA_yes (d := ⟨b, m, p⟩) (k := k) (n := n) hok (fun hh => h7 hh.1.1) h)
        have HNO := Lib.hid (fun h => Pl.doA_not (d := ⟨b, m, p⟩) (k := k) (n := n) hok (fun hh => h7 hh.1.1) h)
        rw [HM.out] at HY HNO
        clear hfar hok h7 HM
        generalize Pl.leadI b m k n = M at *
        have HH : Hid (∀ W, Calls Try.prog 39 #[.int .i64 M, .int .i64 b] W fun e w' => e = .returned (.bool (Pl.wholeB M)) ∧ W = w') := Lib.hid fun W => by
          refine (hasDigits M b W).mono ?_
          rintro e w' ⟨rfl, rfl⟩
          refine ⟨ret_bool ?_, rfl⟩
          unfold Pl.okB Pl.wholeB
          rw [HB.out.2, Bool.true_and]
        rcases hcase with t1 | ⟨t1, t2⟩
        all_goals
          go_wp2_with (first | (refine desk_load rfl _ rfl rfl HA1.out ?_) | (refine deed_load rfl _ rfl rfl HE1.out ?_))
          refine (HLD.out _).mono ?_
          rintro e w2 ⟨rfl, b2⟩
          have HA2 := Lib.hid (HA1.out.kept b2)
          have HR2 := Lib.hid (HR1.out.kept b2)
          have HI2 := Lib.hid (HI1.out.below b2)
          have hb2 := hb1.trans (b2.mono hb1.size)
          have hz2 := b2.size
          have am := HA2.out.cell 1
          have ab := HA2.out.cell 0
          clear b2 HR1 HA1 HE1 HI1 HLD HPB ek en
          by_cases hyes : Pl.wholeB M = true ∧ M ≠ m
          · have hR := Lib.hid (HY.out hyes)
            have hM : (M == m) = false := by rw [beq_eq_false_iff_ne]; exact hyes.2
            have HW := Lib.hid hyes.1
            clear hyes HY HNO
            go_wp2_with (first | (go_at_call 39; refine (HH.out _).mono ?_; rintro e w' ⟨rfl, rfl⟩; rw [HW.out]) | (refine desk_load rfl _ rfl rfl HA2.out ?_))
            refine (HCH.out M _ HI2.out HB.out.1).mono ?_
            rintro e w3 ⟨v3, rfl, r3', b3⟩
            have r3 : OwnTail w2.heap.size w3 v3 (Pl.cut8 (p ++ [m])) := r3'
            have HR3 := Lib.hid (HR2.out.kept b3)
            have hb3 := hb2.trans (b3.mono hb2.size)
            have hz3 := b3.size
            clear r3' b3 HR2 HA2 HI2 HAL HCH am ab
            generalize Pl.cut8 (p ++ [m]) = Q at *
            obtain ⟨a3, c3, rfl, _⟩ := r3.ints
            have HS3 := Lib.hid HR3.out
            go_wp2_with (refine desk_store rfl _ _ rfl rfl rfl rfl HR3.out ?_; intro w4 hS4 hbl4 hsz4 hO4)
            refine bodyPost_ret (results_cell_tmp rfl _ _ (w.heap.size + 1 + 1) #[.int .i64 b, .int .i64 M, .slice a3 Q.length c3] _ (.bool true) rfl rfl hS4 rfl Try.underlying25 (by rw [size_desk]; rfl)) rfl ?_
            rw [hR.out]
            exact ⟨_, rfl, (r3.stored HS3.out (by decide) hO4).mono (by omega), fun h => h.elim, hb3.trans (hbl4 w.heap.size (by omega))⟩
          · have hR := Lib.hid (HNO.out hyes)
            have hcase2 : (M == m) = true ∨ ((M == m) = false ∧ Pl.wholeB M = false) := by
              by_cases hm : M = m
              · left; simp [hm]
              · right
                refine ⟨by rw [beq_eq_false_iff_ne]; exact hm, ?_⟩
                cases hw : Pl.wholeB M with
                | false => rfl
                | true => exact absurd ⟨hw, hm⟩ hyes
            clear hyes HY HNO
            rcases hcase2 with hM | ⟨hM, hW⟩
            · go_wp2_with (refine desk_load rfl _ rfl rfl HA2.out ?_)
              refine (HAL.out _ HI2.out).mono ?_
              rintro e w3 ⟨v3, rfl, r3', b3⟩
              have r3 : Row w2.heap.size w3 v3 p := r3'
              have HR3 := Lib.hid (HR2.out.kept b3)
              have hb3 := hb2.trans (b3.mono hb2.size)
              have hz3 := b3.size
              clear r3' b3 HR2 HA2 HI2 HAL HCH am ab
              obtain ⟨a3, c3, rfl⟩ := r3.shape
              go_wp2_with (refine desk_store rfl _ _ rfl rfl rfl rfl HR3.out ?_; intro w4 hS4 hbl4 hsz4 hO4)
              refine bodyPost_ret (results_cell_tmp rfl _ _ (w.heap.size + 1 + 1) #[.int .i64 b, .int .i64 m, .slice a3 p.length c3] _ (.bool false) rfl rfl hS4 rfl Try.underlying25 (by rw [size_desk]; rfl)) rfl ?_
              rw [hR.out]
              exact ⟨_, rfl, .inl (Row.mono (Row.others r3 (B := w.heap.size + 1 + 1) (by omega) hO4) (by omega)), fun h => h.elim, hb3.trans (hbl4 w.heap.size (by omega))⟩
            · have HW := Lib.hid hW
              clear hW
              go_wp2_with (first | (go_at_call 39; refine (HH.out _).mono ?_; rintro e w' ⟨rfl, rfl⟩; rw [HW.out]) | (refine desk_load rfl _ rfl rfl HA2.out ?_))
              refine (HAL.out _ HI2.out).mono ?_
              rintro e w3 ⟨v3, rfl, r3', b3⟩
              have r3 : Row w2.heap.size w3 v3 p := r3'
              have HR3 := Lib.hid (HR2.out.kept b3)
              have hb3 := hb2.trans (b3.mono hb2.size)
              have hz3 := b3.size
              clear r3' b3 HR2 HA2 HI2 HAL HCH am ab
              obtain ⟨a3, c3, rfl⟩ := r3.shape
              go_wp2_with (refine desk_store rfl _ _ rfl rfl rfl rfl HR3.out ?_; intro w4 hS4 hbl4 hsz4 hO4)
              refine bodyPost_ret (results_cell_tmp rfl _ _ (w.heap.size + 1 + 1) #[.int .i64 b, .int .i64 m, .slice a3 p.length c3] _ (.bool false) rfl rfl hS4 rfl Try.underlying25 (by rw [size_desk]; rfl)) rfl ?_
              rw [hR.out]
              exact ⟨_, rfl, .inl (Row.mono (Row.others r3 (B := w.heap.size + 1 + 1) (by omega) hO4) (by omega)), fun h => h.elim, hb3.trans (hbl4 w.heap.size (by omega))⟩
  · have hno : Pl.dkB ⟨b, m, p⟩ = false := by simpa using hok
    rw [hno]
    have hR := Lib.hid (Pl.doA_none (k := k) (n := n) hok)
    clear HA1 HE1 HI1 hok hno HAL HPB HCH HLD
    go_wp2_with (refine desk_store rfl _ _ rfl rfl rfl rfl HR1.out ?_; intro w2 hS2 hbl2 hsz2 _)
    refine bodyPost_ret (results_cell_tmp rfl _ _ (w.heap.size + 1 + 1) #[.int .i64 0, .int .i64 0, .slice none 0 0] _ (.bool false) rfl rfl hS2 rfl Try.underlying25 (by rw [size_desk]; rfl)) rfl ?_
    rw [hR.out]
    exact ⟨.slice none 0 0, rfl, .inl (World.ownsRow_nil _ _ _ _), fun h => h.elim, hb1.trans (hbl2 w.heap.size (by omega))⟩

end Go.Proofs.Ytakkjlcnfkklpaa
