/-
  The walk of the exact law of DeskOk.
-/
import Derived.Test.YtakkjlcnfkklpaaDeskI1
import Derived.Test.YtakkjlcnfkklpaaDeskExact
import Derived.Deep.RegionHeld3
namespace Go.Proofs.Ytakkjlcnfkklpaa
open Go.RowKit Go.Shelf


theorem IsRow.len_le {k : IntKind} {w : World} {a : Option Addr} {len cap : Nat} {zs : List Int} (h : IsRow k w a len cap zs) : len ≤ maxLen := by
  rcases h with ⟨_, h, _, _⟩ | ⟨_, _, h1, h2, _⟩
  · omega
  · omega

set_option maxRecDepth 100000 in
set_option maxHeartbeats 2000000 in
theorem FnExactDeskOk_walk (b0 n0 : Int) (a0 : Option Addr) (len0 cap0 : Nat) (z0 : List Int) (w : World) (_wb0 : (Lit.int .i64 b0).wf = true) (_wn0 : (Lit.int .i64 n0).wf = true) (w0 : IsRow .i64 w a0 len0 cap0 z0) :
    Calls Try.prog 7 #[.agg #[.int .i64 b0, .int .i64 n0, .slice a0 len0 cap0]] w fun e w' => e = .returned (.bool true) ∧ Below w.heap.size w w' := by
  have hmax := w0.len_le
  by_cases hl : 1048576 < len0
  · have HZ := Lib.hid (fun W => szDesk_no b0 n0 a0 len0 cap0 1048576 W (by omega) (by omega) (by unfold maxLen at hmax; omega))
    go_enter Try.func7, Try.ntmps7
    go_wp2_with fail
    refine (HZ.out _).mono ?_
    rintro e w1 ⟨rfl, b1⟩
    have c1 := ((Below.refl _ w).alloc (Nat.le_refl _) (.cells #[.int .i64 b0, .int .i64 n0, .slice a0 len0 cap0] 46)).trans (b1.mono (by simp))
    clear b1
    go_wp2
    go_ret
    exact ⟨rfl, c1⟩
  · have HZ := Lib.hid (fun W => szDesk_yes b0 n0 a0 len0 cap0 1048576 W (by omega) (by omega))
    obtain ⟨hI, hlen⟩ := w0.ints
    have hneg : ¬ (1048576 : Int) - (len0 : Int) < 0 := by omega
    generalize (1048576 : Int) - (len0 : Int) = LEFT at *
    obtain ⟨d, hd⟩ : ∃ d : Pl.Dk, d = ⟨b0, n0, z0.take len0⟩ := ⟨_, rfl⟩
    have hb : d.b = b0 := by rw [hd]
    have hn : d.n = n0 := by rw [hd]
    have hp : d.past = z0.take len0 := by rw [hd]
    rw [← hp] at hI hlen
    subst hb hn
    clear hd hp
    have hx : d.past.length ≤ 1000000000 := by omega
    have hx2 : d.past.length ≤ 100000000 := by omega
    have HT := Lib.hid (fun W hb => toDesk d (.slice a0 len0 cap0) W (hI.below hb) hx)
    clear hI w0 hl hlen hmax
    go_enter Try.func7, Try.ntmps7
    go_wp2_with fail
    refine (HZ.out _).mono ?_
    rintro e w1 ⟨rfl, b1⟩
    have c1 := ((Below.refl _ w).alloc (Nat.le_refl _) (.cells #[.int .i64 d.b, .int .i64 d.n, .slice a0 len0 cap0] 46)).trans (b1.mono (by simp))
    have B1 := (SBox.new w 46 #[.int .i64 d.b, .int .i64 d.n, .slice a0 len0 cap0]).kept b1
    have d0 := B1.cell 0
    have d1 := B1.cell 1
    have d2 := B1.cell 2
    clear b1
    go_wp2_with fail
    refine (HT.out _ c1).mono ?_
    rintro e w2 ⟨v2, rfl, r2, b2⟩
    have c2 := c1.trans (b2.mono c1.size)
    have B2 := B1.kept b2
    have d0 := B2.cell 0
    have d1 := B2.cell 1
    have d2 := B2.cell 2
    clear b2 B1 c1
    go_wp2_with fail
    refine (specDeskOk d _ _ r2.ints hx).mono ?_
    rintro e w3 ⟨rfl, b3⟩
    have c3 := c2.trans (b3.mono c2.size)
    have B3 := B2.kept b3
    have d0 := B3.cell 0
    have d1 := B3.cell 1
    have d2 := B3.cell 2
    clear b3 B2 c2 r2
    go_wp2_with fail
    refine (HT.out _ c3).mono ?_
    rintro e w4 ⟨v4, rfl, r4, b4⟩
    have c4 := c3.trans (b4.mono c3.size)
    have B4 := B3.kept b4
    obtain ⟨a4, l4, rfl⟩ := r4.shape
    have c5 := c4.alloc c4.size (.cells #[.int .i64 d.b, .int .i64 d.n, .slice a4 d.past.length l4] 25)
    have X5 := SBox.new w4 25 #[.int .i64 d.b, .int .i64 d.n, .slice a4 d.past.length l4]
    have i5 := r4.ints.below ((Below.refl _ w4).alloc (Nat.le_refl _) (.cells #[.int .i64 d.b, .int .i64 d.n, .slice a4 d.past.length l4] 25))
    have B5 := B4.alloc (.cells #[.int .i64 d.b, .int .i64 d.n, .slice a4 d.past.length l4] 25)
    clear b4 B3 c3 r4 B4
    go_wp2_with fail
    generalize w4.alloc (.cells #[.int .i64 d.b, .int .i64 d.n, .slice a4 d.past.length l4] 25) = w5 at *
    refine (implDeskOk d _ _ i5 hx2).mono ?_
    rintro e w6 ⟨rfl, b6⟩
    have c6 := c5.trans (b6.mono c5.size)
    have B6 := B5.kept b6
    have X6 := X5.kept b6
    have i6 := i5.below b6
    have d0 := B6.cell 0
    have d1 := B6.cell 1
    have d2 := B6.cell 2
    have x0 := X6.cell 0
    have x1 := X6.cell 1
    have x2 := X6.cell 2
    clear b6 B5 X5 i5 c5
    have I6 := Lib.hid i6
    clear i6
    go_wp2_with fail
    go_region_held3 (fun w' => w'.cell? ⟨w4.heap.size, 0, none⟩ = some (.int .i64 d.b) ∧ w'.cell? ⟨w4.heap.size, 1, none⟩ = some (.int .i64 d.n) ∧ w'.cell? ⟨w4.heap.size, 2, none⟩ = some (.slice a4 d.past.length l4) ∧ w'.cell? ⟨w.heap.size, 0, none⟩ = some (.int .i64 d.b) ∧ w'.cell? ⟨w.heap.size, 1, none⟩ = some (.int .i64 d.n) ∧ w'.cell? ⟨w.heap.size, 2, none⟩ = some (.slice a0 len0 cap0))
      (first
        | exact ⟨x0, x1, x2, d0, d1, d2⟩
        | exact ⟨y0, y1, y2, e0, e1, e2⟩
        | exact ⟨u0, u1, u2, f0, f1, f2⟩)
      (first
        | (go_at_call 28; refine (HT.out _ c6.drew).mono ?_; rintro e w7 ⟨v7, rfl, r7, b7'⟩; have b7 : Below w6.heap.size w6 w7 := ((Below.refl _ w6).drew).trans b7'; have c7 := c6.trans (b7.mono c6.size); have i7 := I6.out.below b7; have j7 := r7.ints; have X7 := X6.kept b7; have y0 := X7.cell 0; have y1 := X7.cell 1; have y2 := X7.cell 2; have B7 := B6.kept b7; have e0 := B7.cell 0; have e1 := B7.cell 1; have e2 := B7.cell 2; have I7 := Lib.hid i7; have J7 := Lib.hid j7; clear i7 j7 b7 b7' r7)
        | (go_at_call 29; refine (eqDesk d _ _ _ I7.out J7.out hx).mono ?_; rintro e w8 ⟨rfl, b8⟩; have c8 := c7.trans (b8.mono c7.size); have X8 := X7.kept b8; have u0 := X8.cell 0; have u1 := X8.cell 1; have u2 := X8.cell 2; have B8 := B7.kept b8; have f0 := B8.cell 0; have f1 := B8.cell 1; have f2 := B8.cell 2; clear b8))
    go_wp2
    go_ret
    exact ⟨rfl, c8⟩

end Go.Proofs.Ytakkjlcnfkklpaa
