/-
  The palindrome of a first half (a method of a struct).
-/
import Derived.Test.YtaocefdannjlhaaTurned
import Derived.Test.YtaocefdannjlhaaRowFacts
import Derived.Test.YtaocefdannjlhaaMathHalf
import Derived.Test.YtaocefdannjlhaaWide
import Derived.Deep.RegionWith
namespace Go.Proofs.Ytaocefdannjlhaa
open Go.RowKit Go.Shelf

/-- append as a step of a region that draws, at rows. -/
theorem step_append_row {ops : Array Oper} {o : Oper} {a : Act} {W : World} {K : Act → World → Prop} {Q : Exit → Act → World → Prop} {E : Prop} (hgd : o.guard = none) (s x : Operand)
    (ho : o.op = .call { callee := .builtin .append, args := #[s, x], argTypes := #[31, 31] }) (base : Nat) (v : Value) (xs ys : List Int) (hs : a.eval s = v) (hv : Row base W v xs)
    (ad : Addr) (m c : Nat) (hx : a.eval x = .slice (some ad) m c) (hm : ys.length = m) (hnews : ∀ j u, (ys.map (Value.int .i64))[j]? = some u → W.cell? (ad.add j) = some u) (hl : xs.length + ys.length ≤ 1000000000) (hbase : base ≤ W.heap.size)
    (h : ∀ v' W', Row base W' v' (xs ++ ys) → Below base W W' → K (a.put o.dst v') W') :
    if Region.wanted o (yielded ops a.tmps) = true then Oper.wp Try.prog o a W K Q else E := by
  have hw : Region.wanted o (yielded ops a.tmps) = true := by simp [Region.wanted, hgd]
  rw [if_pos hw]
  obtain ⟨i0, hi0, hz0, hz1, hz2⟩ := info_parts info_int
  subst hm
  refine wp_append_own W s x 31 ho base 3 i0 (.int .i64 0) 1 8 Try.underlying31 hi0 hz0 hz1 hz2 rfl (by decide) v xs.length (xs.map (Value.int .i64)) hs hv ad ys.length c (ys.map (Value.int .i64)) hx (by simp) hnews (by simp [Value.oneCell']) (by unfold maxLen; omega) (by omega) hbase ?_
  intro v' w' hown hgrow _
  refine h v' w' ?_ (below_append (Below.refl _ _) hv hgrow hbase)
  unfold Row
  rw [List.length_append, List.map_append]
  exact hown

namespace Pl

theorem whole_pal {b L f : Nat} (h1 : 2 ≤ b) (h2 : b ≤ 16) (hP : palN b L f ≤ 1000000000) : whole (digI b f ++ (digI b f).reverse.drop (L % 2)) b = some (palN b L f) := by
  have e : digI b f ++ (digI b f).reverse.drop (L % 2) = (palRow b L f).reverse.map fun d : Nat => (d : Int) := by
    rw [digI_rev, palRow, List.reverse_append, List.reverse_reverse, List.map_append, digI, digs, List.map_drop]
  have hv : valF b 0 (palRow b L f).reverse = palN b L f := valF_rev b _
  have hp := digsR_pos b f
  have h0 : (palRow b L f).reverse ≠ [] := fun h0 => by
    rw [List.reverse_eq_nil_iff, palRow, List.append_eq_nil_iff] at h0
    rw [h0.2] at hp; simp at hp
  rw [e, whole_row h1 h2 h0 (fun x hx => palRow_mem h1 L f x (List.mem_reverse.1 hx)), hv, if_pos hP]

end Pl

/-- The box of a first half, behind what writes nothing of before. -/
theorem half_box {w w1 : World} {f L b : Int} (h : Below (w.heap.size + 1) (w.alloc (.cells #[.int .i64 f, .int .i64 L, .int .i64 b] 49)) w1) :
    w1.cell? ⟨w.heap.size, 0, none⟩ = some (.int .i64 f) ∧ w1.cell? ⟨w.heap.size, 1, none⟩ = some (.int .i64 L) ∧ w1.cell? ⟨w.heap.size, 2, none⟩ = some (.int .i64 b) ∧ Below w.heap.size w w1 ∧ w.heap.size < w1.heap.size :=
  ⟨(Below.cell h (p := ⟨w.heap.size, 0, none⟩) (by simp)).trans (by rw [World.cell?_alloc_new]; rfl), (Below.cell h (p := ⟨w.heap.size, 1, none⟩) (by simp)).trans (by rw [World.cell?_alloc_new]; rfl),
    (Below.cell h (p := ⟨w.heap.size, 2, none⟩) (by simp)).trans (by rw [World.cell?_alloc_new]; rfl),
    ((Below.refl _ w).alloc (Nat.le_refl _) _).trans (h.mono (by omega)), by have := h.size; simp at this; omega⟩

set_option maxRecDepth 100000 in
set_option maxHeartbeats 2000000 in
theorem halfPalEven (f L b P : Nat) (D : List Int) (h1 : 2 ≤ b) (h2 : b ≤ 16) (hf : f ≤ 1000000000) (hD : Pl.digI b f = D) (hl : 1 ≤ D.length) (hl' : D.length ≤ 30) (hr : L % 2 = 0) (hW : Pl.whole (D ++ D.reverse) b = some P) (w : World) :
    Calls Try.prog 54 #[.agg #[.int .i64 f, .int .i64 L, .int .i64 b]] w fun e w' => e = .returned (.int .i64 (P : Int)) ∧ Below w.heap.size w w' := by
  have HD := Lib.hid (digitsOfYes f b h1 h2 hf)
  rw [hD] at HD
  have HW := Lib.hid hW
  have e1 : (L : Int).tmod 2 = 0 := by rw [show (L : Int).tmod 2 = ((L % 2 : Nat) : Int) from rfl, hr]; rfl
  have e2 : (L : Int) % 2 = 0 := by omega
  clear hD hW hr
  go_enter Try.func54, Try.ntmps54
  have hb0 : Below (w.heap.size + 1) (w.alloc (.cells #[.int .i64 f, .int .i64 L, .int .i64 b] 49)) (w.alloc (.cells #[.int .i64 f, .int .i64 L, .int .i64 b] 49)) := Below.refl _ _
  go_wp2_with fail
  refine (HD.out _).mono ?_
  rintro e w1 ⟨v1, rfl, r1, b1⟩
  have hb1 := hb0.trans (b1.mono (by simp))
  obtain ⟨c0, c1, c2, hB1, hlt1⟩ := half_box hb1
  simp only [World.size_alloc] at r1
  have R1 : Hid (Row (w.heap.size + 1) w1.drew v1 D) := Lib.hid r1
  clear r1 b1 hb0
  go_wp2_with fail
  have hb1' := hb1.drew
  have HREV := Lib.hid (reversed v1 D w1.drew (Row.ints R1.out) (by omega))
  go_region_with (go_at_call 41; refine HREV.out.mono ?_; rintro e w2 ⟨v2, rfl, r2, b2⟩; obtain ⟨g2, cap2, rfl, hg2, hl2, hc2, hm2, hcell2⟩ := r2.lies (by rw [List.length_reverse]; exact hl); have hb2 := hb1'.trans (b2.mono (by rw [World.size_drew]; exact hlt1)); have hcl2 := Lib.hid hcell2; rw [List.length_reverse] at hc2; obtain ⟨d0, d1, d2, hB2, hlt2⟩ := half_box hb2; have R2 : Hid (Row (w.heap.size + 1) w2 v1 D) := Lib.hid (R1.out.below b2); clear r2 b2 c0 c1 c2 hcell2)
  all_goals
    have R2d : Hid (Row (w.heap.size + 1) w2.drew v1 D) := R2
    have HN : Hid (∀ j u, (D.reverse.map (Value.int .i64))[j]? = some u → w2.drew.cell? ((⟨g2, 0, none⟩ : Addr).add j) = some u) := Lib.hid (news_at fun j hj => by rw [Nat.zero_add]; exact hcl2.out j hj)
    have hb2d := hb2.drew
    have hll : D.length + D.reverse.length ≤ 1000000000 := by rw [List.length_reverse]; omega
    have hll' : (D ++ D.reverse).length ≤ 1000000000 := by rw [List.length_append]; exact hll
    have HLL := Lib.hid hll
    have HLL' := Lib.hid hll'
    have hsd : w.heap.size + 1 ≤ w2.drew.heap.size := by rw [World.size_drew]; exact hlt2
    have HSD := Lib.hid hsd
    clear hll hll' hsd hcl2 R1 R2 hb1 hb1' HREV hg2
    go_wp2_with fail
    go_region_law (first
      | (refine step_append_row (by rfl) _ _ (by rfl) (w.heap.size + 1) v1 D D.reverse (by rfl) R2d.out ⟨g2, 0, none⟩ D.length cap2 (by rfl) (by simp) HN.out HLL.out HSD.out ?_; intro v3 w3 r3 b3; have hb3 := hb2d.trans b3; have R3 := Lib.hid r3; obtain ⟨f0, f1, f2, hB3, hlt3⟩ := half_box hb3; clear r3 b3)
      | (go_simp; go_at_call 40; refine (implWholeOf _ (D ++ D.reverse) b _ (Row.ints R3.out) HLL'.out).mono ?_; rintro e w4 ⟨rfl, rfl⟩; rw [HW.out]))
    all_goals
      go_wp2
      go_ret
      exact ⟨rfl, hB3⟩

set_option maxRecDepth 100000 in
set_option maxHeartbeats 2000000 in
theorem halfPalOdd (f L b P : Nat) (D : List Int) (h1 : 2 ≤ b) (h2 : b ≤ 16) (hf : f ≤ 1000000000) (hD : Pl.digI b f = D) (hl : 1 ≤ D.length) (hl' : D.length ≤ 30) (hr : L % 2 = 1) (hW : Pl.whole (D ++ D.reverse.drop 1) b = some P) (w : World) :
    Calls Try.prog 54 #[.agg #[.int .i64 f, .int .i64 L, .int .i64 b]] w fun e w' => e = .returned (.int .i64 (P : Int)) ∧ Below w.heap.size w w' := by
  have HD := Lib.hid (digitsOfYes f b h1 h2 hf)
  rw [hD] at HD
  have HW := Lib.hid hW
  have e1 : (L : Int).tmod 2 = 1 := by rw [show (L : Int).tmod 2 = ((L % 2 : Nat) : Int) from rfl, hr]; rfl
  have e2 : (L : Int) % 2 = 1 := by omega
  have e3 : (1 : Int) ≤ (D.length : Int) := by omega
  clear hD hW hr
  go_enter Try.func54, Try.ntmps54
  have hb0 : Below (w.heap.size + 1) (w.alloc (.cells #[.int .i64 f, .int .i64 L, .int .i64 b] 49)) (w.alloc (.cells #[.int .i64 f, .int .i64 L, .int .i64 b] 49)) := Below.refl _ _
  go_wp2_with fail
  refine (HD.out _).mono ?_
  rintro e w1 ⟨v1, rfl, r1, b1⟩
  have hb1 := hb0.trans (b1.mono (by simp))
  obtain ⟨c0, c1, c2, hB1, hlt1⟩ := half_box hb1
  simp only [World.size_alloc] at r1
  have R1 : Hid (Row (w.heap.size + 1) w1.drew v1 D) := Lib.hid r1
  clear r1 b1 hb0
  go_wp2_with fail
  have hb1' := hb1.drew
  have HREV := Lib.hid (reversed v1 D w1.drew (Row.ints R1.out) (by omega))
  go_region_with (go_at_call 41; refine HREV.out.mono ?_; rintro e w2 ⟨v2, rfl, r2, b2⟩; obtain ⟨g2, cap2, rfl, hg2, hl2, hc2, hm2, hcell2⟩ := r2.lies (by rw [List.length_reverse]; exact hl); have hb2 := hb1'.trans (b2.mono (by rw [World.size_drew]; exact hlt1)); have hcl2 := Lib.hid hcell2; rw [List.length_reverse] at hc2; obtain ⟨d0, d1, d2, hB2, hlt2⟩ := half_box hb2; have R2 : Hid (Row (w.heap.size + 1) w2 v1 D) := Lib.hid (R1.out.below b2); clear r2 b2 c0 c1 c2 hcell2)
  all_goals
    obtain ⟨off, hoff, hcase⟩ : ∃ off, (if cap2 = 1 then (some ⟨g2, 0, none⟩ : Option Addr) else some ⟨g2, 1, none⟩) = some ⟨g2, off, none⟩ ∧ (off = 1 ∨ cap2 = 1) := by
      by_cases hc : cap2 = 1
      · exact ⟨0, by rw [if_pos hc], .inr hc⟩
      · exact ⟨1, by rw [if_neg hc], .inl rfl⟩
    rw [hoff]
    clear hoff
    have R2d : Hid (Row (w.heap.size + 1) w2.drew v1 D) := R2
    have hel : (D.reverse.drop 1).length = D.length - 1 := by rw [List.length_drop, List.length_reverse]
    have HN : Hid (∀ j u, ((D.reverse.drop 1).map (Value.int .i64))[j]? = some u → w2.drew.cell? ((⟨g2, off, none⟩ : Addr).add j) = some u) := Lib.hid (news_at fun j hj => by
      rw [hel] at hj
      rcases hcase with rfl | h
      · rw [List.getElem?_drop]
        exact hcl2.out (1 + j) (by rw [List.length_reverse]; omega)
      · omega)
    have hb2d := hb2.drew
    have hll : D.length + (D.reverse.drop 1).length ≤ 1000000000 := by rw [hel]; omega
    have hll' : (D ++ D.reverse.drop 1).length ≤ 1000000000 := by rw [List.length_append]; exact hll
    have HLL := Lib.hid hll
    have HLL' := Lib.hid hll'
    have hsd : w.heap.size + 1 ≤ w2.drew.heap.size := by rw [World.size_drew]; exact hlt2
    have HSD := Lib.hid hsd
    have HEL := Lib.hid hel
    clear hll hll' hsd hcl2 R1 R2 hb1 hb1' HREV hg2 hcase hel
    generalize D.reverse.drop 1 = E at *
    go_wp2_with fail
    go_region_law (first
      | (refine step_append_row (by rfl) _ _ (by rfl) (w.heap.size + 1) v1 D E (by rfl) R2d.out ⟨g2, off, none⟩ (D.length - 1) (cap2 - 1) (by rfl) HEL.out HN.out HLL.out HSD.out ?_; intro v3 w3 r3 b3; have hb3 := hb2d.trans b3; have R3 := Lib.hid r3; obtain ⟨f0, f1, f2, hB3, hlt3⟩ := half_box hb3; clear r3 b3)
      | (go_simp; go_at_call 40; refine (implWholeOf _ (D ++ E) b _ (Row.ints R3.out) HLL'.out).mono ?_; rintro e w4 ⟨rfl, rfl⟩; rw [HW.out]))
    all_goals
      go_wp2
      go_ret
      exact ⟨rfl, hB3⟩

end Go.Proofs.Ytaocefdannjlhaa
