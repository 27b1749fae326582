/-
  impl.RoundsUpTo: the least numbers of all rounds, in new memory.
-/
import Derived.Test.YthpimanfkbeanaaSort
import Derived.Test.YthpimanfkbeanaaStay
namespace Go.Proofs.Ythpimanfkbeanaa
open Go.RowKit Go.Shelf

namespace Pl
/-- The least number of the round into which n leads. -/
def lowG (t b : Int) (n : Nat) : Int := Lib.minOf (roundA n t b)
/-- A number up to which rounds are told, and a rule. -/
def upB (most t b : Int) : Bool := ruleB t b && (decide (1 ≤ most) && decide (most ≤ 500))
/-- The least numbers as the functions answer: none for others. -/
def upA (most t b : Int) : List Int := if upB most t b = true then upL (lowG t b) most.toNat else []
theorem upA_yes (most : Nat) (t b : Int) (h : upB most t b = true) : upA most t b = upL (lowG t b) most := by rw [upA, if_pos h]; rfl
theorem upA_no {most t b : Int} (h : ¬ upB most t b = true) : upA most t b = [] := by rw [upA, if_neg h]
theorem upB_iff (most t b : Int) : upB most t b = true ↔ ruleB t b = true ∧ 1 ≤ most ∧ most ≤ 500 := by simp [upB]
theorem upA_len (most t b : Int) : (upA most t b).length ≤ 500 := by
  by_cases h : upB most t b = true
  · have h2 := (upB_iff most t b).1 h
    obtain ⟨m, rfl⟩ := Int.eq_ofNat_of_zero_le (show 0 ≤ most by omega)
    rw [upA_yes m t b h]
    have := upL_len (lowG t b) m
    omega
  · rw [upA_no h]; simp
theorem okT_small {n : Nat} {t b : Int} (h : ruleB t b = true) (hn : n ≤ 1000000000) : okT n t b = true := by
  obtain ⟨s, k, rfl, rfl, hR⟩ := ruleB_nat h
  exact okT_of hR hn
theorem roundA_pos {n : Nat} {t b : Int} (h : ruleB t b = true) (hn : n ≤ 1000000000) : 1 ≤ (roundA n t b).length := by
  obtain ⟨s, k, rfl, rfl, hR⟩ := ruleB_nat h
  rw [roundA_yes n s k (okT_of hR hn), ints_len]
  exact List.length_pos_iff.2 (next_round hR hn).1.pos
end Pl

set_option maxRecDepth 100000 in
set_option maxHeartbeats 2000000 in
theorem upToYes (M : Nat) (t b : Int) (g1 : Pl.ruleB t b = true) (hM1 : 1 ≤ M) (hM : M ≤ 500) (w : World) :
    Calls Try.prog 32 #[.int .i64 M, .int .i64 t, .int .i64 b] w (ListPost w (Pl.upL (Pl.lowG t b) M)) := by
  obtain ⟨i0, hi0, hz0, hz1, hz2⟩ := info_parts info_int
  obtain ⟨G, hG⟩ : ∃ G, Pl.lowG t b = G := ⟨_, rfl⟩
  have HI : Hid (∀ (n : Nat) (W : World), n ≤ 500 → ∃ xs, Calls Try.prog 20 #[.int .i64 n, .int .i64 t, .int .i64 b] W (ListPost W xs) ∧ Lib.minOf xs = G n ∧ 1 ≤ xs.length ∧ xs.length ≤ 1000000000) :=
    Lib.hid fun n W hn => ⟨Pl.roundA n t b, implRoundFrom n t b W, by rw [← hG]; rfl, Pl.roundA_pos g1 (by omega), by have := Pl.roundA_len n t b; omega⟩
  rw [hG]
  clear hG
  have hM2 : ¬ (M : Int) < 1 := by omega
  have hM3 : ¬ 500 < (M : Int) := by omega
  go_enter Try.func32, Try.ntmps32
  go_wp2_with fail
  refine (ruleOk _ _ _).mono ?_
  rintro e w1 ⟨rfl, hb1⟩
  obtain ⟨_, _, hB, _⟩ := rule_box hb1
  clear hb1
  go_wp2_with fail
  go_loopw [8, 9] (fun v i wr => ∃ (m : Nat) (vv : Value), vv = v ∧ m ≤ M ∧ i = .int .i64 ((m : Int) + 1) ∧ Row w.heap.size wr vv (Pl.lows G m) ∧ Below w.heap.size w wr) (fun _ i _ => M + 1 - (intOf i).toNat)
  case atStart => exact ⟨0, _, rfl, by omega, rfl, World.ownsRow_nil _ _ _ _, hB⟩
  case round =>
    obtain ⟨m, vv, rfl, hm, rfl, hr, hbw⟩ := hrel
    have hlen : (Pl.lows G m).length = m := Pl.lows_len G m
    by_cases hlt : m < M
    · obtain ⟨xs, hC, hmin, hx1, hx2⟩ := HI.out (m + 1) wr (by omega)
      have HC := Lib.hid hC
      have HM := Lib.hid hmin
      have HS := Lib.hid (Pl.lows_succ G m)
      clear hC hmin
      generalize Pl.lows G m = L at *
      have hi : (m : Int) + 1 ≤ (M : Int) := by omega
      rw [show ((m + 1 : Nat) : Int) = (m : Int) + 1 by omega] at HC
      go_wp2_with fail
      refine HC.out.mono ?_
      rintro e w2 ⟨v2, rfl, r2, b2⟩
      have hr2 : w2.ownsRow w.heap.size 3 1 vv L.length (L.map (Value.int .i64)) := hr.below b2
      have hsz := hbw.size
      have hsz2 := b2.size
      go_wp2_with fail
      refine (sliceMin r2 hx1 hx2).mono ?_
      rintro e w3 ⟨rfl, rfl⟩
      rw [HM.out]
      clear hr r2
      generalize G (m + 1) = z at *
      go_wp2_with (at_builtin; refine wpList_append_own _ rfl _ _ 31 rfl w.heap.size 3 i0 (.int .i64 0) 1 8 Try.underlying31 hi0 hz0 hz1 hz2 rfl (by decide) _ _ _ rfl (hr2.alloc _) ⟨w2.heap.size, 0, none⟩ 1 1 [.int .i64 z] rfl rfl (cell_one_new _ _ _) (by simp [Value.oneCell']) (by unfold maxLen; omega) (by omega) (by simp; omega) ?_; intro v6 w6 hown6 hgrow6 _)
      have hb6 : Below w.heap.size w w6 := below_append ((hbw.trans (b2.mono hsz)).alloc (by omega) _) (hr2.alloc _) hgrow6
      go_roundw
      case rel => exact ⟨m + 1, _, rfl, by omega, by simp, by rw [HS.out]; exact row_snoc hown6, hb6⟩
      case measure => simp [intOf]; omega
    · obtain rfl : m = M := by omega
      have HU := Lib.hid (Pl.compact_up G m)
      generalize Pl.lows G m = L at *
      obtain ⟨g, cap, rfl, _, _, _, _, _⟩ := hr.lies (by omega)
      have HR := Lib.hid hr
      rw [hlen] at HR
      clear hr
      have hi : ¬ (m : Int) + 1 ≤ (m : Int) := by omega
      go_wp2_with fail
      refine (sliceSort HR.out (by omega) (by omega)).mono ?_
      rintro e w2 ⟨rfl, r2, b2⟩
      go_wp2_with fail
      have hsl := sortI_len L
      refine (sliceCompact r2 (by omega) (by omega)).mono ?_
      rintro e w3 ⟨v3, rfl, r3, b3⟩
      go_wp2_with fail
      go_ret
      exact ⟨_, rfl, by rw [← HU.out]; exact r3, b3 _ _ (Nat.le_refl _) (b2 _ _ (Nat.le_refl _) hbw)⟩

set_option maxHeartbeats 400000 in
theorem implRoundsUpTo (most t b : Int) (w : World) : Calls Try.prog 32 #[.int .i64 most, .int .i64 t, .int .i64 b] w (ListPost w (Pl.upA most t b)) := by
  by_cases h : Pl.upB most t b = true
  · obtain ⟨g1, g2, g3⟩ := (Pl.upB_iff most t b).1 h
    obtain ⟨m, rfl⟩ := Int.eq_ofNat_of_zero_le (show 0 ≤ most by omega)
    rw [Pl.upA_yes m t b h]
    exact upToYes m t b g1 (by omega) (by omega) w
  · rw [Pl.upA_no h]
    have h2 : Pl.ruleB t b = false ∨ (Pl.ruleB t b = true ∧ most < 1) ∨ (Pl.ruleB t b = true ∧ ¬ most < 1 ∧ 500 < most) := by
      rw [Pl.upB_iff] at h
      cases hr : Pl.ruleB t b
      · exact .inl rfl
      · right
        simp only [hr, true_and] at h ⊢
        omega
    clear h
    rcases h2 with g1 | ⟨g1, g2⟩ | ⟨g1, g2, g3⟩
    all_goals
      go_enter Try.func32, Try.ntmps32
      go_wp2_with fail
      refine (ruleOk _ _ _).mono ?_
      rintro e w1 ⟨rfl, hb1⟩
      obtain ⟨_, _, hB, _⟩ := rule_box hb1
      clear hb1
      go_wp2_with fail
      go_ret
      exact ⟨_, rfl, World.ownsRow_nil _ _ _ _, hB⟩

end Go.Proofs.Ythpimanfkbeanaa
