/-
  BehindOf, of the program and of the model; the walk of its exact law.
-/
import Derived.Test.YtmmafbncpeahlaaWhole
import Derived.Test.YtmmafbncpeahlaaDigitsOf
namespace Go.Proofs.Ytmmafbncpeahlaa
open Go.RowKit

/-- The digits of a number and those of a second one behind them, as a number. -/
def behindO (n m b : Int) : Option Nat := if Pl.okB n b = true ∧ Pl.okB m b = true then Pl.whole (Pl.digA n b ++ Pl.digA m b) b else none

theorem digA_pos {n b : Int} (h : Pl.okB n b = true) : 1 ≤ (Pl.digA n b).length := by
  obtain ⟨x, k, rfl, rfl, h1, h2, h3⟩ := Pl.okB_nat h
  rw [Pl.digA_yes x k h, Pl.digI_len]; exact Pl.digsR_pos _ _

theorem row_app {base : Nat} {w : World} {v : Value} {xs ys : List Int} (h : w.ownsRow base 3 1 v (xs.length + ys.length) (xs.map (Value.int .i64) ++ ys.map (Value.int .i64))) : Row base w v (xs ++ ys) := by
  unfold Row; simpa using h

theorem row_news {base : Nat} {w : World} {g n cap : Nat} {ys : List Int} (h : Row base w (.slice (some ⟨g, 0, none⟩) n cap) ys) : ∀ j u, (ys.map (Value.int .i64))[j]? = some u → w.cell? ((⟨g, 0, none⟩ : Addr).add j) = some u := by
  intro j u hu
  have e : (⟨g, 0, none⟩ : Addr).add j = ⟨g, j, none⟩ := by
    unfold Addr.add; split <;> simp_all
  obtain ⟨_, cap', he⟩ := h.shape
  obtain ⟨_, rfl, rfl⟩ : _ ∧ n = ys.length ∧ cap = cap' := by simpa using he
  rw [e, World.ownsRow.cellAt h j (by have := (List.getElem?_eq_some_iff.1 hu).1; simp at this; omega)]
  exact hu

set_option maxHeartbeats 1000000 in
theorem implBehindYes (n m b : Int) (w : World) (hn : Pl.okB n b = true) (hm : Pl.okB m b = true) :
    Calls Try.prog 15 #[.int .i64 n, .int .i64 m, .int .i64 b] w fun e w' => e = .returned (.tuple #[.int .i64 (Pl.wV (Pl.whole (Pl.digA n b ++ Pl.digA m b) b)), .bool (Pl.wB (Pl.whole (Pl.digA n b ++ Pl.digA m b) b))]) ∧ Below w.heap.size w w' := by
  have H1 := Lib.hid (implDigitsOf n b)
  have H2 := Lib.hid (implDigitsOf m b)
  have l1 := Pl.digA_len30 n b
  have l2 := Pl.digA_len30 m b
  have p2 := digA_pos hm
  obtain ⟨i0, hi0, hz0, hz1, hz2⟩ := info_parts info_int
  generalize Pl.digA n b = L1 at *
  generalize Pl.digA m b = L2 at *
  go_enter Try.func15, Try.ntmps15
  go_wp2_with (go_at_call 31; refine (hasDigits _ _ _).mono ?_; rintro e w' ⟨rfl, rfl⟩)
  refine (H1.out _).mono ?_
  rintro e w1 ⟨v1, rfl, r1, b1⟩
  go_wp2_with fail
  refine (H2.out _).mono ?_
  rintro e w2 ⟨v2, rfl, r2, b2⟩
  obtain ⟨g2, cap2, rfl, hg2, hlt2⟩ := World.ownsRow.form r2 (by omega)
  have r1' := r1.below b2
  have hb1 := b1.size
  have hb2 := b2.size
  go_wp2_with (at_builtin; refine wpList_append_own _ rfl _ _ 33 rfl w.heap.size 3 i0 (.int .i64 0) 1 8 Try.underlying33 hi0 hz0 hz1 hz2 rfl (by decide) _ _ _ rfl r1' ⟨g2, 0, none⟩ L2.length cap2 (L2.map (Value.int .i64)) rfl (by simp) (row_news r2) (by simp [Value.oneCell']) (by unfold maxLen; omega) (by omega) (by omega) ?_; intro v3 w3 hown3 hgrow3 _)
  have r3 := row_app hown3
  have b3 : Below w.heap.size w w3 := below_append (b1.trans (b2.mono b1.size)) r1' hgrow3
  refine (implWholeOf _ (L1 ++ L2) b w3 r3.ints (by simp; omega)).mono ?_
  rintro e w' ⟨rfl, rfl⟩
  go_wp2
  go_ret2
  exact ⟨rfl, b3⟩

theorem halves {n b : Int} (h : Pl.okB n b = true) : (decide (0 ≤ n) && decide (n ≤ 1000000000)) = true ∧ Pl.baseB b = true := by
  rw [okB_halves, Bool.and_eq_true] at h; exact h

set_option maxHeartbeats 1000000 in
theorem implBehindOf (n m b : Int) (w : World) :
    Calls Try.prog 15 #[.int .i64 n, .int .i64 m, .int .i64 b] w fun e w' => e = .returned (.tuple #[.int .i64 (Pl.wV (behindO n m b)), .bool (Pl.wB (behindO n m b))]) ∧ Below w.heap.size w w' := by
  by_cases h : Pl.okB n b = true ∧ Pl.okB m b = true
  · rw [behindO, if_pos h]
    exact implBehindYes n m b w h.1 h.2
  · rw [behindO, if_neg h]
    by_cases hn : Pl.okB n b = true
    · have hm : Pl.okB m b = false := by simpa [hn] using h
      clear h
      go_enter Try.func15, Try.ntmps15
      go_wp2_with (go_at_call 31; refine (hasDigits _ _ _).mono ?_; rintro e w' ⟨rfl, rfl⟩)
      all_goals
        go_ret2
        exact ⟨rfl, Below.refl _ _⟩
    · have hn' : Pl.okB n b = false := by simpa using hn
      clear h hn
      go_enter Try.func15, Try.ntmps15
      go_wp2_with (go_at_call 31; refine (hasDigits _ _ _).mono ?_; rintro e w' ⟨rfl, rfl⟩)
      all_goals
        go_ret2
        exact ⟨rfl, Below.refl _ _⟩

theorem not_okB {n b : Int} (h : ¬ Pl.okB n b = true) : (decide (0 ≤ n) && decide (n ≤ 1000000000)) = false ∨ Pl.baseB b = false := by
  rw [okB_halves] at h
  cases h1 : (decide (0 ≤ n) && decide (n ≤ 1000000000))
  · exact .inl rfl
  · rw [h1] at h; exact .inr (by simpa using h)

end Go.Proofs.Ytmmafbncpeahlaa
