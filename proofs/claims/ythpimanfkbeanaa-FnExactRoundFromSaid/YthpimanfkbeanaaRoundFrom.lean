/-
  impl.RoundFrom and spec.RoundFrom: the round into which a number leads, in new memory; the exact law.
-/
import Derived.Test.YthpimanfkbeanaaFirstAgain
import Derived.Test.YthpimanfkbeanaaDigits
namespace Go.Proofs.Ythpimanfkbeanaa
open Go.RowKit Go.Shelf

namespace Pl
/-- Natural numbers as integers. -/
def ints (l : List Nat) : List Int := l.map fun d : Nat => (d : Int)
theorem ints_len (l : List Nat) : (ints l).length = l.length := by simp [ints]
theorem ints_snoc (l : List Nat) (d : Nat) : ints (l ++ [d]) = ints l ++ [(d : Int)] := by simp [ints]
theorem ints_get (l : List Nat) (i : Nat) : (ints l)[i]?.getD 0 = ((l[i]?.getD 0 : Nat) : Int) := by
  rw [ints, List.getElem?_map]; cases l[i]? <;> rfl
/-- The round as the functions answer: none for others. -/
def roundA (n t b : Int) : List Int := if okT n t b = true then ints (roundL (nextN t.toNat b.toNat) n.toNat) else []
theorem roundA_yes (n t b : Nat) (h : okT n t b = true) : roundA n t b = ints (roundL (nextN t b) n) := by rw [roundA, if_pos h]; rfl
theorem roundA_no {n t b : Int} (h : ¬ okT n t b = true) : roundA n t b = [] := by rw [roundA, if_neg h]
theorem roundA_len (n t b : Int) : (roundA n t b).length ≤ 22781252 := by
  by_cases h : okT n t b = true
  · obtain ⟨x, s, k, rfl, rfl, rfl, hR, hx⟩ := okT_nat h
    rw [roundA_yes x s k h, ints_len]; exact (next_round hR hx).2.1
  · rw [roundA_no h]; simp
end Pl

theorem row_one' (base : Nat) (w : World) (q : Int) (h : base ≤ w.heap.size) : Row base (w.alloc (.cells #[.int .i64 q] 3)) (.slice (some ⟨w.heap.size, 0, none⟩) 1 1) [q] := (row_one w q).mono h

set_option maxRecDepth 100000 in
set_option maxHeartbeats 2000000 in
theorem roundFromYes (t b x mu p : Nat) (hR : Pl.RuleOk t b) (hx : x ≤ 1000000000) (hrho : Pl.Rho (Pl.nextN t b) x mu p) (hp : mu + p ≤ 22781252) (w : World) :
    Calls Try.prog 20 #[.int .i64 x, .int .i64 t, .int .i64 b] w (ListPost w (Pl.ints (Pl.orb (Pl.nextN t b) x mu p))) := by
  have hok : Pl.okT x t b = true := Pl.okT_of hR hx
  obtain ⟨g1, g2⟩ := Bool.and_eq_true_iff.1 (by rw [Pl.okT] at hok; exact hok)
  have hp1 := hrho.pos
  have hle := Pl.iter_next_le hR hx
  obtain ⟨i0, hi0, hz0, hz1, hz2⟩ := info_parts info_int
  clear hok
  go_enter Try.func20, Try.ntmps20
  go_wp2_with fail
  refine (ruleOk _ _ _).mono ?_
  rintro e w1 ⟨rfl, hb1⟩
  obtain ⟨c0, c1, hB, hlt⟩ := rule_box hb1
  clear hb1
  go_wp2_with (go_at_call 42; refine (hasDigits _ _ _).mono ?_; rintro e w' ⟨rfl, rfl⟩)
  refine (firstAgain t b x mu p hR hx hrho _).mono ?_
  rintro e w2 ⟨rfl, hb2⟩
  have d0 := Below.cell hb2 hlt c0
  have d1 := Below.cell hb2 hlt c1
  have hlt2 := Nat.lt_of_lt_of_le hlt hb2.size
  have hB2 := hB.trans (hb2.mono hB.size)
  clear c0 c1 hlt hb2 hB g1 g2
  have hl0 := (hle mu).1
  go_wp2_with fail
  have b3 : Below (w.heap.size + 1) w2 (w2.alloc (.cells #[.int .i64 (Pl.iter (Pl.nextN t b) mu x)] 3)) := (Below.refl _ _).alloc (by omega) _
  refine (ruleNext t b _ hR hl0 _).mono ?_
  rintro e w3 ⟨rfl, hb3⟩
  have r3 : Row (w.heap.size + 1) w3 (.slice (some ⟨w2.heap.size, 0, none⟩) 1 1) (Pl.ints (Pl.orb (Pl.nextN t b) x mu 1)) := (row_one' (w.heap.size + 1) w2 _ (by omega)).below hb3
  have b4 : Below (w.heap.size + 1) w2 w3 := b3.trans (hb3.mono (by simp; omega))
  clear b3 hb3
  go_wp2_with fail
  go_loopg [9, 10] (p - 1) (fun g r nx wr => ∃ (q : Nat) (vv : Value), vv = r ∧ 1 ≤ q ∧ q + g = p ∧ nx = .int .i64 (Pl.iter (Pl.nextN t b) (mu + q) x) ∧ Row (w.heap.size + 1) wr vv (Pl.ints (Pl.orb (Pl.nextN t b) x mu q)) ∧ Below (w.heap.size + 1) w2 wr)
  case atStart => exact ⟨1, _, rfl, by omega, by omega, rfl, r3, b4⟩
  case round =>
    obtain ⟨q, vv, rfl, hq1, hqg, rfl, hr, hbw⟩ := hrel
    clear r3 b4
    by_cases hqp : q = p
    · subst hqp
      have hback := hrho.back
      rw [hback]
      obtain ⟨a6, cap6, rfl⟩ := hr.shape
      have HR := Lib.hid hr
      clear hr hback
      go_wp2_with fail
      go_ret
      exact ⟨_, rfl, HR.out.mono (by omega), hB2.trans (hbw.mono (by omega))⟩
    · have hne : ((Pl.iter (Pl.nextN t b) (mu + q) x : Int) != (Pl.iter (Pl.nextN t b) mu x : Int)) = true := by
        have : ¬ Pl.iter (Pl.nextN t b) mu x = Pl.iter (Pl.nextN t b) (mu + q) x := fun he => by
          have h1 := (hrho.same hq1 he).2
          have := Nat.le_of_dvd hq1 h1
          omega
        simpa using fun h => this (by exact_mod_cast h.symm)
      have e0 := hbw.cell (p := ⟨w.heap.size, 0, none⟩) (by simp)
      have e1 := hbw.cell (p := ⟨w.heap.size, 1, none⟩) (by simp)
      rw [d0] at e0
      rw [d1] at e1
      have hl1 := (hle (mu + q)).1
      have F1 : Hid (Pl.nextN t b (Pl.iter (Pl.nextN t b) (mu + q) x) = Pl.iter (Pl.nextN t b) (mu + (q + 1)) x) := Lib.hid rfl
      have F2 := Lib.hid (Pl.orb_succ (Pl.nextN t b) x mu q)
      have hlen : (Pl.ints (Pl.orb (Pl.nextN t b) x mu q)).length = q := by rw [Pl.ints_len, Pl.orb_len]
      generalize Pl.orb (Pl.nextN t b) x mu q = L at *
      generalize Pl.iter (Pl.nextN t b) (mu + q) x = Y at *
      have hr' : wr.ownsRow (w.heap.size + 1) 3 1 vv (Pl.ints L).length ((Pl.ints L).map (Value.int .i64)) := hr
      have F3 := Lib.hid (Pl.ints_snoc L Y)
      generalize Pl.ints L = L' at *
      have hsz := hbw.size
      clear hr
      go_wp2_with (at_builtin; refine wpList_append_own _ rfl _ _ 31 rfl (w.heap.size + 1) 3 i0 (.int .i64 0) 1 8 Try.underlying31 hi0 hz0 hz1 hz2 rfl (by decide) _ _ _ rfl (hr'.alloc _) ⟨wr.heap.size, 0, none⟩ 1 1 [.int .i64 (Y : Int)] rfl rfl (cell_one_new _ _ _) (by simp [Value.oneCell']) (by unfold maxLen; omega) (by omega) (by simp; omega) ?_; intro v6 w6 hown6 hgrow6 _; have hb6 : Below (w.heap.size + 1) wr w6 := below_append ((Below.refl (w.heap.size + 1) wr).alloc (by omega) _) (hr'.alloc _) hgrow6 (by omega); have f0 := (hb6.cell (p := ⟨w.heap.size, 0, none⟩) (by simp)).trans e0; have f1 := (hb6.cell (p := ⟨w.heap.size, 1, none⟩) (by simp)).trans e1)
      refine (ruleNext t b _ hR hl1 _).mono ?_
      rintro e w7 ⟨rfl, hb7⟩
      rw [F1.out]
      have hs6 := hb6.size
      have HR7 := Lib.hid ((row_snoc hown6).below hb7)
      clear hown6
      go_wp2_with fail
      go_roundg (p - (q + 1))
      case measure => omega
      case rel => exact ⟨q + 1, _, rfl, by omega, by omega, rfl, by rw [F2.out, F3.out]; exact HR7.out, (hbw.trans hb6).trans (hb7.mono (by omega))⟩


set_option maxHeartbeats 400000 in
theorem implRoundFrom (n t b : Int) (w : World) : Calls Try.prog 20 #[.int .i64 n, .int .i64 t, .int .i64 b] w (ListPost w (Pl.roundA n t b)) := by
  by_cases g1 : Pl.ruleB t b = true
  · by_cases g2 : Pl.okB n b = true
    · have h : Pl.okT n t b = true := by rw [Pl.okT, g1, g2]; rfl
      obtain ⟨x, s, k, rfl, rfl, rfl, hR, hx⟩ := Pl.okT_nat h
      obtain ⟨mu, p, hr, hb⟩ := Pl.next_rho hR hx
      rw [Pl.roundA_yes x s k h, Pl.roundL_eq hr (by omega)]
      exact roundFromYes s k x mu p hR hx hr hb w
    · have h : ¬ Pl.okT n t b = true := by rw [Pl.okT, g1]; simpa using g2
      have g2' : Pl.okB n b = false := by simpa using g2
      rw [Pl.roundA_no h]
      clear h g2
      go_enter Try.func20, Try.ntmps20
      go_wp2_with fail
      refine (ruleOk _ _ _).mono ?_
      rintro e w1 ⟨rfl, hb1⟩
      obtain ⟨c0, c1, hB, hlt⟩ := rule_box hb1
      clear hb1
      go_wp2_with (go_at_call 42; refine (hasDigits _ _ _).mono ?_; rintro e w' ⟨rfl, rfl⟩)
      go_ret
      exact ⟨_, rfl, World.ownsRow_nil _ _ _ _, hB⟩
  · have h : ¬ Pl.okT n t b = true := by rw [Pl.okT]; simp [g1]
    have g1' : Pl.ruleB t b = false := by simpa using g1
    rw [Pl.roundA_no h]
    clear h g1
    go_enter Try.func20, Try.ntmps20
    go_wp2_with fail
    refine (ruleOk _ _ _).mono ?_
    rintro e w1 ⟨rfl, hb1⟩
    obtain ⟨c0, c1, hB, hlt⟩ := rule_box hb1
    clear hb1
    go_wp2_with fail
    go_ret
    exact ⟨_, rfl, World.ownsRow_nil _ _ _ _, hB⟩

end Go.Proofs.Ythpimanfkbeanaa
