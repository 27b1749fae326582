/-
  The walk of the law of CountPalindromes.
-/
import Derived.Test.YtaocefdannjlhaaDraws7
import Derived.Test.YtaocefdannjlhaaCountPal
import Derived.Test.YtaocefdannjlhaaPalCheck
namespace Go.Proofs.Ytaocefdannjlhaa
open Go.RowKit

namespace Pl

theorem cntPal_le (b lo : Nat) : ∀ c, cntPal b lo c ≤ c := by
  intro c
  induction c with
  | zero => exact Nat.le_refl _
  | succ c ih => rw [cntPal]; split <;> omega

/-- With two digits more. -/
theorem cnt_more {l b : Nat} (h1 : 1 ≤ l) (h2 : l ≤ 6) (h3 : 2 ≤ b) (h4 : b ≤ 16) : cntI ((l : Int) + 2) b = -1 ∨ cntI ((l : Int) + 2) b = cntI l b * (b : Int) := by
  by_cases h : l + 2 ≤ 6
  · right
    have e := cntI_yes (l := l + 2) (b := b) (by omega) h h3 h4
    rw [cntI_yes h1 h2 h3 h4]
    have e' : cntI ((l : Int) + 2) b = cntI ((l + 2 : Nat) : Int) b := rfl
    rw [e', e, show (l + 2 - 1) / 2 = (l - 1) / 2 + 1 by omega, Nat.pow_succ, ← Nat.mul_assoc, Int.natCast_mul]
  · left
    exact cntI_no fun hh => by omega

end Pl

set_option maxRecDepth 100000 in
set_option maxHeartbeats 4000000 in
theorem FnCountPalindromes_walk (a0 : Option Addr) (len0 cap0 : Nat) (z0 : List Int) (w : World) (w0 : IsRow .u8 w a0 len0 cap0 z0) :
    Calls Try.prog 5 #[.slice a0 len0 cap0] w fun e w' => e = .returned (.bool true) ∧ Below w.heap.size w w' := by
  by_cases hl : 1048576 < len0
  · go_enter Try.func5, Try.ntmps5
    go_wp2
    go_ret
    exact ⟨rfl, Below.refl _ _⟩
  · go_enter Try.func5, Try.ntmps5
    go_wp2_with fail
    refine (drawCountPalindromes _ _ _ _ _ w0).mono ?_
    rintro e w1 ⟨n, b, rfl, ⟨n1, n2⟩, ⟨b1, b2⟩, hb1⟩
    clear w0 hl
    by_cases hok : (1 ≤ n ∧ n ≤ 6) ∧ Pl.baseB b = true
    · obtain ⟨⟨l1, l2⟩, hB⟩ := hok
      obtain ⟨k, rfl, k1, k2⟩ := baseB_nat hB
      obtain ⟨l, rfl⟩ : ∃ l : Nat, n = (l : Int) := ⟨n.toNat, by omega⟩
      have hyes := Pl.cntI_yes (l := l) (b := k) (by omega) (by omega) k1 k2
      have hmore := Pl.cnt_more (l := l) (b := k) (by omega) (by omega) k1 k2
      obtain ⟨q1, q2⟩ := Pl.cnt_le (l := l) (b := k) (by omega) k2
      have q3 : 1 ≤ (k - 1) * k ^ ((l - 1) / 2) := Nat.mul_pos (by omega) (Nat.pow_pos (by omega))
      have HF : Hid (l ≤ 3 → Pl.cntPal k (k ^ (l - 1)) (k ^ (l - 1 + 1) - k ^ (l - 1)) = (k - 1) * k ^ ((l - 1) / 2)) := Lib.hid fun h => Pl.cntPal_eq k1 k2 (j := l - 1) (by omega)
      have HI1 := Lib.hid (implCountPal (l : Int) k)
      have HS1 := Lib.hid (specCountPal (l : Int) k)
      have HI2 := Lib.hid (implCountPal ((l : Int) + 2) k)
      obtain ⟨V, hV⟩ : ∃ V, (k - 1) * k ^ ((l - 1) / 2) = V := ⟨_, rfl⟩
      rw [hV] at hyes q2 q3 HF
      rw [hyes] at HI1 HS1 hmore
      have hVk : (V : Int) * (k : Int) = ((V * k : Nat) : Int) := by rw [Int.natCast_mul]
      have hVk2 : V * k ≤ 61440 := Nat.mul_le_mul q2 k2
      have e4 : IntKind.i64.wrap ((V : Int) * (k : Int)) = ((V * k : Nat) : Int) := by rw [hVk]; exact IntWalk.i64_in _ (by omega)
      rw [hVk] at hmore
      have HVK := Lib.hid hVk
      generalize Pl.cntI ((l : Int) + 2) k = R at *
      have HMORE : Hid (R = -1 ∨ R = ((V * k : Nat) : Int)) := Lib.hid hmore
      clear hyes hV q1 hB hmore hVk
      generalize V * k = VK at *
      have hv0 : ¬ (V : Int) < 0 := by omega
      have hv1 : (0 : Int) < (V : Int) := by omega
      go_wp2_with fail
      refine (HI1.out _).mono ?_
      rintro e w2 ⟨rfl, rfl⟩
      go_wp2_with fail
      refine (HS1.out _).mono ?_
      rintro e w3 ⟨rfl, rfl⟩
      go_wp2_with fail
      refine (HI2.out _).mono ?_
      rintro e w4 ⟨rfl, rfl⟩
      clear HI1 HS1 HI2
      by_cases h3 : 3 < l
      · have i1 : (3 : Int) < (l : Int) := by omega
        rcases HMORE.out with rfl | rfl
        · go_wp2
          go_ret
          exact ⟨ret_bool (show decide (0 < V) = true by simp; omega), hb1⟩
        · go_wp2
          go_ret
          exact ⟨ret_bool (show decide (0 < V) = true by simp; omega), hb1⟩
      · have i1 : ¬ (3 : Int) < (l : Int) := by omega
        have HF2 := Lib.hid (HF.out (by omega))
        clear HF
        go_wp2_with fail
        go_loop [7, 8] (fun fv iv => ∃ I : Nat, 1 ≤ I ∧ I ≤ l ∧ iv = .int .i64 I ∧ fv = .int .i64 ((k ^ (I - 1) : Nat) : Int)) (fun _ iv => l - (intOf iv).toNat)
        case atStart => exact ⟨1, by omega, by omega, rfl, by simp⟩
        case round =>
          obtain ⟨I, hI1, hI2, rfl, rfl⟩ := hrel
          have hpow : k ^ (I - 1) ≤ 256 := by
            have g1 : k ^ (I - 1) ≤ 16 ^ (I - 1) := Nat.pow_le_pow_left k2 _
            have g2 : (16 : Nat) ^ (I - 1) ≤ 16 ^ 2 := Nat.pow_le_pow_right (by omega) (by omega)
            omega
          have hpow1 : 1 ≤ k ^ (I - 1) := Nat.pow_pos (by omega)
          have hps : k ^ (I - 1) * k = k ^ I := by rw [← Nat.pow_succ]; congr 1; omega
          have hmul : k ^ (I - 1) * k ≤ 4096 := Nat.mul_le_mul hpow k2
          have hge : k ^ (I - 1) ≤ k ^ (I - 1) * k := Nat.le_mul_of_pos_right _ (by omega)
          have e5 : ((k ^ (I - 1) : Nat) : Int) * (k : Int) = ((k ^ (I - 1) * k : Nat) : Int) := by rw [Int.natCast_mul]
          have e6 : IntKind.i64.wrap (((k ^ (I - 1) : Nat) : Int) * (k : Int)) = ((k ^ (I - 1) * k : Nat) : Int) := by rw [e5]; exact IntWalk.i64_in _ (by omega)
          by_cases hlt : I < l
          · have i2 : (I : Int) < (l : Int) := by omega
            have HPS := Lib.hid hps
            clear hps e5
            generalize hF : k ^ (I - 1) = F at *
            clear hF
            generalize F * k = FK at *
            go_wp2_with fail
            go_round
            case rel => exact ⟨I + 1, by omega, by omega, by go_num, by rw [Nat.add_sub_cancel, HPS.out]⟩
            case measure => simp [intOf]; omega
          · obtain rfl : I = l := by omega
            have i2 : ¬ (I : Int) < (I : Int) := by omega
            rw [Nat.sub_add_cancel hI1, ← hps] at HF2
            have HE5 := Lib.hid e5
            clear hps e5
            generalize k ^ (I - 1) = F at *
            generalize F * k = FK at *
            go_wp2_with fail
            go_loopw [9, 10] (fun cv mv wr => ∃ c : Nat, c ≤ FK - F ∧ mv = .int .i64 ((F + c : Nat) : Int) ∧ cv = .int .i64 ((Pl.cntPal k F c : Nat) : Int) ∧ Below w.heap.size w wr) (fun _ mv _ => FK - (intOf mv).toNat)
            case atStart => exact ⟨0, by omega, by simp, rfl, hb1⟩
            case round =>
              obtain ⟨c, hc, rfl, rfl, hbw⟩ := hrel
              have hcl := Pl.cntPal_le k F c
              by_cases hcm : c < FK - F
              · have hpal : Pl.palB ((F + c : Nat) : Int) k = decide (Pl.turnN k (F + c) = F + c) := Pl.palB_yes _ k (by rw [Pl.okB_iff]; omega)
                have hstep : Pl.cntPal k F (c + 1) = Pl.cntPal k F c + (if Pl.turnN k (F + c) = F + c then 1 else 0) := rfl
                by_cases hp : Pl.turnN k (F + c) = F + c
                · have hpb : Hid (Pl.palB ((F + c : Nat) : Int) k = true) := Lib.hid (by rw [hpal]; simp [hp])
                  rw [if_pos hp] at hstep
                  have HST := Lib.hid hstep
                  clear hp hpal hstep
                  generalize hm : F + c = m at *
                  have HM := Lib.hid hm
                  have i3 : (m : Int) < (FK : Int) := by omega
                  clear hm
                  generalize Pl.cntPal k F c = Z at *
                  go_wp2_with (go_at_call 21; refine (implPalindromeOk _ _ _).mono ?_; rintro e w5 ⟨rfl, hb5⟩; rw [hpb.out])
                  go_roundw
                  case rel => exact ⟨c + 1, by omega, by have := HM.out; go_num, by rw [HST.out]; go_num, hbw.trans (hb5.mono hbw.size)⟩
                  case measure => simp [intOf]; omega
                · have hpb : Hid (Pl.palB ((F + c : Nat) : Int) k = false) := Lib.hid (by rw [hpal]; simp [hp])
                  rw [if_neg hp, Nat.add_zero] at hstep
                  have HST := Lib.hid hstep
                  clear hp hpal hstep
                  generalize hm : F + c = m at *
                  have HM := Lib.hid hm
                  have i3 : (m : Int) < (FK : Int) := by omega
                  clear hm
                  generalize Pl.cntPal k F c = Z at *
                  go_wp2_with (go_at_call 21; refine (implPalindromeOk _ _ _).mono ?_; rintro e w5 ⟨rfl, hb5⟩; rw [hpb.out])
                  go_roundw
                  case rel => exact ⟨c + 1, by omega, by have := HM.out; go_num, by rw [HST.out]; rfl, hbw.trans (hb5.mono hbw.size)⟩
                  case measure => simp [intOf]; omega
              · obtain rfl : c = FK - F := by omega
                rw [HF2.out]
                generalize hm : F + (FK - F) = m at *
                have i3 : ¬ (m : Int) < (FK : Int) := by omega
                clear hm hcl
                rcases HMORE.out with rfl | rfl
                · go_wp2
                  go_ret
                  exact ⟨rfl, hbw⟩
                · go_wp2
                  go_ret
                  exact ⟨rfl, hbw⟩
    · have HI1 := Lib.hid (implCountPal n b)
      have HS1 := Lib.hid (specCountPal n b)
      rw [Pl.cntI_no hok] at HI1 HS1
      clear hok
      go_wp2_with fail
      refine (HI1.out _).mono ?_
      rintro e w2 ⟨rfl, rfl⟩
      go_wp2_with fail
      refine (HS1.out _).mono ?_
      rintro e w3 ⟨rfl, rfl⟩
      go_wp2_with (go_at_call 18; refine (alive _).mono ?_; rintro e w' ⟨rfl, rfl⟩)
      go_ret
      exact ⟨rfl, hb1⟩

end Go.Proofs.Ytaocefdannjlhaa
