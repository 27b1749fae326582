/-
  The walk of the law of AddedTurned.
-/
import Derived.Test.YtaocefdannjlhaaDraws7
import Derived.Test.YtaocefdannjlhaaSteps
import Derived.Test.YtaocefdannjlhaaRowFacts
namespace Go.Proofs.Ytaocefdannjlhaa
open Go.RowKit

namespace Pl

theorem digI_at {b n i : Nat} (hi : i < (digsR b n).length) : (digI b n)[i]?.getD 0 = (((digsR b n)[(digsR b n).length - 1 - i]?.getD 0 : Nat) : Int) := by
  rw [digI, digs, List.getElem?_map, List.getElem?_reverse hi]
  cases (digsR b n)[(digsR b n).length - 1 - i]? <;> rfl

/-- Each digit seen so far, and the one that is as far from the other end, are together less than the base. -/
def SmallTo (k : Nat) (D : List Int) (L K : Nat) : Prop := ∀ i, i < K → D[i]?.getD 0 + D[L - 1 - i]?.getD 0 < (k : Int)

theorem small_pal {x k : Nat} (hk : 2 ≤ k) (h0 : x % k ≠ 0) (h : SmallTo k (digI k x) (digsR k x).length (digsR k x).length) : turnN k (x + turnN k x) = x + turnN k x := by
  refine added_pal hk h0 fun i hi => ?_
  have h1 := h i hi
  rw [digI_at hi, digI_at (by omega)] at h1
  rw [show (digsR k x).length - 1 - ((digsR k x).length - 1 - i) = i by omega] at h1
  omega

end Pl

set_option maxRecDepth 100000 in
set_option maxHeartbeats 4000000 in
theorem FnAddedTurned_walk (a0 : Option Addr) (len0 cap0 : Nat) (z0 : List Int) (w : World) (w0 : IsRow .u8 w a0 len0 cap0 z0) :
    Calls Try.prog 7 #[.slice a0 len0 cap0] w fun e w' => e = .returned (.bool true) ∧ Below w.heap.size w w' := by
  by_cases hl : 1048576 < len0
  · go_enter Try.func7, Try.ntmps7
    go_wp2
    go_ret
    exact ⟨rfl, Below.refl _ _⟩
  · go_enter Try.func7, Try.ntmps7
    go_wp2_with fail
    refine (drawAddedTurned _ _ _ _ _ w0).mono ?_
    rintro e w1 ⟨n, b, rfl, ⟨n1, n2⟩, ⟨b1, b2⟩, hb1⟩
    clear w0 hl
    by_cases hB : 0 ≤ Pl.turnI n b ∧ n + Pl.turnI n b ≤ 1000000000
    · have hok := Pl.turnI_ok hB.1
      obtain ⟨x, k, rfl, rfl, k1, k2, hx⟩ := Pl.okB_nat hok
      have hs : x + Pl.turnN k x ≤ 1000000000 := by
        by_cases h9 : Pl.turnN k x ≤ 1000000000
        · rw [Pl.turnI_yes x k hok h9] at hB; omega
        · rw [Pl.turnI_big x k h9] at hB; omega
      obtain ⟨e1, e2⟩ := Pl.added_yes hok hs
      have HA := Lib.hid e1
      have HG := Lib.hid e2
      have hdig := specDigitsOf (x : Int) k
      rw [Pl.digA_yes x k hok] at hdig
      have HD := Lib.hid hdig
      have HPAL : Hid (x % k ≠ 0 → Pl.SmallTo k (Pl.digI k x) (Pl.digsR k x).length (Pl.digsR k x).length → Pl.palB ((x + Pl.turnN k x : Nat) : Int) k = true) := Lib.hid fun h0 h => by
        have := Pl.small_pal k1 h0 h
        rw [Pl.palB_yes _ k (by rw [Pl.okB_iff]; omega)]; simp [this]
      have HMOD : Hid ((Pl.digsR k x).length % 2 = 0 → (((x + Pl.turnN k x : Nat) : Int)) % ((k : Int) + 1) = 0) := Lib.hid fun h => by
        have h1 := Pl.added_mod k1 h
        have e : (((x + Pl.turnN k x : Nat) : Int)) % ((k : Int) + 1) = (((x + Pl.turnN k x) % (k + 1) : Nat) : Int) := rfl
        omega
      have hlen : (Pl.digI k x).length = (Pl.digsR k x).length := Pl.digI_len k x
      have hpos := Pl.digsR_pos k x
      have h30 := Pl.digsR_len30 k1 hx
      have hmem : ∀ i, i < (Pl.digsR k x).length → 0 ≤ (Pl.digI k x)[i]?.getD 0 ∧ (Pl.digI k x)[i]?.getD 0 < 16 := fun i hi => by
        rw [Pl.digI_at hi, List.getElem?_eq_getElem (by omega), Option.getD_some]
        have := Pl.digsR_mem k1 x _ (List.getElem_mem (show (Pl.digsR k x).length - 1 - i < (Pl.digsR k x).length by omega))
        omega
      have HMEM := Lib.hid hmem
      have hkk : ((k : Int) == 0) = false := by simp; omega
      have hk1' : (((k : Int) + 1) == 0) = false := by simp; omega
      clear hB hok e1 e2 hdig hmem
      generalize (Pl.digsR k x).length = L at *
      generalize x + Pl.turnN k x = M at *
      generalize Pl.digI k x = D at *
      go_wp2_with fail
      refine (implAddedTurned _ _ _).mono ?_
      rintro e w2 ⟨rfl, hb2⟩
      rw [HA.out, HG.out]
      go_wp2_with fail
      refine (specAddedTurned _ _ _).mono ?_
      rintro e w3 ⟨rfl, rfl⟩
      rw [HA.out, HG.out]
      go_wp2_with fail
      refine (HD.out _).mono ?_
      rintro e w3 ⟨v, rfl, r3, hb3⟩
      obtain ⟨g, cap, rfl, _, hgl, _, _, hc⟩ := r3.lies (by omega)
      have c2 := hb1.trans (hb2.mono hb1.size)
      have c3 : Below w.heap.size w w3 := c2.trans (hb3.mono c2.size)
      rw [hlen] at hc ⊢
      have HC := Lib.hid hc
      clear hb1 hb2 hb3 c2 r3 hc hlen HD
      have hxk : ∃ B0, decide ((0 : Int) < (x : Int) % (k : Int)) = B0 ∧ (B0 = true ↔ x % k ≠ 0) := ⟨_, rfl, by
        rw [decide_eq_true_eq]
        have e : (x : Int) % (k : Int) = ((x % k : Nat) : Int) := rfl
        omega⟩
      obtain ⟨B0, hB0, hB1⟩ := hxk
      have HB1 := Lib.hid hB1
      clear hB1
      go_wp2_with fail
      go_loopw [10, 11] (fun sv kv wr => ∃ (K : Nat) (s : Bool) (q : Nat), K ≤ L ∧ sv = .bool s ∧ kv = .int .i64 K ∧ (s = true → x % k ≠ 0 ∧ Pl.SmallTo k D L K) ∧ wr = w3.drewN q) (fun _ kv _ => L - (intOf kv).toNat)
      case atStart => exact ⟨0, B0, 0, by omega, rfl, rfl, fun h => ⟨HB1.out.1 h, fun i hi => by omega⟩, rfl⟩
      case round =>
        obtain ⟨K, s, q, hK, rfl, rfl, hcase, rfl⟩ := hrel
        by_cases hlt : K < L
        · have hi1 : (K : Int) < (L : Int) := by omega
          cases s
          · clear hcase
            go_wp2_with fail
            go_big_quiet (fail)
            go_wp2_with fail
            go_roundw
            case rel => exact ⟨K + 1, false, q + nq, by omega, rfl, by go_num, (fun h => by cases h), rfl⟩
            case measure => simp [intOf]; omega
          · obtain ⟨hcx, hcS⟩ := hcase rfl
            have HCX := Lib.hid hcx
            have HCS := Lib.hid hcS
            clear hcase hcx hcS
            obtain ⟨J, hJ⟩ : ∃ J, L - 1 - K = J := ⟨_, rfl⟩
            have HJ := Lib.hid hJ
            have hJL : J < L := by omega
            have hi2 : (J : Int) < (L : Int) := by omega
            have hi3 : 0 ≤ (J : Int) := by omega
            have e3 : (L : Int) - 1 - (K : Int) = (J : Int) := by omega
            have hcP := HC.out K hlt
            have hcQ := HC.out J hJL
            obtain ⟨p1, p2⟩ := HMEM.out K hlt
            obtain ⟨q1, q2⟩ := HMEM.out J hJL
            clear hJ
            generalize hPe : D[K]?.getD 0 = P at *
            generalize hQe : D[J]?.getD 0 = Q at *
            have HP := Lib.hid hPe
            have HQ := Lib.hid hQe
            clear hPe hQe
            by_cases hd : P + Q < (k : Int)
            · have hd' : decide (P + Q < (k : Int)) = true := by simpa using hd
              go_wp2_with fail
              go_big_quiet (fail)
              go_wp2_with fail
              go_roundw
              case rel => exact ⟨K + 1, true, q + nq, by omega, rfl, by go_num, (fun _ => ⟨HCX.out, fun i hi => by
                by_cases h : i = K
                · subst h; rw [HP.out, HJ.out, HQ.out]; exact hd
                · exact HCS.out i (by omega)⟩), rfl⟩
              case measure => simp [intOf]; omega
            · have hd' : decide (P + Q < (k : Int)) = false := by simpa using hd
              go_wp2_with fail
              go_big_quiet (fail)
              go_wp2_with fail
              go_roundw
              case rel => exact ⟨K + 1, false, q + nq, by omega, rfl, by go_num, (fun h => by cases h), rfl⟩
              case measure => simp [intOf]; omega
        · obtain rfl : K = L := by omega
          have hi1 : ¬ (K : Int) < (K : Int) := by omega
          have hbw : Below w.heap.size w (w3.drewN q) := c3.trans ((drewN_below w3 q).mono c3.size)
          have HCASE : Hid (s = true → Pl.palB (M : Int) k = true) := Lib.hid fun h => HPAL.out (hcase h).1 (hcase h).2
          clear hcase
          obtain ⟨B2, hB2, hB3⟩ : ∃ B2, ((x : Int) % (k : Int) == 0) = B2 ∧ True := ⟨_, rfl, trivial⟩
          by_cases hodd : K % 2 = 1
          · have ho : ((K : Int) % 2 == 1) = true := by simp; omega
            cases s
            · cases B2
              all_goals
                go_wp2_with (go_at_call 18; refine (alive _).mono ?_; rintro e w' ⟨rfl, rfl⟩)
                go_ret
                exact ⟨rfl, hbw⟩
            · have hpal := HCASE.out rfl
              cases B2
              all_goals
                go_wp2_with (first | (go_at_call 21; refine (implPalindromeOk _ _ _).mono ?_; rintro e w5 ⟨rfl, hb5⟩; rw [hpal]) | (go_at_call 18; refine (alive _).mono ?_; rintro e w' ⟨rfl, rfl⟩))
                go_ret
                exact ⟨rfl, hbw.trans (hb5.mono hbw.size)⟩
          · have ho : ((K : Int) % 2 == 1) = false := by simp; omega
            have hM := HMOD.out (by omega)
            cases s
            · cases B2
              all_goals
                go_wp2_with (go_at_call 18; refine (alive _).mono ?_; rintro e w' ⟨rfl, rfl⟩)
                go_ret
                exact ⟨rfl, hbw⟩
            · have hpal := HCASE.out rfl
              cases B2
              all_goals
                go_wp2_with (first | (go_at_call 21; refine (implPalindromeOk _ _ _).mono ?_; rintro e w5 ⟨rfl, hb5⟩; rw [hpal]) | (go_at_call 18; refine (alive _).mono ?_; rintro e w' ⟨rfl, rfl⟩))
                go_ret
                exact ⟨rfl, hbw.trans (hb5.mono hbw.size)⟩
    · obtain ⟨e1, e2⟩ := Pl.addI_no (n := n) (b := b) hB
      have HA := Lib.hid e1
      have HG := Lib.hid e2
      clear hB e1 e2
      go_wp2_with fail
      refine (implAddedTurned _ _ _).mono ?_
      rintro e w2 ⟨rfl, hb2⟩
      rw [HA.out, HG.out]
      go_wp2_with fail
      refine (specAddedTurned _ _ _).mono ?_
      rintro e w3 ⟨rfl, rfl⟩
      rw [HA.out, HG.out]
      go_wp2_with (go_at_call 18; refine (alive _).mono ?_; rintro e w' ⟨rfl, rfl⟩)
      go_ret
      exact ⟨rfl, hb1.trans (hb2.mono hb1.size)⟩

end Go.Proofs.Ytaocefdannjlhaa
