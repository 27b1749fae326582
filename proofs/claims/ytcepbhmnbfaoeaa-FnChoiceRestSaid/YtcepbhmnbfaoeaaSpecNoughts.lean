/-
  spec.NoughtsAtEnd: what it answers.
-/
import Derived.Test.YtcepbhmnbfaoeaaSpecCarry
import Derived.Test.YtcepbhmnbfaoeaaMathNoughts
namespace Go.Proofs.Ytcepbhmnbfaoeaa
open Go.RowKit Go.Shelf

/-- The least so far, as a number. -/
def Pl.optI : Option Nat → Int
  | none => -1
  | some x => (x : Int)
def Pl.NouAt (O : Nat → Nat) (R p left : Nat) (best : Option Nat) : Prop := ∃ f, 18 ≤ f + p ∧ Pl.nouK O f p left best = some R

set_option maxHeartbeats 2000000 in
theorem specNoughtsAtEnd (n b : Int) (w : World) :
    Calls Try.prog 36 #[.int .i64 n, .int .i64 b] w fun e w' => e = .returned (.int .i64 (Pl.nouI n b)) ∧ w = w' := by
  by_cases hok : Pl.okB n b = true
  · have hok2 := hok
    rw [okB_halves, Bool.and_eq_true] at hok2
    obtain ⟨g1, g2⟩ := hok2
    obtain ⟨x, k, rfl, rfl, hk1, hk2, hx⟩ := Pl.okB_nat hok
    rw [Pl.nouI_yes hok]
    clear hok
    have HO : Hid (∀ p : Nat, 2 ≤ p → p ≤ 16 → Pl.oftN p x ≤ 1000000000 ∧ ∀ W, Calls Try.prog 46 #[.int .i64 x, .int .i64 p] W fun e W' => e = .returned (.int .i64 ((Pl.oftN p x : Nat) : Int)) ∧ W = W') := Lib.hid fun p h1 h2 => ⟨by have := Pl.oftN_le h1 (show x ≤ 1000000000 by omega); omega, l10Often x p h1 (by omega) (by omega)⟩
    have HN : Hid (Pl.NouAt (fun p => Pl.oftN p x) (Pl.nouT (fun p => Pl.oftN p x) k) 2 k none) := Lib.hid ⟨20, by omega, Pl.nou_all _ hk1 hk2⟩
    generalize Pl.nouT (fun p => Pl.oftN p x) k = R at *
    go_enter Try.func36, Try.ntmps36
    go_wp2_with (first | (go_at_call 41; refine (specIn _ _ _ _).mono ?_; rintro e w' ⟨rfl, rfl⟩; rw [g1]) | (go_at_call 42; refine (specBaseOk _ _).mono ?_; rintro e w' ⟨rfl, rfl⟩; rw [g2]))
    go_loop [5, 6, 7] (fun bv lv pv => ∃ (best : Option Nat) (left p : Nat), bv = .int .i64 (Pl.optI best) ∧ lv = .int .i64 left ∧ pv = .int .i64 p ∧ 1 ≤ left ∧ left ≤ 16 ∧ 2 ≤ p ∧ p ≤ 17 ∧ (∀ y, best = some y → y ≤ 1000000000) ∧ Pl.NouAt (fun p => Pl.oftN p x) R p left best) (fun _ _ pv => 17 - (intOf pv).toNat)
    case atStart => exact ⟨none, k, 2, rfl, rfl, rfl, by omega, hk2, by omega, by omega, fun y hy => (by simp at hy), HN.out⟩
    case round =>
      clear g1 g2 HN
      obtain ⟨best, left, p, rfl, rfl, rfl, hl1, hl2, hp1, hp2, hby, f, hf, hcnt⟩ := hrel
      by_cases hle : p ≤ left
      · have hi : (p : Int) ≤ (left : Int) := by omega
        have hp0 : ((p : Int) == 0) = false := by simp; omega
        obtain ⟨F, rfl⟩ : ∃ F, f = F + 1 := ⟨f - 1, by omega⟩
        rw [Pl.nouK, if_pos hle] at hcnt
        obtain ⟨hOb, hOC⟩ := HO.out p hp1 (by omega)
        have HOC := Lib.hid hOC
        have HBY := Lib.hid hby
        have hT := Pl.tms_le p 5 left
        have hPick : Hid (Pl.nouPick (fun p => Pl.oftN p x) best p (Pl.tmsN p 5 left) = Pl.nouC (Pl.oftN p x / Pl.tmsN p 5 left) best (Pl.tmsN p 5 left)) := Lib.hid rfl
        clear hOC hby
        have hOO : Hid (Pl.oftN p x = Pl.oftN p x) := Lib.hid rfl
        generalize hBB : Pl.nouPick (fun p => Pl.oftN p x) best p (Pl.tmsN p 5 left) = BB at hcnt hPick
        generalize hO : Pl.oftN p x = Op at hPick HOC hOb
        have HCNT := Lib.hid hcnt
        clear hcnt hBB hOO hO
        generalize hS : Pl.stripN p 5 left = S at *
        have HS := Lib.hid hS
        generalize hTT : Pl.tmsN p 5 left = T at *
        have HT := Lib.hid hTT
        have hspos : 1 ≤ S := by rw [← hS]; exact Pl.strip_pos 5 left hl1
        have hsle : S ≤ left := by rw [← hS]; exact Pl.strip_le p 5 left
        clear hS hTT
        go_wp2_with fail
        go_loop [6, 8] (fun lv tv => ∃ (q t g : Nat), lv = .int .i64 q ∧ tv = .int .i64 t ∧ 1 ≤ q ∧ q ≤ 16 ∧ q < 2 ^ g ∧ t + g ≤ 5 ∧ Pl.stripN p g q = S ∧ t + Pl.tmsN p g q = T) (fun lv _ => (intOf lv).toNat)
        case atStart => exact ⟨left, 0, 5, rfl, rfl, hl1, hl2, by omega, by omega, HS.out, by rw [HT.out, Nat.zero_add]⟩
        case round =>
          obtain ⟨q, t, g, rfl, rfl, hq1, hq2, hqg, hg, hqS, hqT⟩ := hrel
          obtain ⟨G, rfl⟩ : ∃ G, g = G + 1 := ⟨g - 1, by
            have : g ≠ 0 := fun e => by rw [e] at hqg; simp at hqg; omega
            omega⟩
          rw [Pl.stripN] at hqS
          rw [Pl.tmsN] at hqT
          by_cases hz : q % p = 0
          · rw [if_pos hz] at hqS hqT
            have htq : ((q : Int) % (p : Int) == 0) = true := by
              have e : (q : Int) % (p : Int) = ((q % p : Nat) : Int) := rfl
              rw [e, hz]; rfl
            have hd1 := Nat.div_add_mod q p
            have hdq : 1 ≤ q / p := Classical.byContradiction fun hno => by
              rw [Nat.eq_zero_of_not_pos hno, hz] at hd1; omega
            have hd2 : q / p < q := Nat.div_lt_self (by omega) (by omega)
            have hd3 : q / p < 2 ^ G := by
              have g1 : q / p ≤ q / 2 := Nat.div_le_div_left hp1 (by omega)
              rw [Nat.pow_succ] at hqg; omega
            have e1 : ((q : Int)).tdiv (p : Int) = ((q / p : Nat) : Int) := rfl
            have HQ := Lib.hid hqS
            have HQT := Lib.hid hqT
            have HD3 := Lib.hid hd3
            clear hqS hqT hz hd1 hqg hd3
            generalize q / p = Q at *
            have e2 : IntKind.i64.wrap (Q : Int) = (Q : Int) := IntWalk.i64_in _ (by omega)
            go_wp2_with fail
            go_round
            case rel => exact ⟨Q, t + 1, G, rfl, by go_num, hdq, by omega, HD3.out, by omega, HQ.out, by have := HQT.out; omega⟩
            case measure => simp [intOf]; omega
          · rw [if_neg hz] at hqS hqT
            have htq : ((q : Int) % (p : Int) == 0) = false := by
              have e : (q : Int) % (p : Int) = ((q % p : Nat) : Int) := rfl
              rw [e, beq_eq_false_iff_ne]; omega
            rw [Nat.add_zero] at hqT
            subst hqS
            subst hqT
            clear hz hqg
            by_cases ht0 : 0 < t
            · have ti : (0 : Int) < (t : Int) := by omega
              have tz : ((t : Int) == 0) = false := by simp; omega
              have e1 : ((Op : Int)).tdiv (t : Int) = ((Op / t : Nat) : Int) := rfl
              have hdle : Op / t ≤ Op := Nat.div_le_self _ _
              have hP := hPick.out
              clear hPick
              generalize Op / t = D at *
              have e2 : IntKind.i64.wrap (D : Int) = (D : Int) := IntWalk.i64_in _ (by omega)
              cases best with
              | none =>
                replace hP := Lib.hid (hP.trans (Pl.nouC_first D ht0))
                have eo : Pl.optI none = -1 := rfl
                rw [eo]
                go_wp2_with (go_at_call 46; refine (HOC.out _).mono ?_; rintro e w' ⟨rfl, rfl⟩)
                go_round
                case rel => exact ⟨some D, q, p + 1, rfl, rfl, by go_num, hq1, hq2, by omega, by omega, fun y hy => by rw [← Option.some.inj hy]; omega, F, by omega, by rw [← hP.out]; exact HCNT.out⟩
                case measure => simp [intOf]; omega
              | some y =>
                have hyb := HBY.out y rfl
                replace hP := Lib.hid (hP.trans (Pl.nouC_next D y ht0))
                have eo : Pl.optI (some y) = (y : Int) := rfl
                rw [eo]
                have hyn : ¬ (y : Int) < 0 := by omega
                by_cases hDy : D < y
                · have hDi : (D : Int) < (y : Int) := by omega
                  go_wp2_with (go_at_call 46; refine (HOC.out _).mono ?_; rintro e w' ⟨rfl, rfl⟩)
                  go_round
                  case rel => exact ⟨some D, q, p + 1, rfl, rfl, by go_num, hq1, hq2, by omega, by omega, fun z hz => by rw [← Option.some.inj hz]; omega, F, by omega, by rw [← show BB = some D by rw [hP.out, if_pos hDy]]; exact HCNT.out⟩
                  case measure => simp [intOf]; omega
                · have hDi : ¬ (D : Int) < (y : Int) := by omega
                  go_wp2_with (go_at_call 46; refine (HOC.out _).mono ?_; rintro e w' ⟨rfl, rfl⟩)
                  go_round
                  case rel => exact ⟨some y, q, p + 1, rfl, rfl, by go_num, hq1, hq2, by omega, by omega, fun z hz => by rw [← Option.some.inj hz]; omega, F, by omega, by rw [← show BB = some y by rw [hP.out, if_neg hDy]]; exact HCNT.out⟩
                  case measure => simp [intOf]; omega
            · obtain rfl : t = 0 := by omega
              have hP := Lib.hid (hPick.out.trans (Pl.nouC_none _ best))
              clear hPick
              generalize hob : Pl.optI best = OB at *
              have HOB := Lib.hid hob
              clear hob
              go_wp2_with fail
              go_round
              case rel => exact ⟨best, q, p + 1, by rw [HOB.out], rfl, by go_num, hq1, hq2, by omega, by omega, HBY.out, F, by omega, by rw [← hP.out]; exact HCNT.out⟩
              case measure => simp [intOf]; omega
      · have hi : ¬ (p : Int) ≤ (left : Int) := by omega
        have hR : best = some R := by
          cases f with
          | zero => exact hcnt
          | succ f => rw [Pl.nouK, if_neg hle] at hcnt; exact hcnt
        subst hR
        have eo : Pl.optI (some R) = (R : Int) := rfl
        rw [eo]
        clear hcnt hle
        go_wp2_with fail
        go_ret
        exact ⟨rfl, rfl⟩
  · rw [Pl.nouI_no hok]
    by_cases g1 : (decide (0 ≤ n) && decide (n ≤ 1000000000)) = true
    · have g2 : Pl.baseB b = false := by
        rw [← Bool.not_eq_true]; intro hh; exact hok (by rw [okB_halves, g1, hh]; rfl)
      clear hok
      go_enter Try.func36, Try.ntmps36
      go_wp2_with (first | (go_at_call 41; refine (specIn _ _ _ _).mono ?_; rintro e w' ⟨rfl, rfl⟩; rw [g1]) | (go_at_call 42; refine (specBaseOk _ _).mono ?_; rintro e w' ⟨rfl, rfl⟩; rw [g2]))
      go_ret
      exact ⟨rfl, rfl⟩
    · have g1' : (decide (0 ≤ n) && decide (n ≤ 1000000000)) = false := by simpa using g1
      clear hok g1
      go_enter Try.func36, Try.ntmps36
      go_wp2_with (first | (go_at_call 41; refine (specIn _ _ _ _).mono ?_; rintro e w' ⟨rfl, rfl⟩; rw [g1']))
      go_ret
      exact ⟨rfl, rfl⟩

end Go.Proofs.Ytcepbhmnbfaoeaa
