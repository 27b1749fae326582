/-
  spec.MadeBy, spec.MakersOf, spec.SelfOk, spec.SelvesUpTo, spec.RowFrom, spec.JoinAt: what they answer.
-/
import Derived.Test.YtgkkoegfmhgcjaaGreatDoorGNum
import Derived.Test.YtgkkoegfmhgcjaaGreatDoorGPlain
import Derived.OpenShut
namespace Go.Proofs.YtgkkoegfmhgcjaaGreatDoor
open Go.RowKit Go.Shelf

set_option maxRecDepth 100000 in
set_option maxHeartbeats 400000 in
theorem specMadeBy (n b : Int) (w : World) :
    Calls Tryz.prog 136 #[.int .i64 n, .int .i64 b] w fun e w' => e = .returned (.int .i64 (Pl.madeI n b)) ∧ w = w' := by
  by_cases h1 : (decide (0 ≤ n) && decide (n ≤ 1000000000)) = true
  · by_cases h2 : Pl.baseB b = true
    · have hk : Pl.okB n b = true := by rw [Pl.okB, h2, h1]; rfl
      obtain ⟨x, k, rfl, rfl, h3, h4, h5⟩ := Pl.okB_nat hk
      rw [Pl.madeI_yes x k hk, Pl.madeN]
      have hs := Pl.sumI_yes x k hk
      have hle := Pl.sumD_le h3 x
      clear hk
      generalize Pl.sumD k x = S at *
      rw [Int.natCast_add]
      generalize hS : (S : Int) = SI at *
      have hw : IntKind.i64.wrap ((x : Int) + SI) = (x : Int) + SI := IntWalk.i64_in _ (by omega)
      go_enter Tryz.func136, Tryz.ntmps136
      go_wp2_with (first | (go_at_call 49; refine (specIn _ _ _ _).mono ?_; rintro e w' ⟨rfl, rfl⟩; rw [h1]) | (go_at_call 50; refine (specBaseOk _ _).mono ?_; rintro e w' ⟨rfl, rfl⟩; rw [h2]) | (go_at_call 134; refine (specSumOf _ _ _).mono ?_; rintro e w' ⟨rfl, rfl⟩; rw [hs]))
      go_ret
      exact ⟨rfl, rfl⟩
    · have h2' : Pl.baseB b = false := by simpa using h2
      rw [Pl.madeI_no (by rw [Pl.okB]; simp [h2])]
      clear h2
      go_enter Tryz.func136, Tryz.ntmps136
      go_wp2_with (first | (go_at_call 49; refine (specIn _ _ _ _).mono ?_; rintro e w' ⟨rfl, rfl⟩; rw [h1]) | (go_at_call 50; refine (specBaseOk _ _).mono ?_; rintro e w' ⟨rfl, rfl⟩; rw [h2']))
      go_ret
      exact ⟨rfl, rfl⟩
  · have h1' : (decide (0 ≤ n) && decide (n ≤ 1000000000)) = false := by simpa using h1
    rw [Pl.madeI_no (by rw [Pl.okB, h1']; simp)]
    clear h1
    go_enter Tryz.func136, Tryz.ntmps136
    go_wp2_with (first | (go_at_call 49; refine (specIn _ _ _ _).mono ?_; rintro e w' ⟨rfl, rfl⟩; rw [h1']))
    go_ret
    exact ⟨rfl, rfl⟩

set_option maxRecDepth 100000 in
set_option maxHeartbeats 2000000 in
theorem specMakersYes (x k : Nat) (h1 : 2 ≤ k) (h2 : k ≤ 16) (h3 : x ≤ 1000000000) (w : World) :
    Calls Tryz.prog 107 #[.int .i64 x, .int .i64 k] w (ListPost w (Pl.mkPart k x (x + 1))) := by
  obtain ⟨i0, hi0, hz0, hz1, hz2⟩ := info_parts info_int
  have hk := Pl.okB_of h1 h2 h3
  have hin : (decide ((0 : Int) ≤ (x : Int)) && decide ((x : Int) ≤ 1000000000)) = true := by
    have := (Pl.okB_iff _ _).1 hk
    simp; omega
  have hba : Pl.baseB k = true := by rw [Pl.baseB_iff]; omega
  have HLO : Hid (∀ lo, lo + (k - 1) * (Pl.digI k x).length ≤ x → ∀ m, m < lo → Pl.madeN k m ≠ x) := Lib.hid fun lo h => Pl.mkPart_lo h1 (by rwa [← Pl.digI_len])
  have HL30 := Pl.digI_len30 h1 h3
  have HLE : Hid (∀ K, K ≤ x + 1 → (Pl.mkPart k x K).length ≤ 451) := Lib.hid fun K hK => Pl.mkPart_le h1 h2 h3 hK
  have HMB : Hid (∀ m : Nat, m ≤ x → Pl.madeI m k = (Pl.madeN k m : Int)) := Lib.hid fun m hm => Pl.madeI_yes m k (Pl.okB_of h1 h2 (by omega))
  have HD := Lib.hid (l1Digits k h1 h2 29 x)
  clear hk
  have b0 : Below w.heap.size w (w.alloc (.cells #[] 3)) := (Below.refl _ _).alloc (Nat.le_refl _) _
  have r0 := row_empty w
  go_enter Tryz.func107, Tryz.ntmps107
  go_wp2_with (first | (go_at_call 49; refine (specIn _ _ _ _).mono ?_; rintro e w' ⟨rfl, rfl⟩; rw [hin]) | (go_at_call 50; refine (specBaseOk _ _).mono ?_; rintro e w' ⟨rfl, rfl⟩; rw [hba]))
  refine (HD.out _ (by omega) h3).mono ?_
  rintro e w1 ⟨v1, rfl, r1, b1⟩
  obtain ⟨a1, cap1, rfl⟩ := r1.shape
  have r2 := r0.below b1
  have b2 : Below w.heap.size w w1 := b0.trans (b1.mono b0.size)
  clear r0 b0 r1 b1 hin hba HD
  generalize (Pl.digI k x).length = L at *
  obtain ⟨S, hS⟩ : ∃ S, (k - 1) * (L + 1) = S := ⟨_, rfl⟩
  have hSle : S ≤ 465 := by
    rw [← hS]
    exact Nat.le_trans (Nat.mul_le_mul (show k - 1 ≤ 15 by omega) (show L + 1 ≤ 31 by omega)) (by omega)
  have hSL : (k - 1) * L ≤ S := by rw [← hS]; exact Nat.mul_le_mul_left _ (by omega)
  have hSI : ((k : Int) - 1) * ((L : Int) + 1) = (S : Int) := by
    rw [← hS, Int.natCast_mul]
    congr 1
    omega
  have hw : IntKind.i64.wrap (((k : Int) - 1) * ((L : Int) + 1)) = (S : Int) := by rw [hSI]; exact IntWalk.i64_in _ (by omega)
  have HLO2 : Hid (∀ m, m < x - S → Pl.madeN k m ≠ x) := Lib.hid (by
    by_cases hx : S ≤ x
    · exact HLO.out (x - S) (by omega)
    · intro m hm; omega)
  clear hS hSL HLO hSI
  by_cases hcase : S < x
  all_goals
    have HC := Lib.hid hcase
    go_wp2_with fail
    clear hcase
    go_loopw [5, 6] (fun v m wr => ∃ (K : Nat) (vv : Value), vv = v ∧ K ≤ x + 1 ∧ m = .int .i64 K ∧ Row w.heap.size wr vv (Pl.mkPart k x K) ∧ Below w.heap.size w wr) (fun _ m _ => x + 1 - (intOf m).toNat)
    case atStart =>
      have hc := HC.out
      refine ⟨x - S, _, rfl, by omega, ?_, by rw [Pl.mkPart_none HLO2.out]; exact r2, b2⟩
      congr 1
      omega
    case round =>
      clear b2 r2 HC hw
      obtain ⟨K, vv, rfl, hK, rfl, hr, hbw⟩ := hrel
      have hlen := HLE.out K hK
      by_cases hlt : K < x + 1
      · have hi : (K : Int) ≤ (x : Int) := by omega
        have hmb := HMB.out K (by omega)
        by_cases he : Pl.madeN k K = x
        · have HS := Lib.hid (Pl.mkPart_yes he)
          have hq : (Pl.madeI (K : Int) k == (x : Int)) = true := by rw [hmb, he]; simp
          have HM := Lib.hid (specMadeBy (K : Int) k)
          clear he hmb
          generalize Pl.mkPart k x K = R at *
          generalize Pl.madeI (K : Int) k = MK at *
          have hsz := hbw.size
          have hr2 : wr.ownsRow w.heap.size 3 1 vv R.length (R.map (Value.int .i64)) := hr
          clear hr
          go_wp2_with (first | (go_at_call 136; refine (HM.out _).mono ?_; rintro e w' ⟨rfl, rfl⟩) | (at_builtin; refine wpList_append_own _ rfl _ _ 28 rfl w.heap.size 3 i0 (.int .i64 0) 1 8 Tryz.underlying28 hi0 hz0 hz1 hz2 rfl (by decide) _ _ _ rfl (hr2.alloc _) ⟨wr.heap.size, 0, none⟩ 1 1 [.int .i64 (K : Int)] rfl rfl (cell_one_new _ _ _) (by simp [Value.oneCell']) (by unfold maxLen; omega) (by omega) (by simp; omega) ?_; intro v6 w6 hown6 hgrow6 _))
          have hb6 : Below w.heap.size w w6 := below_append (hbw.alloc (by omega) _) (hr2.alloc _) hgrow6
          go_roundw
          case rel => exact ⟨K + 1, _, rfl, by omega, by simp, by rw [HS.out]; exact row_snoc hown6, hb6⟩
          case measure => simp [intOf]; omega
        · have HS := Lib.hid (Pl.mkPart_not he)
          have hq : (Pl.madeI (K : Int) k == (x : Int)) = false := by rw [hmb, beq_eq_false_iff_ne]; exact fun hh => he (by exact_mod_cast hh)
          clear he hmb
          generalize Pl.mkPart k x K = R at *
          go_wp2_with (go_at_call 136; refine (specMadeBy _ _ _).mono ?_; rintro e w' ⟨rfl, rfl⟩)
          go_roundw
          case rel => exact ⟨K + 1, _, rfl, by omega, by simp, by rw [HS.out]; exact hr, hbw⟩
          case measure => simp [intOf]; omega
      · obtain rfl : K = x + 1 := by omega
        have hi : ¬ ((x + 1 : Nat) : Int) ≤ (x : Int) := by omega
        obtain ⟨a', cap', rfl⟩ := hr.shape
        have HR := Lib.hid hr
        clear hr
        go_wp2_with fail
        go_ret
        exact ⟨_, rfl, HR.out, hbw⟩

set_option maxRecDepth 100000 in
set_option maxHeartbeats 400000 in
theorem specMakersOf (n b : Int) (w : World) : Calls Tryz.prog 107 #[.int .i64 n, .int .i64 b] w (ListPost w (Pl.makersA n b)) := by
  have b0 : Below w.heap.size w (w.alloc (.cells #[] 3)) := (Below.refl _ _).alloc (Nat.le_refl _) _
  have r0 := row_empty w
  by_cases h1 : (decide (0 ≤ n) && decide (n ≤ 1000000000)) = true
  · by_cases h2 : Pl.baseB b = true
    · have hk : Pl.okB n b = true := by rw [Pl.okB, h2, h1]; rfl
      obtain ⟨x, k, rfl, rfl, h3, h4, h5⟩ := Pl.okB_nat hk
      rw [Pl.makersA_yes x k hk]
      exact specMakersYes x k h3 h4 h5 w
    · have h2' : Pl.baseB b = false := by simpa using h2
      rw [Pl.makersA_no (by rw [Pl.okB]; simp [h2])]
      clear h2
      go_enter Tryz.func107, Tryz.ntmps107
      go_wp2_with (first | (go_at_call 49; refine (specIn _ _ _ _).mono ?_; rintro e w' ⟨rfl, rfl⟩; rw [h1]) | (go_at_call 50; refine (specBaseOk _ _).mono ?_; rintro e w' ⟨rfl, rfl⟩; rw [h2']))
      go_ret
      exact ⟨_, rfl, r0, b0⟩
  · have h1' : (decide (0 ≤ n) && decide (n ≤ 1000000000)) = false := by simpa using h1
    rw [Pl.makersA_no (by rw [Pl.okB, h1']; simp)]
    clear h1
    go_enter Tryz.func107, Tryz.ntmps107
    go_wp2_with (first | (go_at_call 49; refine (specIn _ _ _ _).mono ?_; rintro e w' ⟨rfl, rfl⟩; rw [h1']))
    go_ret
    exact ⟨_, rfl, r0, b0⟩

set_option maxRecDepth 100000 in
set_option maxHeartbeats 400000 in
theorem specSelfOk (n b : Int) (w : World) :
    Calls Tryz.prog 71 #[.int .i64 n, .int .i64 b] w fun e w' => e = .returned (.bool (Pl.selfB n b)) ∧ Below w.heap.size w w' := by
  by_cases h1 : (decide (0 ≤ n) && decide (n ≤ 1000000000)) = true
  · by_cases h2 : Pl.baseB b = true
    · have hk : Pl.okB n b = true := by rw [Pl.okB, h2, h1]; rfl
      rw [Pl.selfB_len hk]
      have HM := Lib.hid (specMakersOf n b)
      clear hk
      generalize Pl.makersA n b = L at *
      go_enter Tryz.func71, Tryz.ntmps71
      go_wp2_with (first | (go_at_call 49; refine (specIn _ _ _ _).mono ?_; rintro e w' ⟨rfl, rfl⟩; rw [h1]) | (go_at_call 50; refine (specBaseOk _ _).mono ?_; rintro e w' ⟨rfl, rfl⟩; rw [h2]))
      refine (HM.out _).mono ?_
      rintro e w1 ⟨v1, rfl, r1, b1⟩
      obtain ⟨a1, cap1, rfl⟩ := r1.shape
      go_wp2_with fail
      go_ret
      exact ⟨rfl, b1⟩
    · have h2' : Pl.baseB b = false := by simpa using h2
      rw [Pl.selfB_no (by rw [Pl.okB]; simp [h2])]
      clear h2
      go_enter Tryz.func71, Tryz.ntmps71
      go_wp2_with (first | (go_at_call 49; refine (specIn _ _ _ _).mono ?_; rintro e w' ⟨rfl, rfl⟩; rw [h1]) | (go_at_call 50; refine (specBaseOk _ _).mono ?_; rintro e w' ⟨rfl, rfl⟩; rw [h2']))
      go_ret
      exact ⟨rfl, Below.refl _ _⟩
  · have h1' : (decide (0 ≤ n) && decide (n ≤ 1000000000)) = false := by simpa using h1
    rw [Pl.selfB_no (by rw [Pl.okB, h1']; simp)]
    clear h1
    go_enter Tryz.func71, Tryz.ntmps71
    go_wp2_with (first | (go_at_call 49; refine (specIn _ _ _ _).mono ?_; rintro e w' ⟨rfl, rfl⟩; rw [h1']))
    go_ret
    exact ⟨rfl, Below.refl _ _⟩

end Go.Proofs.YtgkkoegfmhgcjaaGreatDoor

namespace Go.Proofs.YtgkkoegfmhgcjaaGreatDoor
open Go.RowKit Go.Shelf

namespace Pl

/-- The walk over the digits, the last one first: the product so far and what is left. -/
def ProdAt (b n T left : Nat) : Prop := T ≤ n ∧ T * left ≤ n ∧ ((left = 0 ∧ T = prodD b n) ∨ (1 ≤ left ∧ T * prodD b left = prodD b n))

theorem prodAt_start {b n : Nat} (hb : 2 ≤ b) : ProdAt b n (n % b) (n / b) := by
  have h1 := Nat.div_add_mod n b
  have h2 := Nat.mod_lt n (show 0 < b by omega)
  refine ⟨Nat.mod_le _ _, ?_, ?_⟩
  · have : n % b * (n / b) ≤ b * (n / b) := Nat.mul_le_mul_right _ (by omega)
    omega
  · by_cases h : n < b
    · left; exact ⟨Nat.div_eq_of_lt h, by rw [Nat.mod_eq_of_lt h, prodD_lt h]⟩
    · right; exact ⟨(Nat.one_le_div_iff (by omega)).2 (by omega), (prodD_ge hb (by omega)).symm⟩

theorem prodAt_next {b n T left : Nat} (hb : 2 ≤ b) (h : ProdAt b n T left) (h0 : 0 < left) : ProdAt b n (T * (left % b)) (left / b) ∧ T * (left % b) ≤ n := by
  obtain ⟨h1, h2, h3⟩ := h
  have d1 := Nat.div_add_mod left b
  have d2 := Nat.mod_lt left (show 0 < b by omega)
  have hle : T * (left % b) ≤ n := by
    have : T * (left % b) ≤ T * left := Nat.mul_le_mul_left T (Nat.mod_le _ _)
    omega
  refine ⟨⟨hle, ?_, ?_⟩, hle⟩
  · have g1 : left % b * (left / b) ≤ b * (left / b) := Nat.mul_le_mul_right _ (by omega)
    have g2 : T * (left % b * (left / b)) ≤ T * left := Nat.mul_le_mul_left T (by omega)
    rw [← Nat.mul_assoc] at g2; omega
  · rcases h3 with ⟨h, _⟩ | ⟨_, h4⟩
    · omega
    · by_cases h : left < b
      · rw [prodD_lt h] at h4
        left; exact ⟨Nat.div_eq_of_lt h, by rw [Nat.mod_eq_of_lt h]; exact h4⟩
      · rw [prodD_ge hb (by omega), ← Nat.mul_assoc] at h4
        right; exact ⟨(Nat.one_le_div_iff (by omega)).2 (by omega), h4⟩

theorem prodAt_end {b n T : Nat} (h : ProdAt b n T 0) : T = prodD b n := by
  rcases h.2.2 with ⟨_, h1⟩ | ⟨h1, _⟩
  · exact h1
  · omega

end Pl

set_option maxHeartbeats 1000000 in
theorem l9Product (x b : Nat) (hb : 2 ≤ b) (hb' : b ≤ 16) (hx : x ≤ 1000000000) (w : World) :
    Calls Tryz.prog 108 #[.int .i64 x, .int .i64 b] w fun e w' => e = .returned (.int .i64 ((Pl.prodD b x : Nat) : Int)) ∧ w = w' := by
  have HS := Lib.hid (Pl.prodAt_start (n := x) hb)
  have hne : ((b : Int) == 0) = false := by rw [beq_eq_false_iff_ne]; omega
  obtain ⟨R, hR⟩ : ∃ R, Pl.prodD b x = R := ⟨_, rfl⟩
  have HR := Lib.hid hR
  rw [hR]
  clear hR
  have e1 : ((x : Int)).tdiv (b : Int) = ((x / b : Nat) : Int) := rfl
  have e2 : ((x : Int)).tmod (b : Int) = ((x % b : Nat) : Int) := rfl
  have hq := Nat.div_le_self x b
  generalize x / b = q at *
  generalize x % b = r at *
  have e3 : IntKind.i64.wrap (q : Int) = (q : Int) := IntWalk.i64_in _ (by omega)
  go_enter Tryz.func108, Tryz.ntmps108
  go_wp2
  go_loop [5, 6] (fun t l => ∃ (T left : Nat), left ≤ x ∧ T ≤ 1000000000 ∧ t = .int .i64 T ∧ l = .int .i64 left ∧ Pl.ProdAt b x T left) (fun _ l => (intOf l).toNat)
  case atStart => exact ⟨r, q, by omega, Nat.le_trans HS.out.1 hx, rfl, rfl, HS.out⟩
  case round =>
    clear e1 e2 e3 HS hq
    obtain ⟨T, left, hl, hT, rfl, rfl, hAt⟩ := hrel
    by_cases hlt : 0 < left
    · obtain ⟨hA, hle⟩ := Pl.prodAt_next hb hAt hlt
      have HA := Lib.hid hA
      have hq1 : left / b < left := Nat.div_lt_self hlt (by omega)
      have e1 : ((left : Int)).tdiv (b : Int) = ((left / b : Nat) : Int) := rfl
      have e2 : ((left : Int)).tmod (b : Int) = ((left % b : Nat) : Int) := rfl
      have hi : (0 : Int) < (left : Int) := by omega
      have e3 : IntKind.i64.wrap ((T : Int) * ((left % b : Nat) : Int)) = ((T * (left % b) : Nat) : Int) := by
        rw [← Int.natCast_mul]; exact IntWalk.i64_in _ (by omega)
      clear hA hAt
      generalize left / b = q' at *
      generalize left % b = r' at *
      have e5 : IntKind.i64.wrap (q' : Int) = (q' : Int) := IntWalk.i64_in _ (by omega)
      generalize T * r' = M at *
      go_wp2
      go_round
      case rel => exact ⟨M, q', by omega, by omega, rfl, rfl, HA.out⟩
      case measure => simp [intOf]; omega
    · obtain rfl : left = 0 := by omega
      have HE := Lib.hid (Pl.prodAt_end hAt)
      clear hAt
      go_wp2
      go_ret
      exact ⟨ret_int (by rw [HE.out, HR.out]), rfl⟩

set_option maxHeartbeats 400000 in
theorem specDigitProduct (n b : Int) (w : World) :
    Calls Tryz.prog 135 #[.int .i64 n, .int .i64 b] w fun e w' => e = .returned (.int .i64 (Pl.prodI n b)) ∧ w = w' := by
  by_cases hn : (decide (0 ≤ n) && decide (n ≤ 1000000000)) = true
  · by_cases hB : Pl.baseB b = true
    · have h : Pl.okB n b = true := by rw [okB_halves, hn, hB]; rfl
      obtain ⟨x, k, rfl, rfl, h1, h2, h3⟩ := Pl.okB_nat h
      rw [Pl.prodI_yes x k h]
      have HP := Lib.hid (l9Product x k h1 h2 h3)
      clear h
      generalize Pl.prodD k x = P at *
      go_enter Tryz.func135, Tryz.ntmps135
      go_wp2_with (first | (go_at_call 49; refine (specIn _ _ _ _).mono ?_; rintro e w' ⟨rfl, rfl⟩; rw [hn]) | (go_at_call 50; refine (specBaseOk _ _).mono ?_; rintro e w' ⟨rfl, rfl⟩; rw [hB]) | (go_at_call 108; refine (HP.out _).mono ?_; rintro e w' ⟨rfl, rfl⟩))
      go_ret
      exact ⟨rfl, rfl⟩
    · have h : ¬ Pl.okB n b = true := by rw [okB_halves, hn]; simpa using hB
      have hB' : Pl.baseB b = false := by simpa using hB
      rw [Pl.prodI_no h]
      clear h hB
      go_enter Tryz.func135, Tryz.ntmps135
      go_wp2_with (first | (go_at_call 49; refine (specIn _ _ _ _).mono ?_; rintro e w' ⟨rfl, rfl⟩; rw [hn]) | (go_at_call 50; refine (specBaseOk _ _).mono ?_; rintro e w' ⟨rfl, rfl⟩; rw [hB']))
      go_ret
      exact ⟨rfl, rfl⟩
  · have h : ¬ Pl.okB n b = true := by rw [okB_halves]; simp [hn]
    have hn' : (decide (0 ≤ n) && decide (n ≤ 1000000000)) = false := by simpa using hn
    rw [Pl.prodI_no h]
    clear h hn
    go_enter Tryz.func135, Tryz.ntmps135
    go_wp2_with (first | (go_at_call 49; refine (specIn _ _ _ _).mono ?_; rintro e w' ⟨rfl, rfl⟩; rw [hn']))
    go_ret
    exact ⟨rfl, rfl⟩

/-- So many steps on, at a number. -/
def Pl.PersAt (b x s m : Nat) : Prop := Pl.persN b x = ((Pl.persN b m).1 + s, (Pl.persN b m).2)

theorem ret_pers {a b c d : Int} {x y : Bool} (h1 : a = b) (h2 : c = d) (h3 : x = y) : Ending.returned (.tuple #[.int .i64 a, .int .i64 c, .bool x]) = .returned (.tuple #[.int .i64 b, .int .i64 d, .bool y]) := by rw [h1, h2, h3]

set_option maxHeartbeats 1000000 in
theorem specPersistsOf (n b : Int) (w : World) :
    Calls Tryz.prog 72 #[.int .i64 n, .int .i64 b] w fun e w' => e = .returned (.tuple #[.int .i64 (Pl.peK (Pl.persA n b)), .int .i64 (Pl.peL (Pl.persA n b)), .bool (Pl.peB (Pl.persA n b))]) ∧ w = w' := by
  by_cases hn : (decide (0 ≤ n) && decide (n ≤ 1000000000)) = true
  · by_cases hB : Pl.baseB b = true
    · have h : Pl.okB n b = true := by rw [okB_halves, hn, hB]; rfl
      obtain ⟨x, k, rfl, rfl, h1, h2, h3⟩ := Pl.okB_nat h
      rw [Pl.persA_yes x k h]
      have HS : Hid (Pl.PersAt k x 0 x) := Lib.hid rfl
      clear h
      go_enter Tryz.func72, Tryz.ntmps72
      go_wp2_with (first | (go_at_call 49; refine (specIn _ _ _ _).mono ?_; rintro e w' ⟨rfl, rfl⟩; rw [hn]) | (go_at_call 50; refine (specBaseOk _ _).mono ?_; rintro e w' ⟨rfl, rfl⟩; rw [hB]))
      go_loop [0, 7] (fun mv sv => ∃ m s : Nat, mv = .int .i64 m ∧ sv = .int .i64 s ∧ m + s ≤ 1000000000 ∧ Pl.PersAt k x s m) (fun mv _ => (intOf mv).toNat)
      case atStart => exact ⟨x, 0, rfl, rfl, by omega, HS.out⟩
      case round =>
        clear hn hB HS
        obtain ⟨m, s, rfl, rfl, hms, hAt⟩ := hrel
        by_cases hlt : k ≤ m
        · have hi : (k : Int) ≤ (m : Int) := by omega
          have hless := Pl.prodD_less h1 hlt
          have HP := Lib.hid (l9Product m k h1 h2 (by omega))
          have HN : Hid (Pl.PersAt k x (s + 1) (Pl.prodD k m)) := Lib.hid (by
            unfold Pl.PersAt at hAt ⊢
            rw [hAt, Pl.persN_ge h1 hlt]
            simp [Nat.add_assoc, Nat.add_comm 1 s])
          clear hAt
          generalize Pl.prodD k m = P at *
          go_wp2_with (go_at_call 108; refine (HP.out _).mono ?_; rintro e w' ⟨rfl, rfl⟩)
          go_round
          case rel => exact ⟨P, s + 1, rfl, by go_num, by omega, HN.out⟩
          case measure => simp [intOf]; omega
        · have hi : ¬ (k : Int) ≤ (m : Int) := by omega
          have HN : Hid (Pl.persN k x = (s, m)) := Lib.hid (by
            unfold Pl.PersAt at hAt
            rw [hAt, Pl.persN_lt (by omega)]; simp)
          clear hAt
          go_wp2_with fail
          go_ret3
          exact ⟨ret_pers (by rw [HN.out]; rfl) (by rw [HN.out]; rfl) rfl, rfl⟩
    · have h : ¬ Pl.okB n b = true := by rw [okB_halves, hn]; simpa using hB
      have hB' : Pl.baseB b = false := by simpa using hB
      rw [Pl.persA_no h]
      clear h hB
      go_enter Tryz.func72, Tryz.ntmps72
      go_wp2_with (first | (go_at_call 49; refine (specIn _ _ _ _).mono ?_; rintro e w' ⟨rfl, rfl⟩; rw [hn]) | (go_at_call 50; refine (specBaseOk _ _).mono ?_; rintro e w' ⟨rfl, rfl⟩; rw [hB']))
      go_ret3
      exact ⟨rfl, rfl⟩
  · have h : ¬ Pl.okB n b = true := by rw [okB_halves]; simp [hn]
    have hn' : (decide (0 ≤ n) && decide (n ≤ 1000000000)) = false := by simpa using hn
    rw [Pl.persA_no h]
    clear h hn
    go_enter Tryz.func72, Tryz.ntmps72
    go_wp2_with (first | (go_at_call 49; refine (specIn _ _ _ _).mono ?_; rintro e w' ⟨rfl, rfl⟩; rw [hn']))
    go_ret3
    exact ⟨rfl, rfl⟩

end Go.Proofs.YtgkkoegfmhgcjaaGreatDoor

namespace Go.Proofs.YtgkkoegfmhgcjaaGreatDoor
open Go.RowKit Go.Shelf

attribute [local go_sem] Oper.semAt_some

namespace Pl
/-- The product of what has come, as it is kept. -/
def stepP (p : Int) (d : Nat) : Int := IntKind.i64.wrap (p * (d : Int))
def prodDg (l : List Dg) : Int := (l.map (·.1)).foldl stepP 1
theorem prodDg_snoc (l : List Dg) (d : Dg) : prodDg (l ++ [d]) = IntKind.i64.wrap (prodDg l * (d.1 : Int)) := by simp [prodDg, stepP]
theorem wrap_wrap_mul (a d : Int) : IntKind.i64.wrap (IntKind.i64.wrap a * d) = IntKind.i64.wrap (a * d) := by
  rw [IntKind.wrap_i64, IntKind.wrap_i64 a, IntKind.wrap_i64 (a * d)]
  have h : ∀ m : Int, ((a + m) % 18446744073709551616 - m) * d % 18446744073709551616 = a * d % 18446744073709551616 := by
    intro m
    rw [Int.sub_mul, Int.sub_emod, Int.mul_emod ((a + m) % 18446744073709551616) d, Int.emod_emod, ← Int.mul_emod, ← Int.sub_emod, ← Int.sub_mul, Int.add_sub_cancel]
  have h2 := h 9223372036854775808
  have h3 := Int.emod_add_emod (((a + 9223372036854775808) % 18446744073709551616 - 9223372036854775808) * d) 18446744073709551616 9223372036854775808
  have h4 := Int.emod_add_emod (a * d) 18446744073709551616 9223372036854775808
  rw [h2] at h3
  rw [← h3, h4]
theorem foldl_wrap : ∀ (l : List Nat) (p q : Int), IntKind.i64.wrap p = IntKind.i64.wrap q → IntKind.i64.wrap (l.foldl stepP p) = IntKind.i64.wrap (q * ((l.foldr (· * ·) 1 : Nat) : Int)) := by
  intro l
  induction l with
  | nil => intro p q h; simpa using h
  | cons a t ih =>
    intro p q h
    rw [List.foldl_cons, ih _ (q * (a : Int))]
    · rw [List.foldr_cons, Int.natCast_mul, Int.mul_assoc]
    · unfold stepP
      have e : IntKind.i64.wrap (IntKind.i64.wrap (p * (a : Int))) = IntKind.i64.wrap (p * (a : Int)) := by
        have := wrap_wrap_mul (p * (a : Int)) 1
        simpa using this
      rw [e, ← wrap_wrap_mul p, h, wrap_wrap_mul]
theorem prodDg_all {b x : Nat} (hb : 2 ≤ b) (hb' : b ≤ 16) (hx : x ≤ 1000000000) : prodDg (digsF b x) = ((prodD b x : Nat) : Int) := by
  have hle := prodD_le hb x
  have hw : IntKind.i64.wrap (prodDg (digsF b x)) = ((prodD b x : Nat) : Int) := by
    rw [prodDg, foldl_wrap _ 1 1 rfl, digsF_val hb hb', Int.one_mul]
    exact IntWalk.i64_in _ (by rw [← prodD]; omega)
  have hid : IntKind.i64.wrap (prodDg (digsF b x)) = prodDg (digsF b x) := by
    generalize digsF b x = L
    rcases List.eq_nil_or_concat L with rfl | ⟨l, d, rfl⟩
    · exact IntWalk.i64_in 1 (by omega)
    · rw [List.concat_eq_append, prodDg_snoc]
      have := wrap_wrap_mul (prodDg l * (d.1 : Int)) 1
      simpa using this
  rw [← hid, hw]
end Pl

set_option maxRecDepth 100000 in
set_option maxHeartbeats 2000000 in
theorem digitProductYes (x b : Nat) (hb : 2 ≤ b) (hb' : b ≤ 16) (hx : x ≤ 1000000000) (w : World) :
    Calls Tryz.prog 127 #[.int .i64 x, .int .i64 b] w fun e W' => e = .returned (.int .i64 ((Pl.prodD b x : Nat) : Int)) ∧ Below w.heap.size w W' := by
  refine (callsIn_wide (n := 5)).1 ?_
  have h1 : 1 ≤ 5 := by omega
  have hok : Pl.okB x b = true := by rw [Pl.okB_iff]; omega
  have hN := Pl.digsR_len30 hb hx
  refine callsIn_of_wp_marks Tryz.func127 rfl trivial ?_ rfl
  simp only [Tryz.ntmps127, List.size_toArray, List.length_cons, List.length_nil, Nat.reduceAdd, Nat.reduceSub, Array.replicate_succ, Array.replicate_zero, List.push_toArray, List.append_toArray, List.nil_append, List.cons_append]
  gi_wp2_with (first | (refine ⟨trivial, ?_⟩; gi_at_call 79; refine (callsIn_wide.2 (hasDigits _ _ _)).mono ?_; rintro e w' ⟨rfl, rfl⟩) | (refine ⟨trivial, ?_⟩; gi_at_call 158; refine (lastFirst Fence.wide (5 - 1) trivial rfl _ _ _).mono ?_; rintro e w' ⟨rfl, rfl⟩))
  have hs := cell_new_l w (.int .i64 1) 3
  have c1 := cell_new_l (w.alloc (.cells #[.int .i64 1] 3)) (.int .i64 x) 3
  have c2 := cell_new_l ((w.alloc (.cells #[.int .i64 1] 3)).alloc (.cells #[.int .i64 x] 3)) (.int .i64 b) 3
  simp only [World.size_alloc] at c1 c2
  have hB0 : Below w.heap.size w (((w.alloc (.cells #[.int .i64 1] 3)).alloc (.cells #[.int .i64 x] 3)).alloc (.cells #[.int .i64 b] 3)) := (((Below.refl _ w).alloc (Nat.le_refl _) _).alloc (by simp) _).alloc (by simp; omega) _
  refine wpIn_rangeFunc_ownF (F := Fence.wide) rfl h1 (gf := 186) (lb := #[.pointer (some ⟨w.heap.size + 1, 0, none⟩), .pointer (some ⟨w.heap.size + 1 + 1, 0, none⟩)]) rfl trivial (enters_of Tryz.func186 (by kernel_rfl) rfl)
    (lastFirst_stops Fence.wide (5 - 1) trivial rfl (by omega) (w.heap.size + 1) x b hb hb' hx _ (by simp) (cell_alloc_l _ c1.1) c2.1) Kept.trans (kept_b (by simp)) (Below.refl _ _) (fun _ => rfl)
    (fun pre W => (W.cell? ⟨w.heap.size, 0, none⟩ = some (.int .i64 (Pl.prodDg pre)) ∧ W.frozen? ⟨w.heap.size, 0, none⟩ = false) ∧ Below w.heap.size w W)
    (fun _ _ _ => False)
    (OwnFrom.and (Own.from (fun s A B row hs hg hr => ⟨cell_kept hs.1 hg hr, (frozen_kept hs.1 hg hr).trans hs.2⟩) _) (ownFrom_below (Nat.le_refl _) (by simp; omega)))
    (fun _ _ _ _ _ hs _ _ => hs)
    ⟨⟨cell_alloc_l _ (cell_alloc_l _ hs.1), frozen_alloc_l _ (cell_alloc_l _ hs.1) (frozen_alloc_l _ hs.1 hs.2)⟩, hB0⟩
    (fun d => { tmps := #[.int .i64 x, .int .i64 b, undef, undef, .int .i64 0, .pointer (some ⟨w.heap.size, 0, none⟩), .int .i64 (d.1 : Int), .int .i64 x, .int .i64 b, .bool true, .bool false, .int .i64 x, .int .i64 b,
      .func (.func 186) #[] #[.pointer (some ⟨w.heap.size + 1, 0, none⟩), .pointer (some ⟨w.heap.size + 1 + 1, 0, none⟩)], .int .i64 (d.1 : Int), undef, undef, undef, undef], defers := [] }) ?assign ?body ?done ?stop
  case assign =>
    intro l d W K hK
    gi_wp2
    exact hK
  case body =>
    rintro l pre d W ⟨⟨hc, hf⟩, hB⟩ hlen
    have hs := Pl.prodDg_snoc pre d
    have HS := Lib.hid hs
    clear hs
    generalize Pl.prodDg pre = P at *
    gi_wp2
    exact ⟨KeepsOthers.setCell _ _ _, (Kept.refl W).setCell (p := ⟨w.heap.size, 0, none⟩) (.inl (by simp)) _, ⟨by rw [HS.out, IntWalk.i64_left]; exact World.cell?_setCell_same' _ _ _ (by rw [hc]; rfl), by rw [World.frozen?_setCell]; exact hf⟩, hB.setCell (p := ⟨w.heap.size, 0, none⟩) (Nat.le_refl _) _⟩
  case done =>
    rintro D ys W hD rfl ⟨⟨hc, _⟩, hB⟩ hK
    rw [Pl.prodDg_all hb hb' hx] at hc
    gi_wp2
    refine ⟨by simp, .inl ⟨_, _, rfl, run_takeDeferred hK, ?_⟩⟩
    exact ⟨_, results_tmp rfl _ _ _, rfl, hB.trans (belowK_b (w := w) (Nat.le_refl _) W D _ _ (by simp at hD; omega) hK rfl rfl)⟩
  case stop =>
    rintro D c pre W _ _ h _
    exact h.elim

set_option maxHeartbeats 400000 in
theorem implDigitProduct (n b : Int) (w : World) :
    Calls Tryz.prog 127 #[.int .i64 n, .int .i64 b] w fun e W' => e = .returned (.int .i64 (Pl.prodI n b)) ∧ Below w.heap.size w W' := by
  by_cases h : Pl.okB n b = true
  · obtain ⟨x, k, rfl, rfl, h1, h2, h3⟩ := Pl.okB_nat h
    rw [Pl.prodI_yes x k h]
    exact digitProductYes x k h1 h2 h3 w
  · rw [Pl.prodI_no h]
    go_enter Tryz.func127, Tryz.ntmps127
    go_wp2_with (go_at_call 79; refine (hasDigits _ _ _).mono ?_; rintro e w' ⟨rfl, rfl⟩)
    go_ret
    exact ⟨rfl, Below.refl _ _⟩

set_option maxHeartbeats 400000 in
theorem productsFrom (b : Nat) (hb : 2 ≤ b) (hb' : b ≤ 16) (x : Nat) : x ≤ 1000000000 → ∀ (w : World),
    Calls Tryz.prog 179 #[.int .i64 x, .int .i64 b] w fun e w' => e = .returned (.tuple #[.int .i64 (((Pl.persN b x).1 : Nat) : Int), .int .i64 (((Pl.persN b x).2 : Nat) : Int)]) ∧ Below w.heap.size w w' := by
  induction x using Nat.strongRecOn with
  | _ x ih =>
    intro hx w
    by_cases hlt : x < b
    · have h1 := Lib.hid (Pl.persN_lt hlt)
      clear ih
      go_enter Tryz.func179, Tryz.ntmps179
      go_wp2_with fail
      go_ret2
      exact ⟨by rw [h1.out]; rfl, Below.refl _ _⟩
    · have hless := Pl.prodD_less hb (n := x) (by omega)
      have hfew := Pl.persN_le hb (Pl.prodD b x)
      have HD := Lib.hid (digitProductYes x b hb hb' hx)
      have hok : Pl.okB (x : Int) (b : Int) = true := by rw [Pl.okB_iff]; omega
      have IH : Hid (∀ (W : World), Calls Tryz.prog 179 #[.int .i64 (Pl.prodD b x), .int .i64 b] W fun e w' => e = .returned (.tuple #[.int .i64 (((Pl.persN b (Pl.prodD b x)).1 : Nat) : Int), .int .i64 (((Pl.persN b (Pl.prodD b x)).2 : Nat) : Int)]) ∧ Below W.heap.size W w') :=
        Lib.hid fun W => ih (Pl.prodD b x) hless (by omega) W
      have h1 := Lib.hid (Pl.persN_ge hb (n := x) (by omega))
      clear ih hok
      generalize Pl.persN b (Pl.prodD b x) = Q at *
      generalize Pl.prodD b x = P at *
      go_enter Tryz.func179, Tryz.ntmps179
      go_wp2_with fail
      refine (HD.out _).mono ?_
      rintro e w1 ⟨rfl, hb1⟩
      go_wp2_with fail
      refine (IH.out _).mono ?_
      rintro e w2 ⟨rfl, hb2⟩
      go_wp2
      go_ret2
      exact ⟨by rw [h1.out]; simp, hb1.trans (hb2.mono hb1.size)⟩

set_option maxHeartbeats 400000 in
theorem implPersistsOf (n b : Int) (w : World) :
    Calls Tryz.prog 153 #[.int .i64 n, .int .i64 b] w fun e w' => e = .returned (.tuple #[.int .i64 (Pl.peK (Pl.persA n b)), .int .i64 (Pl.peL (Pl.persA n b)), .bool (Pl.peB (Pl.persA n b))]) ∧ Below w.heap.size w w' := by
  by_cases h : Pl.okB n b = true
  · obtain ⟨x, k, rfl, rfl, h1, h2, h3⟩ := Pl.okB_nat h
    rw [Pl.persA_yes x k h]
    go_enter Tryz.func153, Tryz.ntmps153
    go_wp2_with (go_at_call 79; refine (hasDigits _ _ _).mono ?_; rintro e w' ⟨rfl, rfl⟩)
    refine (productsFrom k h1 h2 x h3 _).mono ?_
    rintro e w1 ⟨rfl, hb1⟩
    go_wp2
    go_ret3
    exact ⟨rfl, hb1⟩
  · rw [Pl.persA_no h]
    go_enter Tryz.func153, Tryz.ntmps153
    go_wp2_with (go_at_call 79; refine (hasDigits _ _ _).mono ?_; rintro e w' ⟨rfl, rfl⟩)
    go_ret3
    exact ⟨rfl, Below.refl _ _⟩

end Go.Proofs.YtgkkoegfmhgcjaaGreatDoor

namespace Go.Proofs.YtgkkoegfmhgcjaaGreatDoor
open Go.RowKit Go.Shelf

set_option maxRecDepth 100000 in
set_option maxHeartbeats 400000 in
theorem implMadeBy (n b : Int) (w : World) :
    Calls Tryz.prog 131 #[.int .i64 n, .int .i64 b] w fun e w' => e = .returned (.int .i64 (Pl.madeI n b)) ∧ Below w.heap.size w w' := by
  by_cases hk : Pl.okB n b = true
  · have HU := Lib.hid (implSumOf n b)
    obtain ⟨x, k, rfl, rfl, h3, h4, h5⟩ := Pl.okB_nat hk
    rw [Pl.madeI_yes x k hk, Pl.madeN]
    rw [Pl.sumI_yes x k hk] at HU
    have hle := Pl.sumD_le h3 x
    generalize Pl.sumD k x = S at *
    rw [Int.natCast_add]
    generalize hS : (S : Int) = SI at *
    have hw : IntKind.i64.wrap ((x : Int) + SI) = (x : Int) + SI := IntWalk.i64_in _ (by omega)
    go_enter Tryz.func131, Tryz.ntmps131
    go_wp2_with (first | (go_at_call 79; refine (hasDigits _ _ _).mono ?_; rintro e w' ⟨rfl, rfl⟩; rw [hk]) | (go_at_call 126; refine (HU.out _).mono ?_; rintro e w1 ⟨rfl, hb1⟩))
    go_ret
    exact ⟨rfl, hb1⟩
  · rw [Pl.madeI_no hk]
    have hk' : Pl.okB n b = false := by simpa using hk
    clear hk
    go_enter Tryz.func131, Tryz.ntmps131
    go_wp2_with (go_at_call 79; refine (hasDigits _ _ _).mono ?_; rintro e w' ⟨rfl, rfl⟩; rw [hk'])
    go_ret
    exact ⟨rfl, Below.refl _ _⟩

/-- From where makers are sought. -/
theorem leastMaker (x k : Nat) (h1 : 2 ≤ k) (h2 : k ≤ 16) (h3 : x ≤ 1000000000) (w : World) :
    Calls Tryz.prog 196 #[.int .i64 x, .int .i64 k] w fun e w' => e = .returned (.int .i64 ((x - (k - 1) * (Pl.digI k x).length : Nat) : Int)) ∧ Below w.heap.size w w' := by
  have hk := Pl.okB_of h1 h2 h3
  have HL := Lib.hid (implLongOf x k)
  have e1 : longI x k = ((Pl.digI k x).length : Int) := by rw [longI, if_pos hk, Pl.digA_yes x k hk]
  rw [e1] at HL
  have HL30 := Pl.digI_len30 h1 h3
  clear hk e1
  generalize (Pl.digI k x).length = L at *
  obtain ⟨S, hS⟩ : ∃ S, (k - 1) * L = S := ⟨_, rfl⟩
  have hSle : S ≤ 465 := by
    rw [← hS]
    exact Nat.le_trans (Nat.mul_le_mul (show k - 1 ≤ 15 by omega) (show L ≤ 31 by omega)) (by omega)
  have hSI : (L : Int) * ((k : Int) - 1) = (S : Int) := by
    rw [← hS, Int.natCast_mul, Int.mul_comm]
    congr 1
    omega
  rw [hS]
  have hw : IntKind.i64.wrap ((L : Int) * ((k : Int) - 1)) = (S : Int) := by rw [hSI]; exact IntWalk.i64_in _ (by omega)
  clear hS hSI
  by_cases hcase : S < x
  all_goals
    go_enter Tryz.func196, Tryz.ntmps196
    go_wp2_with (go_at_call 204; refine (HL.out _).mono ?_; rintro e w1 ⟨rfl, hb1⟩)
    go_ret
    refine ⟨?_, hb1⟩
    apply ret_int
    omega

set_option maxRecDepth 100000 in
set_option maxHeartbeats 2000000 in
theorem implMakersYes (x k : Nat) (h1 : 2 ≤ k) (h2 : k ≤ 16) (h3 : x ≤ 1000000000) (w : World) :
    Calls Tryz.prog 178 #[.int .i64 x, .int .i64 k] w (ListPost w (Pl.mkPart k x (x + 1))) := by
  obtain ⟨i0, hi0, hz0, hz1, hz2⟩ := info_parts info_int
  have hk := Pl.okB_of h1 h2 h3
  have HLM := Lib.hid (leastMaker x k h1 h2 h3)
  have HLO : Hid (∀ m, m < x - (k - 1) * (Pl.digI k x).length → Pl.madeN k m ≠ x) := Lib.hid (by
    by_cases hx : (k - 1) * (Pl.digI k x).length ≤ x
    · exact Pl.mkPart_lo h1 (by rw [← Pl.digI_len]; omega)
    · intro m hm; omega)
  have HLE : Hid (∀ K, K ≤ x + 1 → (Pl.mkPart k x K).length ≤ 451) := Lib.hid fun K hK => Pl.mkPart_le h1 h2 h3 hK
  have HMB : Hid (∀ m : Nat, m ≤ x → Pl.madeI m k = (Pl.madeN k m : Int)) := Lib.hid fun m hm => Pl.madeI_yes m k (Pl.okB_of h1 h2 (by omega))
  have hlo : x - (k - 1) * (Pl.digI k x).length ≤ x := Nat.sub_le _ _
  generalize x - (k - 1) * (Pl.digI k x).length = lo at *
  go_enter Tryz.func178, Tryz.ntmps178
  go_wp2_with (first | (go_at_call 79; refine (hasDigits _ _ _).mono ?_; rintro e w' ⟨rfl, rfl⟩; rw [hk]) | (go_at_call 196; refine (HLM.out _).mono ?_; rintro e w1 ⟨rfl, hb1⟩))
  clear hk HLM
  go_loopw [5, 6] (fun v m wr => ∃ (K : Nat) (vv : Value), vv = v ∧ K ≤ x + 1 ∧ m = .int .i64 K ∧ Row w.heap.size wr vv (Pl.mkPart k x K) ∧ Below w.heap.size w wr) (fun _ m _ => x + 1 - (intOf m).toNat)
  case atStart => exact ⟨lo, _, rfl, by omega, rfl, by rw [Pl.mkPart_none HLO.out]; exact World.ownsRow_nil _ _ _ _, hb1⟩
  case round =>
    clear hb1 HLO
    obtain ⟨K, vv, rfl, hK, rfl, hr, hbw⟩ := hrel
    have hlen := HLE.out K hK
    by_cases hlt : K < x + 1
    · have hi : (K : Int) ≤ (x : Int) := by omega
      have hmb := HMB.out K (by omega)
      have HM := Lib.hid (implMadeBy (K : Int) k)
      by_cases he : Pl.madeN k K = x
      · have HS := Lib.hid (Pl.mkPart_yes he)
        have hq : (Pl.madeI (K : Int) k == (x : Int)) = true := by rw [hmb, he]; simp
        clear he hmb
        generalize Pl.mkPart k x K = R at *
        generalize Pl.madeI (K : Int) k = MK at *
        have hsz := hbw.size
        go_wp2_with fail
        refine (HM.out _).mono ?_
        rintro e w2 ⟨rfl, b2⟩
        have hr2 : w2.ownsRow w.heap.size 3 1 vv R.length (R.map (Value.int .i64)) := hr.below b2
        have hsz2 := b2.size
        clear hr
        go_wp2_with (at_builtin; refine wpList_append_own _ rfl _ _ 28 rfl w.heap.size 3 i0 (.int .i64 0) 1 8 Tryz.underlying28 hi0 hz0 hz1 hz2 rfl (by decide) _ _ _ rfl (hr2.alloc _) ⟨w2.heap.size, 0, none⟩ 1 1 [.int .i64 (K : Int)] rfl rfl (cell_one_new _ _ _) (by simp [Value.oneCell']) (by unfold maxLen; omega) (by omega) (by simp; omega) ?_; intro v6 w6 hown6 hgrow6 _)
        have hb6 : Below w.heap.size w w6 := below_append ((hbw.trans (b2.mono hsz)).alloc (by omega) _) (hr2.alloc _) hgrow6
        go_roundw
        case rel => exact ⟨K + 1, _, rfl, by omega, by simp, by rw [HS.out]; exact row_snoc hown6, hb6⟩
        case measure => simp [intOf]; omega
      · have HS := Lib.hid (Pl.mkPart_not he)
        have hq : (Pl.madeI (K : Int) k == (x : Int)) = false := by rw [hmb, beq_eq_false_iff_ne]; exact fun hh => he (by exact_mod_cast hh)
        clear he hmb
        generalize Pl.mkPart k x K = R at *
        generalize Pl.madeI (K : Int) k = MK at *
        go_wp2_with fail
        refine (HM.out _).mono ?_
        rintro e w2 ⟨rfl, b2⟩
        go_wp2_with fail
        go_roundw
        case rel => exact ⟨K + 1, _, rfl, by omega, by simp, by rw [HS.out]; exact hr.below b2, hbw.trans (b2.mono hbw.size)⟩
        case measure => simp [intOf]; omega
    · obtain rfl : K = x + 1 := by omega
      have hi : ¬ ((x + 1 : Nat) : Int) ≤ (x : Int) := by omega
      obtain ⟨a', cap', rfl⟩ := hr.shape
      have HR := Lib.hid hr
      clear hr
      go_wp2_with fail
      go_ret
      exact ⟨_, rfl, HR.out, hbw⟩

set_option maxHeartbeats 400000 in
theorem implMakersOf (n b : Int) (w : World) : Calls Tryz.prog 178 #[.int .i64 n, .int .i64 b] w (ListPost w (Pl.makersA n b)) := by
  by_cases h : Pl.okB n b = true
  · obtain ⟨x, k, rfl, rfl, h3, h4, h5⟩ := Pl.okB_nat h
    rw [Pl.makersA_yes x k h]
    exact implMakersYes x k h3 h4 h5 w
  · rw [Pl.makersA_no h]
    have h' : Pl.okB n b = false := by simpa using h
    clear h
    go_enter Tryz.func178, Tryz.ntmps178
    go_wp2_with (go_at_call 79; refine (hasDigits _ _ _).mono ?_; rintro e w' ⟨rfl, rfl⟩; rw [h'])
    go_ret
    exact ⟨_, rfl, World.ownsRow_nil _ _ _ _, Below.refl _ _⟩

set_option maxHeartbeats 400000 in
theorem implSelfOk (n b : Int) (w : World) :
    Calls Tryz.prog 152 #[.int .i64 n, .int .i64 b] w fun e w' => e = .returned (.bool (Pl.selfB n b)) ∧ Below w.heap.size w w' := by
  by_cases h : Pl.okB n b = true
  · rw [Pl.selfB_len h]
    have HM := Lib.hid (implMakersOf n b)
    generalize Pl.makersA n b = L at *
    go_enter Tryz.func152, Tryz.ntmps152
    go_wp2_with (go_at_call 79; refine (hasDigits _ _ _).mono ?_; rintro e w' ⟨rfl, rfl⟩; rw [h])
    refine (HM.out _).mono ?_
    rintro e w1 ⟨v1, rfl, r1, b1⟩
    obtain ⟨a1, cap1, rfl⟩ := r1.shape
    go_wp2_with fail
    go_ret
    exact ⟨rfl, b1⟩
  · rw [Pl.selfB_no h]
    have h' : Pl.okB n b = false := by simpa using h
    clear h
    go_enter Tryz.func152, Tryz.ntmps152
    go_wp2_with (go_at_call 79; refine (hasDigits _ _ _).mono ?_; rintro e w' ⟨rfl, rfl⟩; rw [h'])
    go_ret
    exact ⟨rfl, Below.refl _ _⟩

end Go.Proofs.YtgkkoegfmhgcjaaGreatDoor
