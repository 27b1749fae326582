/-
  spec.MadeBy, spec.MakersOf, spec.SelfOk, spec.SelvesUpTo, spec.RowFrom, spec.JoinAt: what they answer.
-/
import Derived.Test.YthohahnfkncecaaDigitsOf
import Derived.Test.YthohahnfkncecaaMathSelf2
import Derived.Test.YthohahnfkncecaaWhole
namespace Go.Proofs.Ythohahnfkncecaa
open Go.RowKit Go.Shelf

set_option maxRecDepth 100000 in
set_option maxHeartbeats 400000 in
theorem specMadeBy (n b : Int) (w : World) :
    Calls Try.prog 17 #[.int .i64 n, .int .i64 b] w fun e w' => e = .returned (.int .i64 (Pl.madeI n b)) ∧ w = w' := by
  by_cases h1 : (decide (0 ≤ n) && decide (n ≤ 1000000000)) = true
  · by_cases h2 : Pl.baseB b = true
    · have hk : Pl.okB n b = true := by rw [Pl.okB, h2, h1]; rfl
      obtain ⟨x, k, rfl, rfl, h3, h4, h5⟩ := Pl.okB_nat hk
      rw [Pl.madeI_yes x k hk, Pl.madeN]
      have hs := Pl.sumI_yes x k hk
      have hle := Pl.sumD_le h3 x
      clear hk
      generalize Pl.sumD k x = S at *
      rw [Int.natCast_add]
      generalize hS : (S : Int) = SI at *
      have hw : IntKind.i64.wrap ((x : Int) + SI) = (x : Int) + SI := IntWalk.i64_in _ (by omega)
      go_enter Try.func17, Try.ntmps17
      go_wp2_with (first | (go_at_call 45; refine (specIn _ _ _ _).mono ?_; rintro e w' ⟨rfl, rfl⟩; rw [h1]) | (go_at_call 23; refine (specBaseOk _ _).mono ?_; rintro e w' ⟨rfl, rfl⟩; rw [h2]) | (go_at_call 46; refine (specSumOf _ _ _).mono ?_; rintro e w' ⟨rfl, rfl⟩; rw [hs]))
      go_ret
      exact ⟨rfl, rfl⟩
    · have h2' : Pl.baseB b = false := by simpa using h2
      rw [Pl.madeI_no (by rw [Pl.okB]; simp [h2])]
      clear h2
      go_enter Try.func17, Try.ntmps17
      go_wp2_with (first | (go_at_call 45; refine (specIn _ _ _ _).mono ?_; rintro e w' ⟨rfl, rfl⟩; rw [h1]) | (go_at_call 23; refine (specBaseOk _ _).mono ?_; rintro e w' ⟨rfl, rfl⟩; rw [h2']))
      go_ret
      exact ⟨rfl, rfl⟩
  · have h1' : (decide (0 ≤ n) && decide (n ≤ 1000000000)) = false := by simpa using h1
    rw [Pl.madeI_no (by rw [Pl.okB, h1']; simp)]
    clear h1
    go_enter Try.func17, Try.ntmps17
    go_wp2_with (first | (go_at_call 45; refine (specIn _ _ _ _).mono ?_; rintro e w' ⟨rfl, rfl⟩; rw [h1']))
    go_ret
    exact ⟨rfl, rfl⟩

set_option maxRecDepth 100000 in
set_option maxHeartbeats 2000000 in
theorem specMakersYes (x k : Nat) (h1 : 2 ≤ k) (h2 : k ≤ 16) (h3 : x ≤ 1000000000) (w : World) :
    Calls Try.prog 22 #[.int .i64 x, .int .i64 k] w (ListPost w (Pl.mkPart k x (x + 1))) := by
  obtain ⟨i0, hi0, hz0, hz1, hz2⟩ := info_parts info_int
  have hk := Pl.okB_of h1 h2 h3
  have hin : (decide ((0 : Int) ≤ (x : Int)) && decide ((x : Int) ≤ 1000000000)) = true := by
    have := (Pl.okB_iff _ _).1 hk
    simp; omega
  have hba : Pl.baseB k = true := by rw [Pl.baseB_iff]; omega
  have HLO : Hid (∀ lo, lo + (k - 1) * (Pl.digI k x).length ≤ x → ∀ m, m < lo → Pl.madeN k m ≠ x) := Lib.hid fun lo h => Pl.mkPart_lo h1 (by rwa [← Pl.digI_len])
  have HL30 := Pl.digI_len30 h1 h3
  have HLE : Hid (∀ K, K ≤ x + 1 → (Pl.mkPart k x K).length ≤ 451) := Lib.hid fun K hK => Pl.mkPart_le h1 h2 h3 hK
  have HMB : Hid (∀ m : Nat, m ≤ x → Pl.madeI m k = (Pl.madeN k m : Int)) := Lib.hid fun m hm => Pl.madeI_yes m k (Pl.okB_of h1 h2 (by omega))
  have HD := Lib.hid (l1Digits k h1 h2 29 x)
  clear hk
  have b0 : Below w.heap.size w (w.alloc (.cells #[] 3)) := (Below.refl _ _).alloc (Nat.le_refl _) _
  have r0 := row_empty w
  go_enter Try.func22, Try.ntmps22
  go_wp2_with (first | (go_at_call 45; refine (specIn _ _ _ _).mono ?_; rintro e w' ⟨rfl, rfl⟩; rw [hin]) | (go_at_call 23; refine (specBaseOk _ _).mono ?_; rintro e w' ⟨rfl, rfl⟩; rw [hba]))
  refine (HD.out _ (by omega) h3).mono ?_
  rintro e w1 ⟨v1, rfl, r1, b1⟩
  obtain ⟨a1, cap1, rfl⟩ := r1.shape
  have r2 := r0.below b1
  have b2 : Below w.heap.size w w1 := b0.trans (b1.mono b0.size)
  clear r0 b0 r1 b1 hin hba HD
  generalize (Pl.digI k x).length = L at *
  obtain ⟨S, hS⟩ : ∃ S, (k - 1) * (L + 1) = S := ⟨_, rfl⟩
  have hSle : S ≤ 465 := by
    rw [← hS]
    exact Nat.le_trans (Nat.mul_le_mul (show k - 1 ≤ 15 by omega) (show L + 1 ≤ 31 by omega)) (by omega)
  have hSL : (k - 1) * L ≤ S := by rw [← hS]; exact Nat.mul_le_mul_left _ (by omega)
  have hSI : ((k : Int) - 1) * ((L : Int) + 1) = (S : Int) := by
    rw [← hS, Int.natCast_mul]
    congr 1
    omega
  have hw : IntKind.i64.wrap (((k : Int) - 1) * ((L : Int) + 1)) = (S : Int) := by rw [hSI]; exact IntWalk.i64_in _ (by omega)
  have HLO2 : Hid (∀ m, m < x - S → Pl.madeN k m ≠ x) := Lib.hid (by
    by_cases hx : S ≤ x
    · exact HLO.out (x - S) (by omega)
    · intro m hm; omega)
  clear hS hSL HLO hSI
  by_cases hcase : S < x
  all_goals
    have HC := Lib.hid hcase
    go_wp2_with fail
    clear hcase
    go_loopw [5, 6] (fun v m wr => ∃ (K : Nat) (vv : Value), vv = v ∧ K ≤ x + 1 ∧ m = .int .i64 K ∧ Row w.heap.size wr vv (Pl.mkPart k x K) ∧ Below w.heap.size w wr) (fun _ m _ => x + 1 - (intOf m).toNat)
    case atStart =>
      have hc := HC.out
      refine ⟨x - S, _, rfl, by omega, ?_, by rw [Pl.mkPart_none HLO2.out]; exact r2, b2⟩
      congr 1
      omega
    case round =>
      clear b2 r2 HC hw
      obtain ⟨K, vv, rfl, hK, rfl, hr, hbw⟩ := hrel
      have hlen := HLE.out K hK
      by_cases hlt : K < x + 1
      · have hi : (K : Int) ≤ (x : Int) := by omega
        have hmb := HMB.out K (by omega)
        by_cases he : Pl.madeN k K = x
        · have HS := Lib.hid (Pl.mkPart_yes he)
          have hq : (Pl.madeI (K : Int) k == (x : Int)) = true := by rw [hmb, he]; simp
          have HM := Lib.hid (specMadeBy (K : Int) k)
          clear he hmb
          generalize Pl.mkPart k x K = R at *
          generalize Pl.madeI (K : Int) k = MK at *
          have hsz := hbw.size
          have hr2 : wr.ownsRow w.heap.size 3 1 vv R.length (R.map (Value.int .i64)) := hr
          clear hr
          go_wp2_with (first | (go_at_call 17; refine (HM.out _).mono ?_; rintro e w' ⟨rfl, rfl⟩) | (at_builtin; refine wpList_append_own _ rfl _ _ 28 rfl w.heap.size 3 i0 (.int .i64 0) 1 8 Try.underlying28 hi0 hz0 hz1 hz2 rfl (by decide) _ _ _ rfl (hr2.alloc _) ⟨wr.heap.size, 0, none⟩ 1 1 [.int .i64 (K : Int)] rfl rfl (cell_one_new _ _ _) (by simp [Value.oneCell']) (by unfold maxLen; omega) (by omega) (by simp; omega) ?_; intro v6 w6 hown6 hgrow6 _))
          have hb6 : Below w.heap.size w w6 := below_append (hbw.alloc (by omega) _) (hr2.alloc _) hgrow6
          go_roundw
          case rel => exact ⟨K + 1, _, rfl, by omega, by simp, by rw [HS.out]; exact row_snoc hown6, hb6⟩
          case measure => simp [intOf]; omega
        · have HS := Lib.hid (Pl.mkPart_not he)
          have hq : (Pl.madeI (K : Int) k == (x : Int)) = false := by rw [hmb, beq_eq_false_iff_ne]; exact fun hh => he (by exact_mod_cast hh)
          clear he hmb
          generalize Pl.mkPart k x K = R at *
          go_wp2_with (go_at_call 17; refine (specMadeBy _ _ _).mono ?_; rintro e w' ⟨rfl, rfl⟩)
          go_roundw
          case rel => exact ⟨K + 1, _, rfl, by omega, by simp, by rw [HS.out]; exact hr, hbw⟩
          case measure => simp [intOf]; omega
      · obtain rfl : K = x + 1 := by omega
        have hi : ¬ ((x + 1 : Nat) : Int) ≤ (x : Int) := by omega
        obtain ⟨a', cap', rfl⟩ := hr.shape
        have HR := Lib.hid hr
        clear hr
        go_wp2_with fail
        go_ret
        exact ⟨_, rfl, HR.out, hbw⟩

set_option maxRecDepth 100000 in
set_option maxHeartbeats 400000 in
theorem specMakersOf (n b : Int) (w : World) : Calls Try.prog 22 #[.int .i64 n, .int .i64 b] w (ListPost w (Pl.makersA n b)) := by
  have b0 : Below w.heap.size w (w.alloc (.cells #[] 3)) := (Below.refl _ _).alloc (Nat.le_refl _) _
  have r0 := row_empty w
  by_cases h1 : (decide (0 ≤ n) && decide (n ≤ 1000000000)) = true
  · by_cases h2 : Pl.baseB b = true
    · have hk : Pl.okB n b = true := by rw [Pl.okB, h2, h1]; rfl
      obtain ⟨x, k, rfl, rfl, h3, h4, h5⟩ := Pl.okB_nat hk
      rw [Pl.makersA_yes x k hk]
      exact specMakersYes x k h3 h4 h5 w
    · have h2' : Pl.baseB b = false := by simpa using h2
      rw [Pl.makersA_no (by rw [Pl.okB]; simp [h2])]
      clear h2
      go_enter Try.func22, Try.ntmps22
      go_wp2_with (first | (go_at_call 45; refine (specIn _ _ _ _).mono ?_; rintro e w' ⟨rfl, rfl⟩; rw [h1]) | (go_at_call 23; refine (specBaseOk _ _).mono ?_; rintro e w' ⟨rfl, rfl⟩; rw [h2']))
      go_ret
      exact ⟨_, rfl, r0, b0⟩
  · have h1' : (decide (0 ≤ n) && decide (n ≤ 1000000000)) = false := by simpa using h1
    rw [Pl.makersA_no (by rw [Pl.okB, h1']; simp)]
    clear h1
    go_enter Try.func22, Try.ntmps22
    go_wp2_with (first | (go_at_call 45; refine (specIn _ _ _ _).mono ?_; rintro e w' ⟨rfl, rfl⟩; rw [h1']))
    go_ret
    exact ⟨_, rfl, r0, b0⟩

set_option maxRecDepth 100000 in
set_option maxHeartbeats 400000 in
theorem specSelfOk (n b : Int) (w : World) :
    Calls Try.prog 28 #[.int .i64 n, .int .i64 b] w fun e w' => e = .returned (.bool (Pl.selfB n b)) ∧ Below w.heap.size w w' := by
  by_cases h1 : (decide (0 ≤ n) && decide (n ≤ 1000000000)) = true
  · by_cases h2 : Pl.baseB b = true
    · have hk : Pl.okB n b = true := by rw [Pl.okB, h2, h1]; rfl
      rw [Pl.selfB_len hk]
      have HM := Lib.hid (specMakersOf n b)
      clear hk
      generalize Pl.makersA n b = L at *
      go_enter Try.func28, Try.ntmps28
      go_wp2_with (first | (go_at_call 45; refine (specIn _ _ _ _).mono ?_; rintro e w' ⟨rfl, rfl⟩; rw [h1]) | (go_at_call 23; refine (specBaseOk _ _).mono ?_; rintro e w' ⟨rfl, rfl⟩; rw [h2]))
      refine (HM.out _).mono ?_
      rintro e w1 ⟨v1, rfl, r1, b1⟩
      obtain ⟨a1, cap1, rfl⟩ := r1.shape
      go_wp2_with fail
      go_ret
      exact ⟨rfl, b1⟩
    · have h2' : Pl.baseB b = false := by simpa using h2
      rw [Pl.selfB_no (by rw [Pl.okB]; simp [h2])]
      clear h2
      go_enter Try.func28, Try.ntmps28
      go_wp2_with (first | (go_at_call 45; refine (specIn _ _ _ _).mono ?_; rintro e w' ⟨rfl, rfl⟩; rw [h1]) | (go_at_call 23; refine (specBaseOk _ _).mono ?_; rintro e w' ⟨rfl, rfl⟩; rw [h2']))
      go_ret
      exact ⟨rfl, Below.refl _ _⟩
  · have h1' : (decide (0 ≤ n) && decide (n ≤ 1000000000)) = false := by simpa using h1
    rw [Pl.selfB_no (by rw [Pl.okB, h1']; simp)]
    clear h1
    go_enter Try.func28, Try.ntmps28
    go_wp2_with (first | (go_at_call 45; refine (specIn _ _ _ _).mono ?_; rintro e w' ⟨rfl, rfl⟩; rw [h1']))
    go_ret
    exact ⟨rfl, Below.refl _ _⟩

set_option maxRecDepth 100000 in
set_option maxHeartbeats 2000000 in
theorem specSelvesUpTo (most b : Int) (w : World) : Calls Try.prog 31 #[.int .i64 most, .int .i64 b] w (ListPost w (Pl.selvesA most b)) := by
  obtain ⟨i0, hi0, hz0, hz1, hz2⟩ := info_parts info_int
  have b0 : Below w.heap.size w (w.alloc (.cells #[] 3)) := (Below.refl _ _).alloc (Nat.le_refl _) _
  have r0 := row_empty w
  by_cases h : 0 ≤ most ∧ most ≤ 3000
  · obtain ⟨M, rfl⟩ := Int.eq_ofNat_of_zero_le h.1
    have hM : M ≤ 3000 := by omega
    rw [Pl.selvesA_yes b hM]
    have hM2 : (M : Int) ≤ 3000 := by omega
    clear h
    go_enter Try.func31, Try.ntmps31
    go_wp2_with fail
    go_loopw [5, 6] (fun v i wr => ∃ (k : Nat) (vv : Value), vv = v ∧ k ≤ M + 1 ∧ i = .int .i64 k ∧ Row w.heap.size wr vv (Pl.selPart b k) ∧ Below w.heap.size w wr) (fun _ i _ => M + 1 - (intOf i).toNat)
    case atStart => exact ⟨0, _, rfl, by omega, rfl, r0, b0⟩
    case round =>
      clear b0 r0
      obtain ⟨k, vv, rfl, hk, rfl, hr, hbw⟩ := hrel
      by_cases hlt : k < M + 1
      · have hi : (k : Int) ≤ (M : Int) := by omega
        have hlen := Pl.selPart_len b k
        cases hok : Pl.selfB (k : Int) b with
        | false =>
          have HS := Lib.hid (Pl.selPart_not hok)
          generalize Pl.selPart b k = L at *
          go_wp2_with fail
          refine (specSelfOk _ _ _).mono ?_
          rintro e w2 ⟨rfl, b2⟩
          rw [hok]
          go_wp2_with fail
          go_roundw
          case rel => exact ⟨k + 1, _, rfl, by omega, by simp, by rw [HS.out]; exact hr.below b2, hbw.trans (b2.mono hbw.size)⟩
          case measure => simp [intOf]; omega
        | true =>
          have HS := Lib.hid (Pl.selPart_yes hok)
          generalize Pl.selPart b k = L at *
          go_wp2_with fail
          refine (specSelfOk _ _ _).mono ?_
          rintro e w2 ⟨rfl, b2⟩
          rw [hok]
          have hr2 : w2.ownsRow w.heap.size 3 1 vv L.length (L.map (Value.int .i64)) := hr.below b2
          have hsz := hbw.size
          have hsz2 := b2.size
          clear hr
          go_wp2_with (at_builtin; refine wpList_append_own _ rfl _ _ 28 rfl w.heap.size 3 i0 (.int .i64 0) 1 8 Try.underlying28 hi0 hz0 hz1 hz2 rfl (by decide) _ _ _ rfl (hr2.alloc _) ⟨w2.heap.size, 0, none⟩ 1 1 [.int .i64 (k : Int)] rfl rfl (cell_one_new _ _ _) (by simp [Value.oneCell']) (by unfold maxLen; omega) (by omega) (by simp; omega) ?_; intro v6 w6 hown6 hgrow6 _)
          have hb6 : Below w.heap.size w w6 := below_append ((hbw.trans (b2.mono hsz)).alloc (by omega) _) (hr2.alloc _) hgrow6
          go_roundw
          case rel => exact ⟨k + 1, _, rfl, by omega, by simp, by rw [HS.out]; exact row_snoc hown6, hb6⟩
          case measure => simp [intOf]; omega
      · obtain rfl : k = M + 1 := by omega
        have hi : ¬ ((M + 1 : Nat) : Int) ≤ (M : Int) := by omega
        obtain ⟨a', cap', rfl⟩ := hr.shape
        have HR := Lib.hid hr
        clear hr
        go_wp2_with fail
        go_ret
        exact ⟨_, rfl, HR.out, hbw⟩
  · have hA : Pl.selvesA most b = [] := by
      by_cases h0 : 0 ≤ most
      · exact Pl.selvesA_big (by omega)
      · exact Pl.selvesA_neg (by omega)
    rw [hA]
    clear hA
    by_cases h0 : 0 ≤ most
    · have h1 : ¬ most ≤ 3000 := by omega
      clear h
      go_enter Try.func31, Try.ntmps31
      go_wp2_with fail
      go_loopw [5, 6] (fun v i wr => v = .slice (some ⟨w.heap.size, 0, none⟩) 0 0 ∧ i = .int .i64 0 ∧ wr = w.alloc (.cells #[] 3)) (fun _ _ _ => 0)
      case atStart => exact ⟨rfl, rfl, rfl⟩
      case round =>
        obtain ⟨rfl, rfl, rfl⟩ := hrel
        go_wp2_with fail
        go_ret
        exact ⟨_, rfl, r0, b0⟩
    · clear h
      go_enter Try.func31, Try.ntmps31
      go_wp2_with fail
      go_loopw [5, 6] (fun v i wr => v = .slice (some ⟨w.heap.size, 0, none⟩) 0 0 ∧ i = .int .i64 0 ∧ wr = w.alloc (.cells #[] 3)) (fun _ _ _ => 0)
      case atStart => exact ⟨rfl, rfl, rfl⟩
      case round =>
        obtain ⟨rfl, rfl, rfl⟩ := hrel
        go_wp2_with fail
        go_ret
        exact ⟨_, rfl, r0, b0⟩

set_option maxRecDepth 100000 in
set_option maxHeartbeats 2000000 in
theorem specRowYes (x k : Nat) (h1 : 1 ≤ x) (h2 : x ≤ 3000) (h3 : 2 ≤ k) (h4 : k ≤ 16) (w : World) :
    Calls Try.prog 34 #[.int .i64 x, .int .i64 k] w (ListPost w (Pl.ints (Pl.rowL k x))) := by
  obtain ⟨i0, hi0, hz0, hz1, hz2⟩ := info_parts info_int
  have hin : (decide ((1 : Int) ≤ (x : Int)) && decide ((x : Int) ≤ 3000)) = true := by simp; omega
  have hba : Pl.baseB k = true := by rw [Pl.baseB_iff]; omega
  have b0 : Below w.heap.size w (w.alloc (.cells #[] 3)) := (Below.refl _ _).alloc (Nat.le_refl _) _
  have r0 := row_empty w
  obtain ⟨OUT, hOUT⟩ : ∃ OUT, Pl.rowL k x = OUT := ⟨_, rfl⟩
  have HO : Hid (([] : List Nat) ++ Pl.rowL k x = OUT) := Lib.hid (by rw [← hOUT, List.nil_append])
  have hOL : OUT.length ≤ 3000 := by rw [← hOUT]; exact Pl.rowL_len3 h3 h1
  rw [hOUT]
  clear hOUT
  go_enter Try.func34, Try.ntmps34
  go_wp2_with (first | (go_at_call 45; refine (specIn _ _ _ _).mono ?_; rintro e w' ⟨rfl, rfl⟩; rw [hin]) | (go_at_call 23; refine (specBaseOk _ _).mono ?_; rintro e w' ⟨rfl, rfl⟩; rw [hba]))
  clear hin hba
  go_loopw [5, 6] (fun v i wr => ∃ (m : Nat) (seen : List Nat) (vv : Value), vv = v ∧ i = .int .i64 m ∧ 1 ≤ m ∧ m ≤ 6000 ∧ seen ++ Pl.rowL k m = OUT ∧ Row w.heap.size wr vv (Pl.ints seen) ∧ Below w.heap.size w wr) (fun _ i _ => 6001 - (intOf i).toNat)
  case atStart => exact ⟨x, [], _, rfl, rfl, h1, by omega, HO.out, r0, b0⟩
  case round =>
    clear b0 r0 HO h1 h2
    obtain ⟨m, seen, vv, rfl, rfl, hm1, hm2, ho, hr, hbw⟩ := hrel
    by_cases hlt : m ≤ 3000
    · have hi : (m : Int) ≤ 3000 := by omega
      have hmb := Pl.madeI_yes m k (Pl.okB_of h3 h4 (by omega))
      have hmore := Pl.made_more h3 hm1
      have hle := Pl.madeN_le (n := m) h3
      rw [Pl.rowL_cons h3 hm1 hlt] at ho
      have HS : Hid ((seen ++ [m]) ++ Pl.rowL k (Pl.madeN k m) = OUT) := Lib.hid (by rw [← ho]; simp)
      have hlen : seen.length ≤ 3000 := by have := congrArg List.length ho; rw [List.length_append] at this; omega
      have HI := Lib.hid (Pl.ints_snoc seen m)
      rw [← Pl.ints_len] at hlen
      generalize hR : Pl.ints seen = R at *
      have HM := Lib.hid (specMadeBy (m : Int) k)
      rw [hmb] at HM
      clear ho hmb hR
      generalize Pl.madeN k m = M at *
      have hsz := hbw.size
      have hr2 : wr.ownsRow w.heap.size 3 1 vv R.length (R.map (Value.int .i64)) := hr
      clear hr
      go_wp2_with (first | (go_at_call 17; refine (HM.out _).mono ?_; rintro e w' ⟨rfl, rfl⟩) | (at_builtin; refine wpList_append_own _ rfl _ _ 28 rfl w.heap.size 3 i0 (.int .i64 0) 1 8 Try.underlying28 hi0 hz0 hz1 hz2 rfl (by decide) _ _ _ rfl (hr2.alloc _) ⟨wr.heap.size, 0, none⟩ 1 1 [.int .i64 (m : Int)] rfl rfl (cell_one_new _ _ _) (by simp [Value.oneCell']) (by unfold maxLen; omega) (by omega) (by simp; omega) ?_; intro v6 w6 hown6 hgrow6 _))
      have hb6 : Below w.heap.size w w6 := below_append (hbw.alloc (by omega) _) (hr2.alloc _) hgrow6
      go_roundw
      case rel => exact ⟨M, seen ++ [m], _, rfl, rfl, by omega, by omega, HS.out, by rw [HI.out]; exact row_snoc hown6, hb6⟩
      case measure => simp [intOf]; omega
    · have hi : ¬ (m : Int) ≤ 3000 := by omega
      rw [Pl.rowL_big (by omega), List.append_nil] at ho
      subst ho
      obtain ⟨a', cap', rfl⟩ := hr.shape
      have HR := Lib.hid hr
      clear hr
      go_wp2_with fail
      go_ret
      exact ⟨_, rfl, HR.out, hbw⟩

set_option maxRecDepth 100000 in
set_option maxHeartbeats 400000 in
theorem specRowFrom (n b : Int) (w : World) : Calls Try.prog 34 #[.int .i64 n, .int .i64 b] w (ListPost w (Pl.rowA n b)) := by
  have b0 : Below w.heap.size w (w.alloc (.cells #[] 3)) := (Below.refl _ _).alloc (Nat.le_refl _) _
  have r0 := row_empty w
  by_cases h1 : (decide (1 ≤ n) && decide (n ≤ 3000)) = true
  · by_cases h2 : Pl.baseB b = true
    · have hk : Pl.rowB n b = true := by rw [Pl.rowB, h2, h1]; rfl
      obtain ⟨x, k, rfl, rfl, h3, h4, h5, h6⟩ := Pl.rowB_nat hk
      rw [Pl.rowA_yes x k hk]
      exact specRowYes x k h3 h4 h5 h6 w
    · have h2' : Pl.baseB b = false := by simpa using h2
      rw [Pl.rowA_no (by rw [Pl.rowB]; simp [h2])]
      clear h2
      go_enter Try.func34, Try.ntmps34
      go_wp2_with (first | (go_at_call 45; refine (specIn _ _ _ _).mono ?_; rintro e w' ⟨rfl, rfl⟩; rw [h1]) | (go_at_call 23; refine (specBaseOk _ _).mono ?_; rintro e w' ⟨rfl, rfl⟩; rw [h2']))
      go_ret
      exact ⟨_, rfl, r0, b0⟩
  · have h1' : (decide (1 ≤ n) && decide (n ≤ 3000)) = false := by simpa using h1
    rw [Pl.rowA_no (by rw [Pl.rowB, h1']; simp)]
    clear h1
    go_enter Try.func34, Try.ntmps34
    go_wp2_with (first | (go_at_call 45; refine (specIn _ _ _ _).mono ?_; rintro e w' ⟨rfl, rfl⟩; rw [h1']))
    go_ret
    exact ⟨_, rfl, r0, b0⟩

set_option maxRecDepth 100000 in
set_option maxHeartbeats 2000000 in
theorem specJoinAt (n m b : Int) (w : World) :
    Calls Try.prog 37 #[.int .i64 n, .int .i64 m, .int .i64 b] w fun e w' => e = .returned (.tuple #[.int .i64 (Pl.wV (Pl.joinA n m b)), .bool (Pl.wB (Pl.joinA n m b))]) ∧ Below w.heap.size w w' := by
  have HN := Lib.hid (specRowFrom n b)
  have HM := Lib.hid (specRowFrom m b)
  by_cases h1 : Pl.rowB n b = true
  · by_cases h2 : Pl.rowB m b = true
    · have p1 := Pl.rowA_pos h1
      have p2 := Pl.rowA_pos h2
      obtain ⟨x, k, rfl, rfl, q1, q2, q3, q4⟩ := Pl.rowB_nat h1
      obtain ⟨y, k', rfl, hk, q5, q6, _, _⟩ := Pl.rowB_nat h2
      obtain rfl : k = k' := by omega
      rw [Pl.joinA_yes x y k h1 h2]
      clear h1 h2 hk
      obtain ⟨J, hJ⟩ : ∃ J, Pl.joinO k x y = J := ⟨_, rfl⟩
      have HJ := Lib.hid hJ
      rw [hJ]
      clear hJ
      generalize Pl.rowA (x : Int) k = A at *
      generalize Pl.rowA (y : Int) k = B at *
      have t1 : ((A.length : Int) == 0) = false := by rw [beq_eq_false_iff_ne]; omega
      have t2 : ((B.length : Int) == 0) = false := by rw [beq_eq_false_iff_ne]; omega
      go_enter Try.func37, Try.ntmps37
      go_wp2_with fail
      refine (HN.out _).mono ?_
      rintro e w1 ⟨v1, rfl, r1, b1⟩
      obtain ⟨a1, cap1, rfl⟩ := r1.shape
      go_wp2_with fail
      refine (HM.out _).mono ?_
      rintro e w2 ⟨v2, rfl, r2, b2⟩
      obtain ⟨a2, cap2, rfl⟩ := r2.shape
      have c2 : Below w.heap.size w w2 := b1.trans (b2.mono b1.size)
      clear r1 r2 b1 b2 HN HM
      go_wp2_with fail
      go_loop [0, 1] (fun i j => ∃ p q : Nat, i = .int .i64 p ∧ j = .int .i64 q ∧ 1 ≤ p ∧ p ≤ 3000 ∧ 1 ≤ q ∧ q ≤ 3000 ∧ Pl.joinO k p q = J) (fun i j => 6001 - (intOf i).toNat - (intOf j).toNat)
      case atStart => exact ⟨x, y, rfl, rfl, q1, q2, q5, q6, HJ.out⟩
      case round =>
        clear HJ q1 q2 q5 q6
        obtain ⟨p, q, rfl, rfl, g1, g2, g3, g4, hj⟩ := hrel
        by_cases he : p = q
        · subst he
          rw [Pl.joinO_same q3 g1 g2] at hj
          subst hj
          have t3 : ((p : Int) != (p : Int)) = false := by simp
          go_wp2_with fail
          go_ret2
          exact ⟨rfl, c2⟩
        · have t3 : ((p : Int) != (q : Int)) = true := by rw [bne_iff_ne]; omega
          by_cases hl : p < q
          · have hmb := Pl.madeI_yes p k (Pl.okB_of q3 q4 (by omega))
            have hmore := Pl.made_more q3 g1
            have hle := Pl.madeN_le (n := p) q3
            rw [Pl.joinO_left q3 g1 g2 hl] at hj
            have HJ := Lib.hid hj
            have HS := Lib.hid (specMadeBy (p : Int) k)
            rw [hmb] at HS
            clear hj hmb
            generalize Pl.madeN k p = M at *
            by_cases hbig : 3000 < M
            · have HJ2 := Lib.hid (HJ.out.symm.trans (Pl.joinO_big hbig))
              go_wp2_with (go_at_call 17; refine (HS.out _).mono ?_; rintro e w' ⟨rfl, rfl⟩)
              go_ret2
              rw [HJ2.out]
              exact ⟨rfl, c2⟩
            · go_wp2_with (go_at_call 17; refine (HS.out _).mono ?_; rintro e w' ⟨rfl, rfl⟩)
              go_round
              case rel => exact ⟨M, q, rfl, rfl, by omega, by omega, g3, g4, HJ.out⟩
              case measure => simp [intOf]; omega
          · have hl2 : q < p := by omega
            have hmb := Pl.madeI_yes q k (Pl.okB_of q3 q4 (by omega))
            have hmore := Pl.made_more q3 g3
            have hle := Pl.madeN_le (n := q) q3
            rw [Pl.joinO_right q3 g3 g4 hl2] at hj
            have HJ := Lib.hid hj
            have HS := Lib.hid (specMadeBy (q : Int) k)
            rw [hmb] at HS
            clear hj hmb
            generalize Pl.madeN k q = M at *
            by_cases hbig : 3000 < M
            · have HJ2 := Lib.hid (HJ.out.symm.trans (Pl.joinO_big' hbig))
              have hp3 : ¬ 3000 < p := by omega
              go_wp2_with (go_at_call 17; refine (HS.out _).mono ?_; rintro e w' ⟨rfl, rfl⟩)
              go_ret2
              rw [HJ2.out]
              exact ⟨rfl, c2⟩
            · have hp3 : ¬ 3000 < p := by omega
              go_wp2_with (go_at_call 17; refine (HS.out _).mono ?_; rintro e w' ⟨rfl, rfl⟩)
              go_round
              case rel => exact ⟨p, M, rfl, rfl, g1, g2, by omega, by omega, HJ.out⟩
              case measure => simp [intOf]; omega
    · have p1 := Pl.rowA_pos h1
      have hN : Pl.rowA m b = [] := Pl.rowA_no h2
      rw [Pl.joinA_no (fun h => h2 h.2)]
      rw [hN] at HM
      clear h1 h2 hN
      generalize Pl.rowA n b = A at *
      have t1 : ((A.length : Int) == 0) = false := by rw [beq_eq_false_iff_ne]; omega
      go_enter Try.func37, Try.ntmps37
      go_wp2_with fail
      refine (HN.out _).mono ?_
      rintro e w1 ⟨v1, rfl, r1, b1⟩
      obtain ⟨a1, cap1, rfl⟩ := r1.shape
      go_wp2_with fail
      refine (HM.out _).mono ?_
      rintro e w2 ⟨v2, rfl, r2, b2⟩
      obtain ⟨a2, cap2, rfl⟩ := r2.shape
      go_wp2_with fail
      go_ret2
      exact ⟨rfl, b1.trans (b2.mono b1.size)⟩
  · have hN : Pl.rowA n b = [] := Pl.rowA_no h1
    rw [Pl.joinA_no (fun h => h1 h.1)]
    rw [hN] at HN
    clear h1 hN HM
    go_enter Try.func37, Try.ntmps37
    go_wp2_with fail
    refine (HN.out _).mono ?_
    rintro e w1 ⟨v1, rfl, r1, b1⟩
    obtain ⟨a1, cap1, rfl⟩ := r1.shape
    go_wp2_with fail
    go_ret2
    exact ⟨rfl, b1⟩

end Go.Proofs.Ythohahnfkncecaa
