/-
  impl.MadeBy, impl.MakersOf, impl.SelfOk, impl.SelvesUpTo, impl.RowFrom, impl.JoinAt: what they answer; the exact laws of chapter 11.
-/
import Derived.OpenShut
import Derived.Test.YthohahnfkncecaaSpecSelf
import Derived.Test.YthohahnfkncecaaAppendRow
import Derived.Test.YthohahnfkncecaaRowFacts
namespace Go.Proofs.Ythohahnfkncecaa
open Go.RowKit Go.Shelf

set_option maxRecDepth 100000 in
set_option maxHeartbeats 400000 in
theorem implMadeBy (n b : Int) (w : World) :
    Calls Try.prog 16 #[.int .i64 n, .int .i64 b] w fun e w' => e = .returned (.int .i64 (Pl.madeI n b)) ∧ Below w.heap.size w w' := by
  by_cases hk : Pl.okB n b = true
  · have HU := Lib.hid (implSumOf n b)
    obtain ⟨x, k, rfl, rfl, h3, h4, h5⟩ := Pl.okB_nat hk
    rw [Pl.madeI_yes x k hk, Pl.madeN]
    rw [Pl.sumI_yes x k hk] at HU
    have hle := Pl.sumD_le h3 x
    generalize Pl.sumD k x = S at *
    rw [Int.natCast_add]
    generalize hS : (S : Int) = SI at *
    have hw : IntKind.i64.wrap ((x : Int) + SI) = (x : Int) + SI := IntWalk.i64_in _ (by omega)
    go_enter Try.func16, Try.ntmps16
    go_wp2_with (first | (go_at_call 43; refine (hasDigits _ _ _).mono ?_; rintro e w' ⟨rfl, rfl⟩; rw [hk]) | (go_at_call 44; refine (HU.out _).mono ?_; rintro e w1 ⟨rfl, hb1⟩))
    go_ret
    exact ⟨rfl, hb1⟩
  · rw [Pl.madeI_no hk]
    have hk' : Pl.okB n b = false := by simpa using hk
    clear hk
    go_enter Try.func16, Try.ntmps16
    go_wp2_with (go_at_call 43; refine (hasDigits _ _ _).mono ?_; rintro e w' ⟨rfl, rfl⟩; rw [hk'])
    go_ret
    exact ⟨rfl, Below.refl _ _⟩

/-- From where makers are sought. -/
theorem leastMaker (x k : Nat) (h1 : 2 ≤ k) (h2 : k ≤ 16) (h3 : x ≤ 1000000000) (w : World) :
    Calls Try.prog 49 #[.int .i64 x, .int .i64 k] w fun e w' => e = .returned (.int .i64 ((x - (k - 1) * (Pl.digI k x).length : Nat) : Int)) ∧ Below w.heap.size w w' := by
  have hk := Pl.okB_of h1 h2 h3
  have HL := Lib.hid (implLongOf x k)
  have e1 : longI x k = ((Pl.digI k x).length : Int) := by rw [longI, if_pos hk, Pl.digA_yes x k hk]
  rw [e1] at HL
  have HL30 := Pl.digI_len30 h1 h3
  clear hk e1
  generalize (Pl.digI k x).length = L at *
  obtain ⟨S, hS⟩ : ∃ S, (k - 1) * L = S := ⟨_, rfl⟩
  have hSle : S ≤ 465 := by
    rw [← hS]
    exact Nat.le_trans (Nat.mul_le_mul (show k - 1 ≤ 15 by omega) (show L ≤ 31 by omega)) (by omega)
  have hSI : (L : Int) * ((k : Int) - 1) = (S : Int) := by
    rw [← hS, Int.natCast_mul, Int.mul_comm]
    congr 1
    omega
  rw [hS]
  have hw : IntKind.i64.wrap ((L : Int) * ((k : Int) - 1)) = (S : Int) := by rw [hSI]; exact IntWalk.i64_in _ (by omega)
  clear hS hSI
  by_cases hcase : S < x
  all_goals
    go_enter Try.func49, Try.ntmps49
    go_wp2_with (go_at_call 55; refine (HL.out _).mono ?_; rintro e w1 ⟨rfl, hb1⟩)
    go_ret
    refine ⟨?_, hb1⟩
    apply ret_int
    omega

set_option maxRecDepth 100000 in
set_option maxHeartbeats 2000000 in
theorem implMakersYes (x k : Nat) (h1 : 2 ≤ k) (h2 : k ≤ 16) (h3 : x ≤ 1000000000) (w : World) :
    Calls Try.prog 20 #[.int .i64 x, .int .i64 k] w (ListPost w (Pl.mkPart k x (x + 1))) := by
  obtain ⟨i0, hi0, hz0, hz1, hz2⟩ := info_parts info_int
  have hk := Pl.okB_of h1 h2 h3
  have HLM := Lib.hid (leastMaker x k h1 h2 h3)
  have HLO : Hid (∀ m, m < x - (k - 1) * (Pl.digI k x).length → Pl.madeN k m ≠ x) := Lib.hid (by
    by_cases hx : (k - 1) * (Pl.digI k x).length ≤ x
    · exact Pl.mkPart_lo h1 (by rw [← Pl.digI_len]; omega)
    · intro m hm; omega)
  have HLE : Hid (∀ K, K ≤ x + 1 → (Pl.mkPart k x K).length ≤ 451) := Lib.hid fun K hK => Pl.mkPart_le h1 h2 h3 hK
  have HMB : Hid (∀ m : Nat, m ≤ x → Pl.madeI m k = (Pl.madeN k m : Int)) := Lib.hid fun m hm => Pl.madeI_yes m k (Pl.okB_of h1 h2 (by omega))
  have hlo : x - (k - 1) * (Pl.digI k x).length ≤ x := Nat.sub_le _ _
  generalize x - (k - 1) * (Pl.digI k x).length = lo at *
  go_enter Try.func20, Try.ntmps20
  go_wp2_with (first | (go_at_call 43; refine (hasDigits _ _ _).mono ?_; rintro e w' ⟨rfl, rfl⟩; rw [hk]) | (go_at_call 49; refine (HLM.out _).mono ?_; rintro e w1 ⟨rfl, hb1⟩))
  clear hk HLM
  go_loopw [5, 6] (fun v m wr => ∃ (K : Nat) (vv : Value), vv = v ∧ K ≤ x + 1 ∧ m = .int .i64 K ∧ Row w.heap.size wr vv (Pl.mkPart k x K) ∧ Below w.heap.size w wr) (fun _ m _ => x + 1 - (intOf m).toNat)
  case atStart => exact ⟨lo, _, rfl, by omega, rfl, by rw [Pl.mkPart_none HLO.out]; exact World.ownsRow_nil _ _ _ _, hb1⟩
  case round =>
    clear hb1 HLO
    obtain ⟨K, vv, rfl, hK, rfl, hr, hbw⟩ := hrel
    have hlen := HLE.out K hK
    by_cases hlt : K < x + 1
    · have hi : (K : Int) ≤ (x : Int) := by omega
      have hmb := HMB.out K (by omega)
      have HM := Lib.hid (implMadeBy (K : Int) k)
      by_cases he : Pl.madeN k K = x
      · have HS := Lib.hid (Pl.mkPart_yes he)
        have hq : (Pl.madeI (K : Int) k == (x : Int)) = true := by rw [hmb, he]; simp
        clear he hmb
        generalize Pl.mkPart k x K = R at *
        generalize Pl.madeI (K : Int) k = MK at *
        have hsz := hbw.size
        go_wp2_with fail
        refine (HM.out _).mono ?_
        rintro e w2 ⟨rfl, b2⟩
        have hr2 : w2.ownsRow w.heap.size 3 1 vv R.length (R.map (Value.int .i64)) := hr.below b2
        have hsz2 := b2.size
        clear hr
        go_wp2_with (at_builtin; refine wpList_append_own _ rfl _ _ 28 rfl w.heap.size 3 i0 (.int .i64 0) 1 8 Try.underlying28 hi0 hz0 hz1 hz2 rfl (by decide) _ _ _ rfl (hr2.alloc _) ⟨w2.heap.size, 0, none⟩ 1 1 [.int .i64 (K : Int)] rfl rfl (cell_one_new _ _ _) (by simp [Value.oneCell']) (by unfold maxLen; omega) (by omega) (by simp; omega) ?_; intro v6 w6 hown6 hgrow6 _)
        have hb6 : Below w.heap.size w w6 := below_append ((hbw.trans (b2.mono hsz)).alloc (by omega) _) (hr2.alloc _) hgrow6
        go_roundw
        case rel => exact ⟨K + 1, _, rfl, by omega, by simp, by rw [HS.out]; exact row_snoc hown6, hb6⟩
        case measure => simp [intOf]; omega
      · have HS := Lib.hid (Pl.mkPart_not he)
        have hq : (Pl.madeI (K : Int) k == (x : Int)) = false := by rw [hmb, beq_eq_false_iff_ne]; exact fun hh => he (by exact_mod_cast hh)
        clear he hmb
        generalize Pl.mkPart k x K = R at *
        generalize Pl.madeI (K : Int) k = MK at *
        go_wp2_with fail
        refine (HM.out _).mono ?_
        rintro e w2 ⟨rfl, b2⟩
        go_wp2_with fail
        go_roundw
        case rel => exact ⟨K + 1, _, rfl, by omega, by simp, by rw [HS.out]; exact hr.below b2, hbw.trans (b2.mono hbw.size)⟩
        case measure => simp [intOf]; omega
    · obtain rfl : K = x + 1 := by omega
      have hi : ¬ ((x + 1 : Nat) : Int) ≤ (x : Int) := by omega
      obtain ⟨a', cap', rfl⟩ := hr.shape
      have HR := Lib.hid hr
      clear hr
      go_wp2_with fail
      go_ret
      exact ⟨_, rfl, HR.out, hbw⟩

set_option maxHeartbeats 400000 in
theorem implMakersOf (n b : Int) (w : World) : Calls Try.prog 20 #[.int .i64 n, .int .i64 b] w (ListPost w (Pl.makersA n b)) := by
  by_cases h : Pl.okB n b = true
  · obtain ⟨x, k, rfl, rfl, h3, h4, h5⟩ := Pl.okB_nat h
    rw [Pl.makersA_yes x k h]
    exact implMakersYes x k h3 h4 h5 w
  · rw [Pl.makersA_no h]
    have h' : Pl.okB n b = false := by simpa using h
    clear h
    go_enter Try.func20, Try.ntmps20
    go_wp2_with (go_at_call 43; refine (hasDigits _ _ _).mono ?_; rintro e w' ⟨rfl, rfl⟩; rw [h'])
    go_ret
    exact ⟨_, rfl, World.ownsRow_nil _ _ _ _, Below.refl _ _⟩

set_option maxHeartbeats 400000 in
theorem implSelfOk (n b : Int) (w : World) :
    Calls Try.prog 27 #[.int .i64 n, .int .i64 b] w fun e w' => e = .returned (.bool (Pl.selfB n b)) ∧ Below w.heap.size w w' := by
  by_cases h : Pl.okB n b = true
  · rw [Pl.selfB_len h]
    have HM := Lib.hid (implMakersOf n b)
    generalize Pl.makersA n b = L at *
    go_enter Try.func27, Try.ntmps27
    go_wp2_with (go_at_call 43; refine (hasDigits _ _ _).mono ?_; rintro e w' ⟨rfl, rfl⟩; rw [h])
    refine (HM.out _).mono ?_
    rintro e w1 ⟨v1, rfl, r1, b1⟩
    obtain ⟨a1, cap1, rfl⟩ := r1.shape
    go_wp2_with fail
    go_ret
    exact ⟨rfl, b1⟩
  · rw [Pl.selfB_no h]
    have h' : Pl.okB n b = false := by simpa using h
    clear h
    go_enter Try.func27, Try.ntmps27
    go_wp2_with (go_at_call 43; refine (hasDigits _ _ _).mono ?_; rintro e w' ⟨rfl, rfl⟩; rw [h'])
    go_ret
    exact ⟨rfl, Below.refl _ _⟩

set_option maxRecDepth 100000 in
set_option maxHeartbeats 2000000 in
theorem implSelvesYes (M : Nat) (b : Int) (hM : M ≤ 3000) (hb : Pl.baseB b = true) (w : World) :
    Calls Try.prog 30 #[.int .i64 M, .int .i64 b] w (ListPost w (Pl.selPart b (M + 1))) := by
  obtain ⟨i0, hi0, hz0, hz1, hz2⟩ := info_parts info_int
  have hM2 : (M : Int) ≤ 3000 := by omega
  have hM3 : ¬ (3000 : Int) < (M : Int) := by omega
  go_enter Try.func30, Try.ntmps30
  go_wp2_with (go_at_call 47; refine (implBaseOk _ _).mono ?_; rintro e w' ⟨rfl, rfl⟩; rw [hb])
  go_loopw [5, 20] (fun v i wr => ∃ (k : Nat) (vv : Value), vv = v ∧ k ≤ M + 1 ∧ i = .int .i64 k ∧ Row w.heap.size wr vv (Pl.selPart b k) ∧ Below w.heap.size w wr) (fun _ i _ => M + 1 - (intOf i).toNat)
  case atStart => exact ⟨0, _, rfl, by omega, rfl, World.ownsRow_nil _ _ _ _, Below.refl _ _⟩
  case round =>
    obtain ⟨k, vv, rfl, hk, rfl, hr, hbw⟩ := hrel
    by_cases hlt : k < M + 1
    · have hi : (k : Int) < (M : Int) + 1 := by omega
      have hlen := Pl.selPart_len b k
      cases hok : Pl.selfB (k : Int) b with
      | false =>
        have HS := Lib.hid (Pl.selPart_not hok)
        generalize Pl.selPart b k = L at *
        go_wp2_with fail
        refine (implSelfOk _ _ _).mono ?_
        rintro e w2 ⟨rfl, b2⟩
        rw [hok]
        go_wp2_with fail
        go_roundw
        case rel => exact ⟨k + 1, _, rfl, by omega, by simp, by rw [HS.out]; exact hr.below b2, hbw.trans (b2.mono hbw.size)⟩
        case measure => simp [intOf]; omega
      | true =>
        have HS := Lib.hid (Pl.selPart_yes hok)
        generalize Pl.selPart b k = L at *
        go_wp2_with fail
        refine (implSelfOk _ _ _).mono ?_
        rintro e w2 ⟨rfl, b2⟩
        rw [hok]
        have hr2 : w2.ownsRow w.heap.size 3 1 vv L.length (L.map (Value.int .i64)) := hr.below b2
        have hsz := hbw.size
        have hsz2 := b2.size
        clear hr
        go_wp2_with (at_builtin; refine wpList_append_own _ rfl _ _ 28 rfl w.heap.size 3 i0 (.int .i64 0) 1 8 Try.underlying28 hi0 hz0 hz1 hz2 rfl (by decide) _ _ _ rfl (hr2.alloc _) ⟨w2.heap.size, 0, none⟩ 1 1 [.int .i64 (k : Int)] rfl rfl (cell_one_new _ _ _) (by simp [Value.oneCell']) (by unfold maxLen; omega) (by omega) (by simp; omega) ?_; intro v6 w6 hown6 hgrow6 _)
        have hb6 : Below w.heap.size w w6 := below_append ((hbw.trans (b2.mono hsz)).alloc (by omega) _) (hr2.alloc _) hgrow6
        go_roundw
        case rel => exact ⟨k + 1, _, rfl, by omega, by simp, by rw [HS.out]; exact row_snoc hown6, hb6⟩
        case measure => simp [intOf]; omega
    · obtain rfl : k = M + 1 := by omega
      have hi : ¬ ((M + 1 : Nat) : Int) < (M : Int) + 1 := by omega
      obtain ⟨a', cap', rfl⟩ := hr.shape
      have HR := Lib.hid hr
      clear hr
      go_wp2_with fail
      go_ret
      exact ⟨_, rfl, HR.out, hbw⟩

set_option maxHeartbeats 400000 in
theorem implSelvesUpTo (most b : Int) (w : World) : Calls Try.prog 30 #[.int .i64 most, .int .i64 b] w (ListPost w (Pl.selvesA most b)) := by
  by_cases hb : Pl.baseB b = true
  · by_cases h0 : most < 0
    · rw [Pl.selvesA_neg h0]
      go_enter Try.func30, Try.ntmps30
      go_wp2_with (go_at_call 47; refine (implBaseOk _ _).mono ?_; rintro e w' ⟨rfl, rfl⟩; rw [hb])
      go_ret
      exact ⟨_, rfl, World.ownsRow_nil _ _ _ _, Below.refl _ _⟩
    · by_cases h1 : 3000 < most
      · rw [Pl.selvesA_big h1]
        go_enter Try.func30, Try.ntmps30
        go_wp2_with (go_at_call 47; refine (implBaseOk _ _).mono ?_; rintro e w' ⟨rfl, rfl⟩; rw [hb])
        go_ret
        exact ⟨_, rfl, World.ownsRow_nil _ _ _ _, Below.refl _ _⟩
      · obtain ⟨M, rfl⟩ := Int.eq_ofNat_of_zero_le (show 0 ≤ most by omega)
        rw [Pl.selvesA_yes b (by omega)]
        exact implSelvesYes M b (by omega) hb w
  · rw [Pl.selvesA_base hb]
    have hb' : Pl.baseB b = false := by simpa using hb
    clear hb
    go_enter Try.func30, Try.ntmps30
    go_wp2_with (go_at_call 47; refine (implBaseOk _ _).mono ?_; rintro e w' ⟨rfl, rfl⟩; rw [hb'])
    go_ret
    exact ⟨_, rfl, World.ownsRow_nil _ _ _ _, Below.refl _ _⟩

set_option maxHeartbeats 400000 in
theorem inRows (n b : Int) (w : World) :
    Calls Try.prog 53 #[.int .i64 n, .int .i64 b] w fun e w' => e = .returned (.bool (Pl.rowB n b)) ∧ w = w' := by
  by_cases hb : Pl.baseB b = true
  · have e1 : Pl.rowB n b = (decide (1 ≤ n) && decide (n ≤ 3000)) := by simp [Pl.rowB, hb]
    rw [e1]
    by_cases h0 : 1 ≤ n
    · go_enter Try.func53, Try.ntmps53
      go_wp2_with (go_at_call 47; refine (implBaseOk _ _).mono ?_; rintro e w' ⟨rfl, rfl⟩; rw [hb])
      go_ret
      exact ⟨ret_bool (by simp; omega), rfl⟩
    · go_enter Try.func53, Try.ntmps53
      go_wp2_with (go_at_call 47; refine (implBaseOk _ _).mono ?_; rintro e w' ⟨rfl, rfl⟩; rw [hb])
      go_ret
      exact ⟨ret_bool (by simp; omega), rfl⟩
  · have hb' : Pl.baseB b = false := by simpa using hb
    have e1 : Pl.rowB n b = false := by simp [Pl.rowB, hb']
    rw [e1]
    clear hb
    go_enter Try.func53, Try.ntmps53
    go_wp2_with (go_at_call 47; refine (implBaseOk _ _).mono ?_; rintro e w' ⟨rfl, rfl⟩; rw [hb'])
    go_ret
    exact ⟨rfl, rfl⟩

set_option maxRecDepth 100000 in
set_option maxHeartbeats 2000000 in
theorem implRowYes (x k : Nat) (h1 : 1 ≤ x) (h2 : x ≤ 3000) (h3 : 2 ≤ k) (h4 : k ≤ 16) (w : World) :
    Calls Try.prog 33 #[.int .i64 x, .int .i64 k] w (ListPost w (Pl.ints (Pl.rowL k x))) := by
  obtain ⟨i0, hi0, hz0, hz1, hz2⟩ := info_parts info_int
  have hin : Pl.rowB x k = true := by rw [Pl.rowB_iff]; omega
  obtain ⟨OUT, hOUT⟩ : ∃ OUT, Pl.rowL k x = OUT := ⟨_, rfl⟩
  have HO : Hid (([] : List Nat) ++ Pl.rowL k x = OUT) := Lib.hid (by rw [← hOUT, List.nil_append])
  have hOL : OUT.length ≤ 3000 := by rw [← hOUT]; exact Pl.rowL_len3 h3 h1
  rw [hOUT]
  clear hOUT
  go_enter Try.func33, Try.ntmps33
  go_wp2_with (go_at_call 53; refine (inRows _ _ _).mono ?_; rintro e w' ⟨rfl, rfl⟩; rw [hin])
  clear hin
  go_loopw [0, 5] (fun i v wr => ∃ (m : Nat) (seen : List Nat) (vv : Value), vv = v ∧ i = .int .i64 m ∧ 1 ≤ m ∧ m ≤ 6000 ∧ seen ++ Pl.rowL k m = OUT ∧ Row w.heap.size wr vv (Pl.ints seen) ∧ Below w.heap.size w wr) (fun i _ _ => 6001 - (intOf i).toNat)
  case atStart => exact ⟨x, [], _, rfl, rfl, h1, by omega, HO.out, World.ownsRow_nil _ _ _ _, Below.refl _ _⟩
  case round =>
    clear HO h1 h2
    obtain ⟨m, seen, vv, rfl, rfl, hm1, hm2, ho, hr, hbw⟩ := hrel
    by_cases hlt : m ≤ 3000
    · have hi : (m : Int) ≤ 3000 := by omega
      have hmb := Pl.madeI_yes m k (Pl.okB_of h3 h4 (by omega))
      have hmore := Pl.made_more h3 hm1
      have hle := Pl.madeN_le (n := m) h3
      rw [Pl.rowL_cons h3 hm1 hlt] at ho
      have HS : Hid ((seen ++ [m]) ++ Pl.rowL k (Pl.madeN k m) = OUT) := Lib.hid (by rw [← ho]; simp)
      have hlen : seen.length ≤ 3000 := by have := congrArg List.length ho; rw [List.length_append] at this; omega
      have HI := Lib.hid (Pl.ints_snoc seen m)
      rw [← Pl.ints_len] at hlen
      generalize hR : Pl.ints seen = R at *
      have HM := Lib.hid (implMadeBy (m : Int) k)
      rw [hmb] at HM
      clear ho hmb hR
      generalize Pl.madeN k m = M at *
      have hsz := hbw.size
      have hr2 : wr.ownsRow w.heap.size 3 1 vv R.length (R.map (Value.int .i64)) := hr
      clear hr
      go_wp2_with (at_builtin; refine wpList_append_own _ rfl _ _ 28 rfl w.heap.size 3 i0 (.int .i64 0) 1 8 Try.underlying28 hi0 hz0 hz1 hz2 rfl (by decide) _ _ _ rfl (hr2.alloc _) ⟨wr.heap.size, 0, none⟩ 1 1 [.int .i64 (m : Int)] rfl rfl (cell_one_new _ _ _) (by simp [Value.oneCell']) (by unfold maxLen; omega) (by omega) (by simp; omega) ?_; intro v6 w6 hown6 hgrow6 _)
      have hb6 : Below w.heap.size w w6 := below_append (hbw.alloc (by omega) _) (hr2.alloc _) hgrow6
      have hr6 : Row w.heap.size w6 v6 (R ++ [(m : Int)]) := row_snoc hown6
      refine (HM.out _).mono ?_
      rintro e w7 ⟨rfl, b7⟩
      go_wp2_with fail
      go_roundw
      case rel => exact ⟨M, seen ++ [m], _, rfl, rfl, by omega, by omega, HS.out, by rw [HI.out]; exact hr6.below b7, hb6.trans (b7.mono hb6.size)⟩
      case measure => simp [intOf]; omega
    · have hi : ¬ (m : Int) ≤ 3000 := by omega
      rw [Pl.rowL_big (by omega), List.append_nil] at ho
      subst ho
      obtain ⟨a', cap', rfl⟩ := hr.shape
      have HR := Lib.hid hr
      clear hr
      go_wp2_with fail
      go_ret
      exact ⟨_, rfl, HR.out, hbw⟩

set_option maxHeartbeats 400000 in
theorem implRowFrom (n b : Int) (w : World) : Calls Try.prog 33 #[.int .i64 n, .int .i64 b] w (ListPost w (Pl.rowA n b)) := by
  by_cases h : Pl.rowB n b = true
  · obtain ⟨x, k, rfl, rfl, h3, h4, h5, h6⟩ := Pl.rowB_nat h
    rw [Pl.rowA_yes x k h]
    exact implRowYes x k h3 h4 h5 h6 w
  · rw [Pl.rowA_no h]
    have h' : Pl.rowB n b = false := by simpa using h
    clear h
    go_enter Try.func33, Try.ntmps33
    go_wp2_with (go_at_call 53; refine (inRows _ _ _).mono ?_; rintro e w' ⟨rfl, rfl⟩; rw [h'])
    go_ret
    exact ⟨_, rfl, World.ownsRow_nil _ _ _ _, Below.refl _ _⟩

set_option maxRecDepth 100000 in
set_option maxHeartbeats 2000000 in
theorem implJoinAt (n m b : Int) (w : World) :
    Calls Try.prog 36 #[.int .i64 n, .int .i64 m, .int .i64 b] w fun e w' => e = .returned (.tuple #[.int .i64 (Pl.wV (Pl.joinA n m b)), .bool (Pl.wB (Pl.joinA n m b))]) ∧ Below w.heap.size w w' := by
  by_cases h1 : Pl.rowB n b = true
  · by_cases h2 : Pl.rowB m b = true
    · obtain ⟨x, k, rfl, rfl, q1, q2, q3, q4⟩ := Pl.rowB_nat h1
      obtain ⟨y, k', rfl, hk, q5, q6, _, _⟩ := Pl.rowB_nat h2
      obtain rfl : k = k' := by omega
      rw [Pl.joinA_yes x y k h1 h2]
      clear hk
      obtain ⟨J, hJ⟩ : ∃ J, Pl.joinO k x y = J := ⟨_, rfl⟩
      have HJ := Lib.hid hJ
      rw [hJ]
      clear hJ
      have H1 := Lib.hid (inRows (x : Int) k)
      have H2 := Lib.hid (inRows (y : Int) k)
      rw [h1] at H1
      rw [h2] at H2
      clear h1 h2
      go_enter Try.func36, Try.ntmps36
      go_wp2_with fail
      refine (H1.out _).mono ?_
      rintro e w1 ⟨rfl, rfl⟩
      go_wp2_with fail
      refine (H2.out _).mono ?_
      rintro e w1 ⟨rfl, rfl⟩
      clear H1 H2
      go_wp2_with fail
      go_loopw [8, 9] (fun i j wr => ∃ p q : Nat, i = .int .i64 p ∧ j = .int .i64 q ∧ 1 ≤ p ∧ p ≤ 3000 ∧ 1 ≤ q ∧ q ≤ 3000 ∧ Pl.joinO k p q = J ∧ Below w.heap.size w wr) (fun i j _ => 6001 - (intOf i).toNat - (intOf j).toNat)
      case atStart => exact ⟨x, y, rfl, rfl, q1, q2, q5, q6, HJ.out, Below.refl _ _⟩
      case round =>
        clear HJ q1 q2 q5 q6
        obtain ⟨p, q, rfl, rfl, g1, g2, g3, g4, hj, c2⟩ := hrel
        by_cases he : p = q
        · subst he
          rw [Pl.joinO_same q3 g1 g2] at hj
          subst hj
          have t3 : ((p : Int) != (p : Int)) = false := by simp
          go_wp2_with fail
          go_ret2
          exact ⟨rfl, c2⟩
        · have t3 : ((p : Int) != (q : Int)) = true := by rw [bne_iff_ne]; omega
          by_cases hl : p < q
          · have hmb := Pl.madeI_yes p k (Pl.okB_of q3 q4 (by omega))
            have hmore := Pl.made_more q3 g1
            have hle := Pl.madeN_le (n := p) q3
            rw [Pl.joinO_left q3 g1 g2 hl] at hj
            have HJ := Lib.hid hj
            have HS := Lib.hid (implMadeBy (p : Int) k)
            rw [hmb] at HS
            have hl2 : ¬ (q : Int) < (p : Int) := by omega
            clear hj hmb
            generalize Pl.madeN k p = M at *
            by_cases hbig : 3000 < M
            · have HJ2 := Lib.hid (HJ.out.symm.trans (Pl.joinO_big hbig))
              go_wp2_with fail
              refine (HS.out _).mono ?_
              rintro e w1 ⟨rfl, hb1⟩
              go_wp2_with fail
              go_ret2
              rw [HJ2.out]
              exact ⟨rfl, c2.trans (hb1.mono c2.size)⟩
            · go_wp2_with fail
              refine (HS.out _).mono ?_
              rintro e w1 ⟨rfl, hb1⟩
              go_wp2_with fail
              go_roundw
              case rel => exact ⟨M, q, rfl, rfl, by omega, by omega, g3, g4, HJ.out, c2.trans (hb1.mono c2.size)⟩
              case measure => simp [intOf]; omega
          · have hl2 : q < p := by omega
            have hmb := Pl.madeI_yes q k (Pl.okB_of q3 q4 (by omega))
            have hmore := Pl.made_more q3 g3
            have hle := Pl.madeN_le (n := q) q3
            rw [Pl.joinO_right q3 g3 g4 hl2] at hj
            have HJ := Lib.hid (hj.symm.trans (Pl.joinO_sym q3 g1 (by omega))).symm
            have HS := Lib.hid (implMadeBy (q : Int) k)
            rw [hmb] at HS
            have hl3 : (q : Int) < (p : Int) := by omega
            clear hj hmb
            generalize Pl.madeN k q = M at *
            by_cases hbig : 3000 < M
            · have HJ2 := Lib.hid (HJ.out.symm.trans (Pl.joinO_big hbig))
              go_wp2_with fail
              refine (HS.out _).mono ?_
              rintro e w1 ⟨rfl, hb1⟩
              go_wp2_with fail
              go_ret2
              rw [HJ2.out]
              exact ⟨rfl, c2.trans (hb1.mono c2.size)⟩
            · go_wp2_with fail
              refine (HS.out _).mono ?_
              rintro e w1 ⟨rfl, hb1⟩
              go_wp2_with fail
              go_roundw
              case rel => exact ⟨M, p, rfl, rfl, by omega, by omega, g1, g2, HJ.out, c2.trans (hb1.mono c2.size)⟩
              case measure => simp [intOf]; omega
    · rw [Pl.joinA_no (fun h => h2 h.2)]
      have H1 := Lib.hid (inRows n b)
      have H2 := Lib.hid (inRows m b)
      have h2' : Pl.rowB m b = false := by simpa using h2
      rw [h1] at H1
      rw [h2'] at H2
      clear h1 h2 h2'
      go_enter Try.func36, Try.ntmps36
      go_wp2_with fail
      refine (H1.out _).mono ?_
      rintro e w1 ⟨rfl, rfl⟩
      go_wp2_with fail
      refine (H2.out _).mono ?_
      rintro e w1 ⟨rfl, rfl⟩
      go_wp2_with fail
      go_ret2
      exact ⟨rfl, Below.refl _ _⟩
  · rw [Pl.joinA_no (fun h => h1 h.1)]
    have H1 := Lib.hid (inRows n b)
    have h1' : Pl.rowB n b = false := by simpa using h1
    rw [h1'] at H1
    clear h1 h1'
    go_enter Try.func36, Try.ntmps36
    go_wp2_with fail
    refine (H1.out _).mono ?_
    rintro e w1 ⟨rfl, rfl⟩
    go_wp2_with fail
    go_ret2
    exact ⟨rfl, Below.refl _ _⟩

set_option maxHeartbeats 1000000 in
theorem FnExactMadeBy_walk (a0 : Int) (a1 : Int) (w : World) (_w0 : (Lit.int .i64 a0).wf = true) (_w1 : (Lit.int .i64 a1).wf = true) :
    Calls Try.prog 9 #[.int .i64 a0, .int .i64 a1] w fun e w' => e = .returned (.bool true) ∧ Below w.heap.size w w' := by
  have HS := Lib.hid (specMadeBy a0 a1)
  have HI := Lib.hid (implMadeBy a0 a1)
  generalize Pl.madeI a0 a1 = G0 at *
  go_enter Try.func9, Try.ntmps9
  go_wp2_with (first | (go_at_call 17; refine (HS.out _).mono ?_; rintro e w' ⟨rfl, rfl⟩) | (go_at_call 16; refine (HI.out _).mono ?_; rintro e w2 ⟨rfl, hb2⟩))
  all_goals
    go_ret
    exact ⟨rfl, hb2⟩

set_option maxHeartbeats 1000000 in
theorem FnExactMakersOf_walk (a0 : Int) (a1 : Int) (w : World) (_w0 : (Lit.int .i64 a0).wf = true) (_w1 : (Lit.int .i64 a1).wf = true) :
    Calls Try.prog 10 #[.int .i64 a0, .int .i64 a1] w fun e w' => e = .returned (.bool true) ∧ Below w.heap.size w w' := by
  have HS := Lib.hid (specMakersOf a0 a1)
  have HI := Lib.hid (implMakersOf a0 a1)
  have hlen := Pl.makersA_len a0 a1
  generalize Pl.makersA a0 a1 = G0 at *
  go_enter Try.func10, Try.ntmps10
  go_wp2_with fail
  refine (HS.out _).mono ?_
  rintro e w1 ⟨v0, rfl, r0, b0⟩
  go_wp2_with fail
  refine (HI.out _).mono ?_
  rintro e w2 ⟨v1, rfl, r1, b1⟩
  have i0 := r0.ints.below b1
  go_wp2_with fail
  refine (eqIntS _ _ G0 G0 w2 r1.ints i0 (by omega)).mono ?_
  rintro e w3 ⟨rfl, b2⟩
  rw [eqL_self]
  go_wp2_with fail
  refine (markIntS w1.heap.size _ G0 1 w3 (r1.below b2) (by omega) (by omega) (by omega)).mono ?_
  rintro e w4 ⟨rfl, r4, b4⟩
  go_wp2_with fail
  refine (heldIntS _ 1 G0.length w4 r4.ints (by omega) (by omega) (by omega)).mono ?_
  rintro e w5 ⟨rfl, rfl⟩
  go_wp2_with fail
  refine (HI.out _).mono ?_
  rintro e w6 ⟨v2, rfl, r6, b6⟩
  have c2 : Below w1.heap.size w1 w4 := (b1.trans (b2.mono b1.size)).trans b4
  have c6 : Below w1.heap.size w1 w6 := c2.trans (b6.mono c2.size)
  go_wp2_with fail
  refine (eqIntS _ _ G0 G0 w6 r6.ints (r0.ints.kept (Nat.le_refl _) c6) (by omega)).mono ?_
  rintro e w7 ⟨rfl, b7⟩
  rw [eqL_self]
  go_wp2_with fail
  refine (heldIntS _ 1 G0.length w7 ((r4.ints.below b6).below b7) (by omega) (by omega) (by omega)).mono ?_
  rintro e w8 ⟨rfl, rfl⟩
  go_wp2
  go_ret
  exact ⟨rfl, (b0.trans (c6.mono b0.size)).trans (b7.mono (Nat.le_trans b0.size c6.size))⟩

set_option maxHeartbeats 1000000 in
theorem FnExactSelfOk_walk (a0 : Int) (a1 : Int) (w : World) (_w0 : (Lit.int .i64 a0).wf = true) (_w1 : (Lit.int .i64 a1).wf = true) :
    Calls Try.prog 11 #[.int .i64 a0, .int .i64 a1] w fun e w' => e = .returned (.bool true) ∧ Below w.heap.size w w' := by
  have HS := Lib.hid (specSelfOk a0 a1)
  have HI := Lib.hid (implSelfOk a0 a1)
  generalize Pl.selfB a0 a1 = G0 at *
  go_enter Try.func11, Try.ntmps11
  go_wp2_with (first | (go_at_call 28; refine (HS.out _).mono ?_; rintro e w1 ⟨rfl, hb1⟩) | (go_at_call 27; refine (HI.out _).mono ?_; rintro e w2 ⟨rfl, hb2⟩))
  all_goals
    go_ret
    exact ⟨rfl, hb1.trans (hb2.mono hb1.size)⟩

set_option maxHeartbeats 1000000 in
theorem FnExactSelvesUpTo_walk (a0 : Int) (a1 : Int) (w : World) (_w0 : (Lit.int .i64 a0).wf = true) (_w1 : (Lit.int .i64 a1).wf = true) :
    Calls Try.prog 12 #[.int .i64 a0, .int .i64 a1] w fun e w' => e = .returned (.bool true) ∧ Below w.heap.size w w' := by
  have HS := Lib.hid (specSelvesUpTo a0 a1)
  have HI := Lib.hid (implSelvesUpTo a0 a1)
  have hlen := Pl.selvesA_len a0 a1
  generalize Pl.selvesA a0 a1 = G0 at *
  go_enter Try.func12, Try.ntmps12
  go_wp2_with fail
  refine (HS.out _).mono ?_
  rintro e w1 ⟨v0, rfl, r0, b0⟩
  go_wp2_with fail
  refine (HI.out _).mono ?_
  rintro e w2 ⟨v1, rfl, r1, b1⟩
  have i0 := r0.ints.below b1
  go_wp2_with fail
  refine (eqIntS _ _ G0 G0 w2 r1.ints i0 (by omega)).mono ?_
  rintro e w3 ⟨rfl, b2⟩
  rw [eqL_self]
  go_wp2_with fail
  refine (markIntS w1.heap.size _ G0 1 w3 (r1.below b2) (by omega) (by omega) (by omega)).mono ?_
  rintro e w4 ⟨rfl, r4, b4⟩
  go_wp2_with fail
  refine (heldIntS _ 1 G0.length w4 r4.ints (by omega) (by omega) (by omega)).mono ?_
  rintro e w5 ⟨rfl, rfl⟩
  go_wp2_with fail
  refine (HI.out _).mono ?_
  rintro e w6 ⟨v2, rfl, r6, b6⟩
  have c2 : Below w1.heap.size w1 w4 := (b1.trans (b2.mono b1.size)).trans b4
  have c6 : Below w1.heap.size w1 w6 := c2.trans (b6.mono c2.size)
  go_wp2_with fail
  refine (eqIntS _ _ G0 G0 w6 r6.ints (r0.ints.kept (Nat.le_refl _) c6) (by omega)).mono ?_
  rintro e w7 ⟨rfl, b7⟩
  rw [eqL_self]
  go_wp2_with fail
  refine (heldIntS _ 1 G0.length w7 ((r4.ints.below b6).below b7) (by omega) (by omega) (by omega)).mono ?_
  rintro e w8 ⟨rfl, rfl⟩
  go_wp2
  go_ret
  exact ⟨rfl, (b0.trans (c6.mono b0.size)).trans (b7.mono (Nat.le_trans b0.size c6.size))⟩

set_option maxHeartbeats 1000000 in
theorem FnExactRowFrom_walk (a0 : Int) (a1 : Int) (w : World) (_w0 : (Lit.int .i64 a0).wf = true) (_w1 : (Lit.int .i64 a1).wf = true) :
    Calls Try.prog 13 #[.int .i64 a0, .int .i64 a1] w fun e w' => e = .returned (.bool true) ∧ Below w.heap.size w w' := by
  have HS := Lib.hid (specRowFrom a0 a1)
  have HI := Lib.hid (implRowFrom a0 a1)
  have hlen := Pl.rowA_len a0 a1
  generalize Pl.rowA a0 a1 = G0 at *
  go_enter Try.func13, Try.ntmps13
  go_wp2_with fail
  refine (HS.out _).mono ?_
  rintro e w1 ⟨v0, rfl, r0, b0⟩
  go_wp2_with fail
  refine (HI.out _).mono ?_
  rintro e w2 ⟨v1, rfl, r1, b1⟩
  have i0 := r0.ints.below b1
  go_wp2_with fail
  refine (eqIntS _ _ G0 G0 w2 r1.ints i0 (by omega)).mono ?_
  rintro e w3 ⟨rfl, b2⟩
  rw [eqL_self]
  go_wp2_with fail
  refine (markIntS w1.heap.size _ G0 1 w3 (r1.below b2) (by omega) (by omega) (by omega)).mono ?_
  rintro e w4 ⟨rfl, r4, b4⟩
  go_wp2_with fail
  refine (heldIntS _ 1 G0.length w4 r4.ints (by omega) (by omega) (by omega)).mono ?_
  rintro e w5 ⟨rfl, rfl⟩
  go_wp2_with fail
  refine (HI.out _).mono ?_
  rintro e w6 ⟨v2, rfl, r6, b6⟩
  have c2 : Below w1.heap.size w1 w4 := (b1.trans (b2.mono b1.size)).trans b4
  have c6 : Below w1.heap.size w1 w6 := c2.trans (b6.mono c2.size)
  go_wp2_with fail
  refine (eqIntS _ _ G0 G0 w6 r6.ints (r0.ints.kept (Nat.le_refl _) c6) (by omega)).mono ?_
  rintro e w7 ⟨rfl, b7⟩
  rw [eqL_self]
  go_wp2_with fail
  refine (heldIntS _ 1 G0.length w7 ((r4.ints.below b6).below b7) (by omega) (by omega) (by omega)).mono ?_
  rintro e w8 ⟨rfl, rfl⟩
  go_wp2
  go_ret
  exact ⟨rfl, (b0.trans (c6.mono b0.size)).trans (b7.mono (Nat.le_trans b0.size c6.size))⟩

set_option maxHeartbeats 1000000 in
theorem FnExactJoinAt_walk (a0 : Int) (a1 : Int) (a2 : Int) (w : World) (_w0 : (Lit.int .i64 a0).wf = true) (_w1 : (Lit.int .i64 a1).wf = true) (_w2 : (Lit.int .i64 a2).wf = true) :
    Calls Try.prog 14 #[.int .i64 a0, .int .i64 a1, .int .i64 a2] w fun e w' => e = .returned (.bool true) ∧ Below w.heap.size w w' := by
  have HS := Lib.hid (specJoinAt a0 a1 a2)
  have HI := Lib.hid (implJoinAt a0 a1 a2)
  generalize Pl.joinA a0 a1 a2 = G0 at *
  go_enter Try.func14, Try.ntmps14
  go_wp2_with (first | (go_at_call 37; refine (HS.out _).mono ?_; rintro e w1 ⟨rfl, hb1⟩) | (go_at_call 36; refine (HI.out _).mono ?_; rintro e w2 ⟨rfl, hb2⟩))
  all_goals
    go_ret
    exact ⟨rfl, hb1.trans (hb2.mono hb1.size)⟩

end Go.Proofs.Ythohahnfkncecaa
