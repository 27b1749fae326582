/-
  spec.EndOk, spec.EndsOf, spec.OtherEnd, spec.LongerEnd, spec.PrimesOf: what they answer.
-/
import Derived.Test.YtgdgafoaangmkaaWide
import Derived.Test.YtgdgafoaangmkaaMathEnds2
import Derived.Test.YtgdgafoaangmkaaWhole
namespace Go.Proofs.Ytgdgafoaangmkaa
open Go.RowKit Go.Shelf

theorem endsOk_halves {l b : Int} (h : Pl.endsOk l b = true) : (decide (1 ≤ l) && decide (l ≤ 4)) = true ∧ Pl.baseB b = true := by
  simpa only [Pl.endsOk, Bool.and_eq_true] using h

set_option maxHeartbeats 800000 in
theorem specEndOk (n l b : Int) (w : World) :
    Calls Try.prog 15 #[.int .i64 n, .int .i64 l, .int .i64 b] w fun e w' => e = .returned (.bool (Pl.endB n l b)) ∧ w = w' := by
  by_cases hok : Pl.endsOk l b = true
  · obtain ⟨g1, g2⟩ := endsOk_halves hok
    obtain ⟨L, k, rfl, rfl, h1, h2, h3, h4⟩ := Pl.endsOk_nat hok
    have hP := Pl.pow_le16 (b := k) (L := L) h4 h2
    have hP1 : 1 ≤ k ^ L := Nat.pow_pos (by omega)
    have HB := Lib.hid (basePower k L h4 (by omega))
    by_cases hin : 0 ≤ n ∧ n < ((k ^ L : Nat) : Int)
    · obtain ⟨x, rfl⟩ : ∃ x : Nat, n = (x : Int) := ⟨n.toNat, by omega⟩
      have hx : x < k ^ L := by omega
      have hE : Pl.endB x L k = (((x * x % k ^ L : Nat) : Int) == (x : Int)) := by
        rw [Pl.endB_yes hok, Bool.eq_iff_iff, decide_eq_true_eq, beq_iff_eq]
        unfold Pl.Idem
        omega
      rw [hE]
      clear hE hok
      generalize k ^ L = P at *
      have hin' : (decide ((0 : Int) ≤ (x : Int)) && decide ((x : Int) ≤ (P : Int) - 1)) = true := by simp; omega
      have hxx : x * x ≤ 65536 * 65536 := Nat.mul_le_mul (by omega) (by omega)
      have e1 : IntKind.i64.wrap ((x : Int) * (x : Int)) = ((x * x : Nat) : Int) := by
        rw [← Int.natCast_mul]; exact IntWalk.i64_in _ (by omega)
      have hP0 : ((P : Int) == 0) = false := by simp; omega
      have e2 : (((x * x : Nat) : Int)).tmod (P : Int) = ((x * x % P : Nat) : Int) := rfl
      have hm : x * x % P < P := Nat.mod_lt _ (by omega)
      generalize x * x % P = M at *
      generalize x * x = X at *
      go_enter Try.func15, Try.ntmps15
      go_wp2_with (first | (go_at_call 41; refine (specIn _ _ _ _).mono ?_; rintro e w' ⟨rfl, rfl⟩; first | rw [g1] | rw [hin']) | (go_at_call 42; refine (specBaseOk _ _).mono ?_; rintro e w' ⟨rfl, rfl⟩; rw [g2]) | (go_at_call 43; refine (HB.out _).mono ?_; rintro e w' ⟨rfl, rfl⟩))
      all_goals
        go_ret
        exact ⟨rfl, rfl⟩
    · have hE : Pl.endB n L k = false := by
        rw [← Bool.not_eq_true]
        intro hh
        obtain ⟨x, L', k', rfl, e1, e2, _, _, _, _, h9⟩ := Pl.endB_nat hh
        obtain rfl : L = L' := by omega
        obtain rfl : k = k' := by omega
        have := h9.1
        omega
      rw [hE]
      have hin' : (decide ((0 : Int) ≤ n) && decide (n ≤ ((k ^ L : Nat) : Int) - 1)) = false := by
        rw [← Bool.not_eq_true, Bool.and_eq_true, decide_eq_true_eq, decide_eq_true_eq]; omega
      clear hE hok hin
      generalize k ^ L = P at *
      go_enter Try.func15, Try.ntmps15
      go_wp2_with (first | (go_at_call 41; refine (specIn _ _ _ _).mono ?_; rintro e w' ⟨rfl, rfl⟩; first | rw [g1] | rw [hin']) | (go_at_call 42; refine (specBaseOk _ _).mono ?_; rintro e w' ⟨rfl, rfl⟩; rw [g2]) | (go_at_call 43; refine (HB.out _).mono ?_; rintro e w' ⟨rfl, rfl⟩))
      go_ret
      exact ⟨rfl, rfl⟩
  · rw [Pl.endB_no hok]
    by_cases g1 : (decide (1 ≤ l) && decide (l ≤ 4)) = true
    · have g2 : Pl.baseB b = false := by
        rw [← Bool.not_eq_true]; intro hh; exact hok (by rw [Pl.endsOk, g1, hh]; rfl)
      clear hok
      go_enter Try.func15, Try.ntmps15
      go_wp2_with (first | (go_at_call 41; refine (specIn _ _ _ _).mono ?_; rintro e w' ⟨rfl, rfl⟩; rw [g1]) | (go_at_call 42; refine (specBaseOk _ _).mono ?_; rintro e w' ⟨rfl, rfl⟩; rw [g2]))
      go_ret
      exact ⟨rfl, rfl⟩
    · have g1' : (decide (1 ≤ l) && decide (l ≤ 4)) = false := by simpa using g1
      clear hok g1
      go_enter Try.func15, Try.ntmps15
      go_wp2_with (first | (go_at_call 41; refine (specIn _ _ _ _).mono ?_; rintro e w' ⟨rfl, rfl⟩; rw [g1']))
      go_ret
      exact ⟨rfl, rfl⟩

set_option maxHeartbeats 1000000 in
theorem specEndsOf (l b : Int) (w : World) :
    Calls Try.prog 20 #[.int .i64 l, .int .i64 b] w (ListPost w (Pl.endsA l b)) := by
  by_cases hok : Pl.endsOk l b = true
  · obtain ⟨g1, g2⟩ := endsOk_halves hok
    obtain ⟨L, k, rfl, rfl, h1, h2, h3, h4⟩ := Pl.endsOk_nat hok
    have hP := Pl.pow_le16 (b := k) (L := L) h4 h2
    have HB := Lib.hid (basePower k L h4 (by omega))
    have HE : Hid (∀ m : Nat, m < k ^ L → ∀ W, Calls Try.prog 15 #[.int .i64 m, .int .i64 L, .int .i64 k] W fun e W' => e = .returned (.bool (decide (m * m % k ^ L = m))) ∧ W = W') := Lib.hid fun m hm W => by
      have h := specEndOk (m : Int) L k W
      have e : Pl.endB m L k = decide (m * m % k ^ L = m) := by
        rw [Pl.endB_yes hok, decide_eq_decide]; unfold Pl.Idem; exact ⟨fun h => h.2, fun h => ⟨hm, h⟩⟩
      rw [e] at h
      exact h
    rw [Pl.endsA_yes hok, ← Pl.endsTo_all]
    obtain ⟨i0, hi0, hz0, hz1, hz2⟩ := info_parts info_int
    clear hok
    generalize k ^ L = P at *
    go_enter Try.func20, Try.ntmps20
    go_wp2_with (first | (go_at_call 41; refine (specIn _ _ _ _).mono ?_; rintro e w' ⟨rfl, rfl⟩; rw [g1]) | (go_at_call 42; refine (specBaseOk _ _).mono ?_; rintro e w' ⟨rfl, rfl⟩; rw [g2]))
    have hb0 : Below w.heap.size w (w.alloc (.cells #[] 3)) := (Below.refl _ w).alloc (Nat.le_refl _) _
    go_loopw [5, 6] (fun ov mv wr => ∃ (m : Nat) (vv : Value), vv = ov ∧ m ≤ P ∧ mv = .int .i64 m ∧ Row w.heap.size wr vv ((Pl.endsTo P m).map fun n : Nat => (n : Int)) ∧ Below w.heap.size w wr) (fun _ mv _ => P - (intOf mv).toNat)
    case atStart => exact ⟨0, _, rfl, by omega, rfl, row_empty w, hb0⟩
    case round =>
      clear hb0
      obtain ⟨m, vv, rfl, hm, rfl, hr, hbw⟩ := hrel
      by_cases hlt : m < P
      · have hi : (m : Int) < (P : Int) := by omega
        have HC := Lib.hid (HE.out m hlt)
        have hs := Pl.endsTo_succ P m
        have hln := Pl.endsTo_len P m
        by_cases hp : m * m % P = m
        · rw [if_pos hp] at hs
          have hd : decide (m * m % P = m) = true := by simp [hp]
          rw [hd] at HC
          have HS : Hid (((Pl.endsTo P (m + 1)).map fun n : Nat => (n : Int)) = ((Pl.endsTo P m).map fun n : Nat => (n : Int)) ++ [(m : Int)]) := Lib.hid (by rw [hs, List.map_append]; rfl)
          have hll : ((Pl.endsTo P m).map fun n : Nat => (n : Int)).length ≤ 65536 := by rw [List.length_map]; omega
          clear hs hp hd hln
          generalize (Pl.endsTo P m).map (fun n : Nat => (n : Int)) = X at *
          have hr' : wr.ownsRow w.heap.size 3 1 vv X.length (X.map (Value.int .i64)) := hr
          have hsz := hbw.size
          clear hr
          go_wp2_with (first | (go_at_call 43; refine (HB.out _).mono ?_; rintro e w' ⟨rfl, rfl⟩) | (go_at_call 15; refine (HC.out _).mono ?_; rintro e w' ⟨rfl, rfl⟩) | (at_builtin; refine wpList_append_own _ rfl _ _ 30 rfl w.heap.size 3 i0 (.int .i64 0) 1 8 Try.underlying30 hi0 hz0 hz1 hz2 rfl (by decide) _ _ _ rfl (hr'.alloc _) ⟨wr.heap.size, 0, none⟩ 1 1 [.int .i64 (m : Int)] rfl rfl (cell_one_new _ _ _) (by simp [Value.oneCell']) (by unfold maxLen; omega) (by omega) (by simp; omega) ?_; intro v2 w1 hown1 hgrow1 _))
          go_roundw
          case rel => exact ⟨m + 1, _, rfl, by omega, by go_num, by rw [HS.out]; exact row_snoc hown1, below_append (hbw.alloc hbw.size _) (hr'.alloc _) hgrow1⟩
          case measure => simp [intOf]; omega
        · rw [if_neg hp, List.append_nil] at hs
          have hd : decide (m * m % P = m) = false := by simp [hp]
          rw [hd] at HC
          have HS := Lib.hid hs
          have HR := Lib.hid hr
          clear hs hp hd hln hr
          go_wp2_with (first | (go_at_call 43; refine (HB.out _).mono ?_; rintro e w' ⟨rfl, rfl⟩) | (go_at_call 15; refine (HC.out _).mono ?_; rintro e w' ⟨rfl, rfl⟩))
          go_roundw
          case rel => exact ⟨m + 1, _, rfl, by omega, by go_num, by rw [HS.out]; exact HR.out, hbw⟩
          case measure => simp [intOf]; omega
      · obtain rfl : m = P := by omega
        have hi : ¬ (m : Int) < (m : Int) := by omega
        have HR := Lib.hid hr
        clear hr
        go_wp2_with (first | (go_at_call 43; refine (HB.out _).mono ?_; rintro e w' ⟨rfl, rfl⟩))
        go_ret
        exact ⟨_, rfl, HR.out, hbw⟩
  · rw [Pl.endsA_no hok]
    by_cases g1 : (decide (1 ≤ l) && decide (l ≤ 4)) = true
    · have g2 : Pl.baseB b = false := by
        rw [← Bool.not_eq_true]; intro hh; exact hok (by rw [Pl.endsOk, g1, hh]; rfl)
      clear hok
      go_enter Try.func20, Try.ntmps20
      go_wp2_with (first | (go_at_call 41; refine (specIn _ _ _ _).mono ?_; rintro e w' ⟨rfl, rfl⟩; rw [g1]) | (go_at_call 42; refine (specBaseOk _ _).mono ?_; rintro e w' ⟨rfl, rfl⟩; rw [g2]))
      go_ret
      exact ⟨_, rfl, row_empty w, (Below.refl _ w).alloc (Nat.le_refl _) _⟩
    · have g1' : (decide (1 ≤ l) && decide (l ≤ 4)) = false := by simpa using g1
      clear hok g1
      go_enter Try.func20, Try.ntmps20
      go_wp2_with (first | (go_at_call 41; refine (specIn _ _ _ _).mono ?_; rintro e w' ⟨rfl, rfl⟩; rw [g1']))
      go_ret
      exact ⟨_, rfl, row_empty w, (Below.refl _ w).alloc (Nat.le_refl _) _⟩

set_option maxHeartbeats 800000 in
theorem specOtherEnd (n l b : Int) (w : World) :
    Calls Try.prog 26 #[.int .i64 n, .int .i64 l, .int .i64 b] w fun e w' => e = .returned (.int .i64 (Pl.otherI n l b)) ∧ w = w' := by
  have HE := Lib.hid (specEndOk n l b)
  by_cases h : Pl.endB n l b = true
  · have h' := h
    obtain ⟨x, L, k, rfl, rfl, rfl, h1, h2, h3, h4, h5⟩ := Pl.endB_nat h
    rw [Pl.otherI_yes h']
    rw [h'] at HE
    have hP := Pl.pow_le16 (b := k) (L := L) h4 h2
    have HB := Lib.hid (basePower k L h4 (by omega))
    have hx := h5.1
    have HO : Hid (Pl.otherN (k ^ L) x = if x ≤ 1 then 1 - x else k ^ L + 1 - x) := Lib.hid rfl
    clear h h' h5
    generalize k ^ L = P at *
    by_cases h01 : x ≤ 1
    · have hi : (x : Int) ≤ 1 := by omega
      go_enter Try.func26, Try.ntmps26
      go_wp2_with (first | (go_at_call 15; refine (HE.out _).mono ?_; rintro e w' ⟨rfl, rfl⟩))
      go_ret
      exact ⟨ret_int (by rw [HO.out, if_pos h01]; omega), rfl⟩
    · have hi : ¬ (x : Int) ≤ 1 := by omega
      go_enter Try.func26, Try.ntmps26
      go_wp2_with (first | (go_at_call 15; refine (HE.out _).mono ?_; rintro e w' ⟨rfl, rfl⟩) | (go_at_call 43; refine (HB.out _).mono ?_; rintro e w' ⟨rfl, rfl⟩))
      go_ret
      exact ⟨ret_int (by rw [HO.out, if_neg h01]; omega), rfl⟩
  · rw [Pl.otherI_no h]
    rw [Bool.eq_false_iff.2 h] at HE
    clear h
    go_enter Try.func26, Try.ntmps26
    go_wp2_with (first | (go_at_call 15; refine (HE.out _).mono ?_; rintro e w' ⟨rfl, rfl⟩))
    go_ret
    exact ⟨rfl, rfl⟩

/-- The first digit, from 0 on, ahead of which there is a longer end. -/
theorem Pl.ahead_first {b L n : Nat} (h1 : 2 ≤ b) (h2 : b ≤ 16) (h3 : 1 ≤ L) (h4 : L ≤ 3) (h : Pl.Idem (b ^ L) n) {d : Nat} (hd : d < b) : Pl.endB ((d * b ^ L + n : Nat) : Int) ((L + 1 : Nat) : Int) b = decide (d = Pl.aheadD b L n) := by
  obtain ⟨_, g2, g3⟩ := Pl.ahead_spec h1 h2 h3 h4 h
  rw [Pl.endB_yes (Pl.endsOk_of (by omega) (by omega) h1 h2), decide_eq_decide]
  exact ⟨fun hi => g3 d hd hi, fun e => by rw [e]; exact g2⟩

set_option maxHeartbeats 800000 in
theorem specLongerEnd (n l b : Int) (w : World) :
    Calls Try.prog 29 #[.int .i64 n, .int .i64 l, .int .i64 b] w fun e w' => e = .returned (.tuple #[.int .i64 (Pl.wV (Pl.longerO n l b)), .bool (Pl.wB (Pl.longerO n l b))]) ∧ w = w' := by
  have HE := Lib.hid (specEndOk n l b)
  by_cases h : Pl.endB n l b = true
  · by_cases h3l : l ≤ 3
    · have h' := h
      obtain ⟨x, L, k, rfl, rfl, rfl, h1, h2, h3, h4, h5⟩ := Pl.endB_nat h
      rw [Pl.longerO_yes h' (by omega)]
      rw [h'] at HE
      have hP := Pl.pow_le16 (b := k) (L := L) h4 h2
      have HB := Lib.hid (basePower k L h4 (by omega))
      have hx := h5.1
      obtain ⟨g1, _, _⟩ := Pl.ahead_spec h3 h4 h1 (by omega) h5
      have HA : Hid (∀ d : Nat, d < k → ∀ W, Calls Try.prog 15 #[.int .i64 ((d * k ^ L + x : Nat) : Int), .int .i64 ((L : Int) + 1), .int .i64 k] W fun e W' => e = .returned (.bool (decide (d = Pl.aheadD k L x))) ∧ W = W') := Lib.hid fun d hd W => by
        have g := specEndOk ((d * k ^ L + x : Nat) : Int) ((L + 1 : Nat) : Int) k W
        rw [Pl.ahead_first h3 h4 h1 (by omega) h5 hd] at g
        exact g
      have HL : Hid (Pl.longerN k L x = Pl.aheadD k L x * k ^ L + x) := Lib.hid rfl
      clear h h' h5
      generalize Pl.aheadD k L x = A at *
      generalize Pl.longerN k L x = M at *
      generalize k ^ L = P at *
      have hi0 : ¬ (4 : Int) ≤ (L : Int) := by omega
      go_enter Try.func29, Try.ntmps29
      go_wp2_with (first | (go_at_call 15; refine (HE.out _).mono ?_; rintro e w' ⟨rfl, rfl⟩) | (go_at_call 43; refine (HB.out _).mono ?_; rintro e w' ⟨rfl, rfl⟩))
      go_loop [9] (fun dv => ∃ d : Nat, d ≤ A ∧ dv = .int .i64 d) (fun dv => A - (intOf dv).toNat)
      case atStart => exact ⟨0, by omega, rfl⟩
      case round =>
        obtain ⟨d, hd, rfl⟩ := hrel
        have hi : (d : Int) < (k : Int) := by omega
        have HD := Lib.hid (HA.out d (by omega))
        have hm1 : d * P ≤ 16 * 65536 := Nat.mul_le_mul (by omega) hP
        have e1 : IntKind.i64.wrap ((d : Int) * (P : Int)) = ((d * P : Nat) : Int) := by
          rw [← Int.natCast_mul]; exact IntWalk.i64_in _ (by omega)
        have HDP := Lib.hid (rfl : d * P + x = d * P + x)
        by_cases hda : d = A
        · have hdd : decide (d = A) = true := by simp [hda]
          rw [hdd] at HD
          have HM : Hid (M = d * P + x) := Lib.hid (by rw [HL.out, hda])
          clear hda hdd HA HL
          generalize d * P = Q at *
          have e2 : IntKind.i64.wrap ((Q : Int) + (x : Int)) = ((Q + x : Nat) : Int) := by
            rw [← Int.natCast_add]; exact IntWalk.i64_in _ (by omega)
          have e3 : (Q : Int) + (x : Int) = ((Q + x : Nat) : Int) := by omega
          have HD2 : Hid (∀ W, Calls Try.prog 15 #[.int .i64 ((Q : Int) + (x : Int)), .int .i64 ((L : Int) + 1), .int .i64 k] W fun e W' => e = .returned (.bool true) ∧ W = W') := HD
          obtain ⟨QQ, hQQ⟩ : ∃ QQ : Int, (Q : Int) = QQ := ⟨_, rfl⟩
          rw [hQQ] at HD2 e1
          have b1 : 0 ≤ QQ ∧ QQ ≤ 1048576 := by omega
          have HM2 : Hid (QQ + (x : Int) = (M : Int)) := Lib.hid (by rw [HM.out, ← hQQ]; omega)
          clear e2 e3 hQQ HD HM
          go_wp2_with (first | (go_at_call 15; refine (HD2.out _).mono ?_; rintro e w' ⟨rfl, rfl⟩))
          go_ret2
          exact ⟨ret_whole (by rw [HM2.out]; rfl) rfl, rfl⟩
        · have hdd : decide (d = A) = false := by simp [hda]
          rw [hdd] at HD
          clear hdd HA HL
          generalize d * P = Q at *
          have HD2 : Hid (∀ W, Calls Try.prog 15 #[.int .i64 ((Q : Int) + (x : Int)), .int .i64 ((L : Int) + 1), .int .i64 k] W fun e W' => e = .returned (.bool false) ∧ W = W') := HD
          obtain ⟨QQ, hQQ⟩ : ∃ QQ : Int, (Q : Int) = QQ := ⟨_, rfl⟩
          rw [hQQ] at HD2 e1
          have b1 : 0 ≤ QQ ∧ QQ ≤ 1048576 := by omega
          clear hQQ HD
          go_wp2_with (first | (go_at_call 15; refine (HD2.out _).mono ?_; rintro e w' ⟨rfl, rfl⟩))
          go_round
          case rel => exact ⟨d + 1, by omega, by go_num⟩
          case measure => simp [intOf]; omega
    · rw [Pl.longerO_no (fun hh => h3l hh.2)]
      rw [h] at HE
      have hi0 : (4 : Int) ≤ l := by omega
      clear h
      go_enter Try.func29, Try.ntmps29
      go_wp2_with (first | (go_at_call 15; refine (HE.out _).mono ?_; rintro e w' ⟨rfl, rfl⟩))
      go_ret2
      exact ⟨rfl, rfl⟩
  · rw [Pl.longerO_no (fun hh => h hh.1)]
    rw [Bool.eq_false_iff.2 h] at HE
    clear h
    go_enter Try.func29, Try.ntmps29
    go_wp2_with (first | (go_at_call 15; refine (HE.out _).mono ?_; rintro e w' ⟨rfl, rfl⟩))
    go_ret2
    exact ⟨rfl, rfl⟩

/-- What is counted and what is left: from here on so many primes are to come. -/
def PrimesAt (k C p left : Nat) : Prop := ∃ f, f + p = 22 ∧ C + Pl.cntP f p left = Pl.primesT k

set_option maxHeartbeats 1000000 in
theorem specPrimesOf (b : Int) (w : World) :
    Calls Try.prog 23 #[.int .i64 b] w fun e w' => e = .returned (.int .i64 (Pl.primesI b)) ∧ w = w' := by
  by_cases hB : Pl.baseB b = true
  · obtain ⟨k, rfl, h1, h2⟩ : ∃ k : Nat, b = (k : Int) ∧ 2 ≤ k ∧ k ≤ 16 := by
      rw [Pl.baseB_iff] at hB; exact ⟨b.toNat, by omega, by omega, by omega⟩
    rw [Pl.primesI_yes h1 h2]
    have HC : Hid (PrimesAt k 0 2 k) := Lib.hid ⟨20, rfl, by rw [Nat.zero_add]; exact Pl.cntP_all h1 h2⟩
    go_enter Try.func23, Try.ntmps23
    go_wp2_with (go_at_call 42; refine (specBaseOk _ _).mono ?_; rintro e w' ⟨rfl, rfl⟩; rw [hB])
    go_loop [3, 4, 5] (fun cv lv pv => ∃ (C left p : Nat), cv = .int .i64 C ∧ lv = .int .i64 left ∧ pv = .int .i64 p ∧ 1 ≤ left ∧ left ≤ 16 ∧ 2 ≤ p ∧ p ≤ 17 ∧ C + 2 ≤ p ∧ PrimesAt k C p left) (fun _ _ pv => 17 - (intOf pv).toNat)
    case atStart => exact ⟨0, k, 2, rfl, rfl, rfl, by omega, h2, by omega, by omega, by omega, HC.out⟩
    case round =>
      clear hB HC
      obtain ⟨C, left, p, rfl, rfl, rfl, hl1, hl2, hp1, hp2, hCp, f, hf, hcnt⟩ := hrel
      by_cases hle : p ≤ left
      · have hi : (p : Int) ≤ (left : Int) := by omega
        have hp0 : ((p : Int) == 0) = false := by simp; omega
        obtain ⟨F, rfl⟩ : ∃ F, f = F + 1 := ⟨f - 1, by omega⟩
        rw [Pl.cntP, if_pos hle] at hcnt
        have hstab : Pl.stripN p 6 left = Pl.stripN p 5 left := Pl.strip_more hp1 5 left hl1 (by omega)
        have hspos := Pl.strip_pos (p := p) 5 left hl1
        have hsle := Pl.strip_le p 5 left
        -- the inner loop
        obtain ⟨X, hX⟩ : ∃ X, (if left % p = 0 then 1 else 0) = X := ⟨_, rfl⟩
        rw [hX, ← Nat.add_assoc] at hcnt
        have HCNT := Lib.hid hcnt
        have HST := Lib.hid hstab
        generalize hS : Pl.stripN p 5 left = S at *
        have HS := Lib.hid hS
        clear hcnt hstab hS
        by_cases h0 : left % p = 0
        · rw [if_pos h0] at hX
          have ht : ((left : Int) % (p : Int) == 0) = true := by
            have e : (left : Int) % (p : Int) = ((left % p : Nat) : Int) := rfl
            rw [e, h0]; rfl
          obtain rfl : X = 1 := hX.symm
          clear hX h0
          go_wp2_with fail
          go_loop [4] (fun lv => ∃ (q g : Nat), lv = .int .i64 q ∧ 1 ≤ q ∧ q ≤ 16 ∧ q < 2 ^ g ∧ g ≤ 5 ∧ Pl.stripN p g q = S) (fun lv => (intOf lv).toNat)
          case atStart => exact ⟨left, 5, rfl, hl1, hl2, by omega, by omega, HS.out⟩
          case round =>
            obtain ⟨q, g, rfl, hq1, hq2, hqg, hg, hqS⟩ := hrel
            obtain ⟨G, rfl⟩ : ∃ G, g = G + 1 := ⟨g - 1, by
              have : g ≠ 0 := fun e => by rw [e] at hqg; simp at hqg; omega
              omega⟩
            have hqS' : (if q % p = 0 then Pl.stripN p G (q / p) else q) = S := hqS
            by_cases hz : q % p = 0
            · rw [if_pos hz] at hqS'
              have htq : ((q : Int) % (p : Int) == 0) = true := by
                have e : (q : Int) % (p : Int) = ((q % p : Nat) : Int) := rfl
                rw [e, hz]; rfl
              have hd1 := Nat.div_add_mod q p
              have hdq : 1 ≤ q / p := Classical.byContradiction fun hno => by
                rw [Nat.eq_zero_of_not_pos hno, hz] at hd1; omega
              have hd2 : q / p < q := Nat.div_lt_self (by omega) (by omega)
              have hd3 : q / p < 2 ^ G := by
                have g1 : q / p ≤ q / 2 := Nat.div_le_div_left hp1 (by omega)
                rw [Nat.pow_succ] at hqg; omega
              have e1 : ((q : Int)).tdiv (p : Int) = ((q / p : Nat) : Int) := rfl
              have HQ := Lib.hid hqS'
              have HD3 := Lib.hid hd3
              clear hqS hqS' hz hd1 hqg hd3
              generalize q / p = Q at *
              have e2 : IntKind.i64.wrap (Q : Int) = (Q : Int) := IntWalk.i64_in _ (by omega)
              go_wp2_with fail
              go_round
              case rel => exact ⟨Q, G, rfl, hdq, by omega, HD3.out, by omega, HQ.out⟩
              case measure => simp [intOf]; omega
            · rw [if_neg hz] at hqS'
              have htq : ((q : Int) % (p : Int) == 0) = false := by
                have e : (q : Int) % (p : Int) = ((q % p : Nat) : Int) := rfl
                rw [e, beq_eq_false_iff_ne]; omega
              have HQ := Lib.hid hqS'
              clear hqS hqS' hz hqg
              go_wp2_with fail
              go_round
              case rel => exact ⟨C + 1, q, p + 1, by go_num, rfl, by go_num, hq1, by omega, by omega, by omega, by omega, F, by omega, by rw [HQ.out]; exact HCNT.out⟩
              case measure => simp [intOf]; omega
        · rw [if_neg h0] at hX
          have ht : ((left : Int) % (p : Int) == 0) = false := by
            have e : (left : Int) % (p : Int) = ((left % p : Nat) : Int) := rfl
            rw [e, beq_eq_false_iff_ne]; omega
          obtain rfl : X = 0 := hX.symm
          clear hX h0
          go_wp2_with fail
          go_loop [4] (fun lv => ∃ (q g : Nat), lv = .int .i64 q ∧ 1 ≤ q ∧ q ≤ 16 ∧ q < 2 ^ g ∧ g ≤ 5 ∧ Pl.stripN p g q = S) (fun lv => (intOf lv).toNat)
          case atStart => exact ⟨left, 5, rfl, hl1, hl2, by omega, by omega, HS.out⟩
          case round =>
            obtain ⟨q, g, rfl, hq1, hq2, hqg, hg, hqS⟩ := hrel
            obtain ⟨G, rfl⟩ : ∃ G, g = G + 1 := ⟨g - 1, by
              have : g ≠ 0 := fun e => by rw [e] at hqg; simp at hqg; omega
              omega⟩
            have hqS' : (if q % p = 0 then Pl.stripN p G (q / p) else q) = S := hqS
            by_cases hz : q % p = 0
            · rw [if_pos hz] at hqS'
              have htq : ((q : Int) % (p : Int) == 0) = true := by
                have e : (q : Int) % (p : Int) = ((q % p : Nat) : Int) := rfl
                rw [e, hz]; rfl
              have hd1 := Nat.div_add_mod q p
              have hdq : 1 ≤ q / p := Classical.byContradiction fun hno => by
                rw [Nat.eq_zero_of_not_pos hno, hz] at hd1; omega
              have hd2 : q / p < q := Nat.div_lt_self (by omega) (by omega)
              have hd3 : q / p < 2 ^ G := by
                have g1 : q / p ≤ q / 2 := Nat.div_le_div_left hp1 (by omega)
                rw [Nat.pow_succ] at hqg; omega
              have e1 : ((q : Int)).tdiv (p : Int) = ((q / p : Nat) : Int) := rfl
              have HQ := Lib.hid hqS'
              have HD3 := Lib.hid hd3
              clear hqS hqS' hz hd1 hqg hd3
              generalize q / p = Q at *
              have e2 : IntKind.i64.wrap (Q : Int) = (Q : Int) := IntWalk.i64_in _ (by omega)
              go_wp2_with fail
              go_round
              case rel => exact ⟨Q, G, rfl, hdq, by omega, HD3.out, by omega, HQ.out⟩
              case measure => simp [intOf]; omega
            · rw [if_neg hz] at hqS'
              have htq : ((q : Int) % (p : Int) == 0) = false := by
                have e : (q : Int) % (p : Int) = ((q % p : Nat) : Int) := rfl
                rw [e, beq_eq_false_iff_ne]; omega
              have HQ := Lib.hid hqS'
              clear hqS hqS' hz hqg
              go_wp2_with fail
              go_round
              case rel => exact ⟨C, q, p + 1, by go_num, rfl, by go_num, hq1, by omega, by omega, by omega, by omega, F, by omega, by rw [HQ.out]; exact HCNT.out⟩
              case measure => simp [intOf]; omega
      · have hi : ¬ (p : Int) ≤ (left : Int) := by omega
        obtain ⟨F, rfl⟩ : ∃ F, f = F + 1 := ⟨f - 1, by omega⟩
        rw [Pl.cntP, if_neg hle, Nat.add_zero] at hcnt
        have HCNT := Lib.hid hcnt
        clear hcnt
        go_wp2_with fail
        go_ret
        exact ⟨ret_int (by rw [HCNT.out]), rfl⟩
  · rw [Pl.primesI_no hB]
    have hB' : Pl.baseB b = false := by simpa using hB
    clear hB
    go_enter Try.func23, Try.ntmps23
    go_wp2_with (go_at_call 42; refine (specBaseOk _ _).mono ?_; rintro e w' ⟨rfl, rfl⟩; rw [hB'])
    go_ret
    exact ⟨rfl, rfl⟩

end Go.Proofs.Ytgdgafoaangmkaa
