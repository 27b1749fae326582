/-
  impl: the answer of a desk to a line that is no deed; impl.DeskLine.
-/
import Derived.Test.YtgkkoegfmhgcjaaGreatDoorLineM
namespace Go.Proofs.YtgkkoegfmhgcjaaGreatDoor
open Go.RowKit Go.Shelf Go.Maps

set_option maxRecDepth 100000 in
set_option maxHeartbeats 8000000 in
theorem implAnswer (b m : Int) (past : List Int) (pv : Value) (A : ByteArray) (w : World) (hok : Pl.okB m b = true) (hs : A.size ≤ 1000000000) (hL : LibOk w) :
    Calls Tryz.prog 52 #[.agg #[.int .i64 b, .int .i64 m, pv], .string A] w (AnsPost w (Pl.ansL ⟨b, m, past⟩ A.data.toList)) := by
  have b0 : Below w.heap.size w (w.alloc (.cells #[.int .i64 b, .int .i64 m, pv] 30)) := (Below.refl _ _).alloc (Nat.le_refl _) _
  have B0 := SBox.new w 30 #[.int .i64 b, .int .i64 m, pv]
  have HL := Lib.hid hL
  obtain ⟨R, hR⟩ : ∃ R, Pl.ansL ⟨b, m, past⟩ A.data.toList = R := ⟨_, rfl⟩
  rw [hR]
  have HRR := Lib.hid hR
  clear hL hR
  rcases Pl.ask_or A.data.toList with ⟨⟨j, hj⟩, hi⟩ | ⟨hno, hnone⟩
  · rcases j with _ | _ | _ | _ | _ | _ | _ | _ | _ | _ | j
    · -- number
      replace hi : A.data.toList = [110, 117, 109, 98, 101, 114] := hi
      have hE : Hid (R = Pl.ask1 ⟨b, m, past⟩ 0) := Lib.hid (by rw [← HRR.out, hi]; exact ansL_at _ _ 0 (by decide))
      have h1 : Maps.has qD1 (.string A.data.toList) = true := by rw [hi]; exact qD1_0.1
      have h2 : qD1.atKey (.string A.data.toList) (.lit (.bool false)) = .lit (.int .i64 (114 : Nat)) := by rw [hi]; exact qD1_0.2
      have HM : Hid (∀ W, LibOk W → Calls Tryz.prog 114 #[.agg #[.int .i64 b, .int .i64 m, pv]] W (AnsPost W R)) := Lib.hid (fun W h => by rw [hE.out]; exact impl_number b m pv W hok h)
      clear hi hj hE HRR
      go_enter Tryz.func52, Tryz.ntmps52
      go_wp2_with fail
      generalize w.alloc (.cells #[.int .i64 b, .int .i64 m, pv] 30) = W at *
      refine (implQuestions W).mono ?_
      rintro e w1 ⟨bm, rfl, hown, b1⟩
      have B1 := B0.kept b1
      have c1 := b0.trans (b1.mono b0.size)
      go_wp2_with (first | (refine wpList_look_hit 112 _ Tryz.underlying112 zeroFn1 rfl rfl _ _ rfl bm 10 qD1 rfl hown A hs rfl 114 h1 h2 ?_) | (refine desk_load rfl _ rfl rfl B1 ?_))
      refine (HM.out w1 (HL.out.below c1)).mono ?_
      rintro e w2 ⟨rfl, b2⟩
      have c2 := c1.trans (b2.mono c1.size)
      go_wp2
      go_ret
      exact ⟨rfl, c2⟩
    · -- digits
      replace hi : A.data.toList = [100, 105, 103, 105, 116, 115] := hi
      have hE : Hid (R = Pl.ask1 ⟨b, m, past⟩ 1) := Lib.hid (by rw [← HRR.out, hi]; exact ansL_at _ _ 1 (by decide))
      have h1 : Maps.has qD1 (.string A.data.toList) = true := by rw [hi]; exact qD1_1.1
      have h2 : qD1.atKey (.string A.data.toList) (.lit (.bool false)) = .lit (.int .i64 (115 : Nat)) := by rw [hi]; exact qD1_1.2
      have HM : Hid (∀ W, LibOk W → Calls Tryz.prog 115 #[.agg #[.int .i64 b, .int .i64 m, pv]] W (AnsPost W R)) := Lib.hid (fun W h => by rw [hE.out]; exact impl_digits b m pv W hok h)
      clear hi hj hE HRR
      go_enter Tryz.func52, Tryz.ntmps52
      go_wp2_with fail
      generalize w.alloc (.cells #[.int .i64 b, .int .i64 m, pv] 30) = W at *
      refine (implQuestions W).mono ?_
      rintro e w1 ⟨bm, rfl, hown, b1⟩
      have B1 := B0.kept b1
      have c1 := b0.trans (b1.mono b0.size)
      go_wp2_with (first | (refine wpList_look_hit 112 _ Tryz.underlying112 zeroFn1 rfl rfl _ _ rfl bm 10 qD1 rfl hown A hs rfl 115 h1 h2 ?_) | (refine desk_load rfl _ rfl rfl B1 ?_))
      refine (HM.out w1 (HL.out.below c1)).mono ?_
      rintro e w2 ⟨rfl, b2⟩
      have c2 := c1.trans (b2.mono c1.size)
      go_wp2
      go_ret
      exact ⟨rfl, c2⟩
    · -- root
      replace hi : A.data.toList = [114, 111, 111, 116] := hi
      have hE : Hid (R = Pl.ask1 ⟨b, m, past⟩ 2) := Lib.hid (by rw [← HRR.out, hi]; exact ansL_at _ _ 2 (by decide))
      have h1 : Maps.has qD1 (.string A.data.toList) = true := by rw [hi]; exact qD1_2.1
      have h2 : qD1.atKey (.string A.data.toList) (.lit (.bool false)) = .lit (.int .i64 (116 : Nat)) := by rw [hi]; exact qD1_2.2
      have HM : Hid (∀ W, LibOk W → Calls Tryz.prog 116 #[.agg #[.int .i64 b, .int .i64 m, pv]] W (AnsPost W R)) := Lib.hid (fun W h => by rw [hE.out]; exact impl_root b m pv W hok h)
      clear hi hj hE HRR
      go_enter Tryz.func52, Tryz.ntmps52
      go_wp2_with fail
      generalize w.alloc (.cells #[.int .i64 b, .int .i64 m, pv] 30) = W at *
      refine (implQuestions W).mono ?_
      rintro e w1 ⟨bm, rfl, hown, b1⟩
      have B1 := B0.kept b1
      have c1 := b0.trans (b1.mono b0.size)
      go_wp2_with (first | (refine wpList_look_hit 112 _ Tryz.underlying112 zeroFn1 rfl rfl _ _ rfl bm 10 qD1 rfl hown A hs rfl 116 h1 h2 ?_) | (refine desk_load rfl _ rfl rfl B1 ?_))
      refine (HM.out w1 (HL.out.below c1)).mono ?_
      rintro e w2 ⟨rfl, b2⟩
      have c2 := c1.trans (b2.mono c1.size)
      go_wp2
      go_ret
      exact ⟨rfl, c2⟩
    · -- round
      replace hi : A.data.toList = [114, 111, 117, 110, 100] := hi
      have hE : Hid (R = Pl.ask1 ⟨b, m, past⟩ 3) := Lib.hid (by rw [← HRR.out, hi]; exact ansL_at _ _ 3 (by decide))
      have h1 : Maps.has qD1 (.string A.data.toList) = true := by rw [hi]; exact qD1_3.1
      have h2 : qD1.atKey (.string A.data.toList) (.lit (.bool false)) = .lit (.int .i64 (117 : Nat)) := by rw [hi]; exact qD1_3.2
      have HM : Hid (∀ W, LibOk W → Calls Tryz.prog 117 #[.agg #[.int .i64 b, .int .i64 m, pv]] W (AnsPost W R)) := Lib.hid (fun W h => by rw [hE.out]; exact impl_round b m pv W hok h)
      clear hi hj hE HRR
      go_enter Tryz.func52, Tryz.ntmps52
      go_wp2_with fail
      generalize w.alloc (.cells #[.int .i64 b, .int .i64 m, pv] 30) = W at *
      refine (implQuestions W).mono ?_
      rintro e w1 ⟨bm, rfl, hown, b1⟩
      have B1 := B0.kept b1
      have c1 := b0.trans (b1.mono b0.size)
      go_wp2_with (first | (refine wpList_look_hit 112 _ Tryz.underlying112 zeroFn1 rfl rfl _ _ rfl bm 10 qD1 rfl hown A hs rfl 117 h1 h2 ?_) | (refine desk_load rfl _ rfl rfl B1 ?_))
      refine (HM.out w1 (HL.out.below c1)).mono ?_
      rintro e w2 ⟨rfl, b2⟩
      have c2 := c1.trans (b2.mono c1.size)
      go_wp2
      go_ret
      exact ⟨rfl, c2⟩
    · -- happy
      replace hi : A.data.toList = [104, 97, 112, 112, 121] := hi
      have hE : Hid (R = Pl.ask1 ⟨b, m, past⟩ 4) := Lib.hid (by rw [← HRR.out, hi]; exact ansL_at _ _ 4 (by decide))
      have h1 : Maps.has qD1 (.string A.data.toList) = true := by rw [hi]; exact qD1_4.1
      have h2 : qD1.atKey (.string A.data.toList) (.lit (.bool false)) = .lit (.int .i64 (118 : Nat)) := by rw [hi]; exact qD1_4.2
      have HM : Hid (∀ W, LibOk W → Calls Tryz.prog 118 #[.agg #[.int .i64 b, .int .i64 m, pv]] W (AnsPost W R)) := Lib.hid (fun W h => by rw [hE.out]; exact impl_happy b m pv W hok h)
      clear hi hj hE HRR
      go_enter Tryz.func52, Tryz.ntmps52
      go_wp2_with fail
      generalize w.alloc (.cells #[.int .i64 b, .int .i64 m, pv] 30) = W at *
      refine (implQuestions W).mono ?_
      rintro e w1 ⟨bm, rfl, hown, b1⟩
      have B1 := B0.kept b1
      have c1 := b0.trans (b1.mono b0.size)
      go_wp2_with (first | (refine wpList_look_hit 112 _ Tryz.underlying112 zeroFn1 rfl rfl _ _ rfl bm 10 qD1 rfl hown A hs rfl 118 h1 h2 ?_) | (refine desk_load rfl _ rfl rfl B1 ?_))
      refine (HM.out w1 (HL.out.below c1)).mono ?_
      rintro e w2 ⟨rfl, b2⟩
      have c2 := c1.trans (b2.mono c1.size)
      go_wp2
      go_ret
      exact ⟨rfl, c2⟩
    · -- palindrome
      replace hi : A.data.toList = [112, 97, 108, 105, 110, 100, 114, 111, 109, 101] := hi
      have hE : Hid (R = Pl.ask1 ⟨b, m, past⟩ 5) := Lib.hid (by rw [← HRR.out, hi]; exact ansL_at _ _ 5 (by decide))
      have h1 : Maps.has qD1 (.string A.data.toList) = true := by rw [hi]; exact qD1_5.1
      have h2 : qD1.atKey (.string A.data.toList) (.lit (.bool false)) = .lit (.int .i64 (119 : Nat)) := by rw [hi]; exact qD1_5.2
      have HM : Hid (∀ W, LibOk W → Calls Tryz.prog 119 #[.agg #[.int .i64 b, .int .i64 m, pv]] W (AnsPost W R)) := Lib.hid (fun W h => by rw [hE.out]; exact impl_palindrome b m pv W hok h)
      clear hi hj hE HRR
      go_enter Tryz.func52, Tryz.ntmps52
      go_wp2_with fail
      generalize w.alloc (.cells #[.int .i64 b, .int .i64 m, pv] 30) = W at *
      refine (implQuestions W).mono ?_
      rintro e w1 ⟨bm, rfl, hown, b1⟩
      have B1 := B0.kept b1
      have c1 := b0.trans (b1.mono b0.size)
      go_wp2_with (first | (refine wpList_look_hit 112 _ Tryz.underlying112 zeroFn1 rfl rfl _ _ rfl bm 10 qD1 rfl hown A hs rfl 119 h1 h2 ?_) | (refine desk_load rfl _ rfl rfl B1 ?_))
      refine (HM.out w1 (HL.out.below c1)).mono ?_
      rintro e w2 ⟨rfl, b2⟩
      have c2 := c1.trans (b2.mono c1.size)
      go_wp2
      go_ret
      exact ⟨rfl, c2⟩
    · -- self
      replace hi : A.data.toList = [115, 101, 108, 102] := hi
      have hE : Hid (R = Pl.ask1 ⟨b, m, past⟩ 6) := Lib.hid (by rw [← HRR.out, hi]; exact ansL_at _ _ 6 (by decide))
      have h1 : Maps.has qD1 (.string A.data.toList) = true := by rw [hi]; exact qD1_6.1
      have h2 : qD1.atKey (.string A.data.toList) (.lit (.bool false)) = .lit (.int .i64 (120 : Nat)) := by rw [hi]; exact qD1_6.2
      have HM : Hid (∀ W, LibOk W → Calls Tryz.prog 120 #[.agg #[.int .i64 b, .int .i64 m, pv]] W (AnsPost W R)) := Lib.hid (fun W h => by rw [hE.out]; exact impl_self b m pv W hok h)
      clear hi hj hE HRR
      go_enter Tryz.func52, Tryz.ntmps52
      go_wp2_with fail
      generalize w.alloc (.cells #[.int .i64 b, .int .i64 m, pv] 30) = W at *
      refine (implQuestions W).mono ?_
      rintro e w1 ⟨bm, rfl, hown, b1⟩
      have B1 := B0.kept b1
      have c1 := b0.trans (b1.mono b0.size)
      go_wp2_with (first | (refine wpList_look_hit 112 _ Tryz.underlying112 zeroFn1 rfl rfl _ _ rfl bm 10 qD1 rfl hown A hs rfl 120 h1 h2 ?_) | (refine desk_load rfl _ rfl rfl B1 ?_))
      refine (HM.out w1 (HL.out.below c1)).mono ?_
      rintro e w2 ⟨rfl, b2⟩
      have c2 := c1.trans (b2.mono c1.size)
      go_wp2
      go_ret
      exact ⟨rfl, c2⟩
    · -- persists
      replace hi : A.data.toList = [112, 101, 114, 115, 105, 115, 116, 115] := hi
      have hE : Hid (R = Pl.ask1 ⟨b, m, past⟩ 7) := Lib.hid (by rw [← HRR.out, hi]; exact ansL_at _ _ 7 (by decide))
      have h1 : Maps.has qD1 (.string A.data.toList) = true := by rw [hi]; exact qD1_7.1
      have h2 : qD1.atKey (.string A.data.toList) (.lit (.bool false)) = .lit (.int .i64 (121 : Nat)) := by rw [hi]; exact qD1_7.2
      have HM : Hid (∀ W, LibOk W → Calls Tryz.prog 121 #[.agg #[.int .i64 b, .int .i64 m, pv]] W (AnsPost W R)) := Lib.hid (fun W h => by rw [hE.out]; exact impl_persists b m pv W hok h)
      clear hi hj hE HRR
      go_enter Tryz.func52, Tryz.ntmps52
      go_wp2_with fail
      generalize w.alloc (.cells #[.int .i64 b, .int .i64 m, pv] 30) = W at *
      refine (implQuestions W).mono ?_
      rintro e w1 ⟨bm, rfl, hown, b1⟩
      have B1 := B0.kept b1
      have c1 := b0.trans (b1.mono b0.size)
      go_wp2_with (first | (refine wpList_look_hit 112 _ Tryz.underlying112 zeroFn1 rfl rfl _ _ rfl bm 10 qD1 rfl hown A hs rfl 121 h1 h2 ?_) | (refine desk_load rfl _ rfl rfl B1 ?_))
      refine (HM.out w1 (HL.out.below c1)).mono ?_
      rintro e w2 ⟨rfl, b2⟩
      have c2 := c1.trans (b2.mono c1.size)
      go_wp2
      go_ret
      exact ⟨rfl, c2⟩
    · -- noughts
      replace hi : A.data.toList = [110, 111, 117, 103, 104, 116, 115] := hi
      have hE : Hid (R = Pl.ask1 ⟨b, m, past⟩ 8) := Lib.hid (by rw [← HRR.out, hi]; exact ansL_at _ _ 8 (by decide))
      have h1 : Maps.has qD1 (.string A.data.toList) = true := by rw [hi]; exact qD1_8.1
      have h2 : qD1.atKey (.string A.data.toList) (.lit (.bool false)) = .lit (.int .i64 (122 : Nat)) := by rw [hi]; exact qD1_8.2
      have HM : Hid (∀ W, LibOk W → Calls Tryz.prog 122 #[.agg #[.int .i64 b, .int .i64 m, pv]] W (AnsPost W R)) := Lib.hid (fun W h => by rw [hE.out]; exact impl_noughts b m pv W hok h)
      clear hi hj hE HRR
      go_enter Tryz.func52, Tryz.ntmps52
      go_wp2_with fail
      generalize w.alloc (.cells #[.int .i64 b, .int .i64 m, pv] 30) = W at *
      refine (implQuestions W).mono ?_
      rintro e w1 ⟨bm, rfl, hown, b1⟩
      have B1 := B0.kept b1
      have c1 := b0.trans (b1.mono b0.size)
      go_wp2_with (first | (refine wpList_look_hit 112 _ Tryz.underlying112 zeroFn1 rfl rfl _ _ rfl bm 10 qD1 rfl hown A hs rfl 122 h1 h2 ?_) | (refine desk_load rfl _ rfl rfl B1 ?_))
      refine (HM.out w1 (HL.out.below c1)).mono ?_
      rintro e w2 ⟨rfl, b2⟩
      have c2 := c1.trans (b2.mono c1.size)
      go_wp2
      go_ret
      exact ⟨rfl, c2⟩
    · -- steps
      replace hi : A.data.toList = [115, 116, 101, 112, 115] := hi
      have hE : Hid (R = Pl.ask1 ⟨b, m, past⟩ 9) := Lib.hid (by rw [← HRR.out, hi]; exact ansL_at _ _ 9 (by decide))
      have h1 : Maps.has qD1 (.string A.data.toList) = true := by rw [hi]; exact qD1_9.1
      have h2 : qD1.atKey (.string A.data.toList) (.lit (.bool false)) = .lit (.int .i64 (123 : Nat)) := by rw [hi]; exact qD1_9.2
      have HM : Hid (∀ W, LibOk W → Calls Tryz.prog 123 #[.agg #[.int .i64 b, .int .i64 m, pv]] W (AnsPost W R)) := Lib.hid (fun W h => by rw [hE.out]; exact impl_steps b m pv W hok h)
      clear hi hj hE HRR
      go_enter Tryz.func52, Tryz.ntmps52
      go_wp2_with fail
      generalize w.alloc (.cells #[.int .i64 b, .int .i64 m, pv] 30) = W at *
      refine (implQuestions W).mono ?_
      rintro e w1 ⟨bm, rfl, hown, b1⟩
      have B1 := B0.kept b1
      have c1 := b0.trans (b1.mono b0.size)
      go_wp2_with (first | (refine wpList_look_hit 112 _ Tryz.underlying112 zeroFn1 rfl rfl _ _ rfl bm 10 qD1 rfl hown A hs rfl 123 h1 h2 ?_) | (refine desk_load rfl _ rfl rfl B1 ?_))
      refine (HM.out w1 (HL.out.below c1)).mono ?_
      rintro e w2 ⟨rfl, b2⟩
      have c2 := c1.trans (b2.mono c1.size)
      go_wp2
      go_ret
      exact ⟨rfl, c2⟩
    · exact absurd hj (by omega)
  · have h1 : Maps.has qD1 (.string A.data.toList) = false := qD1_no _ hno
    have hRL : Hid (R = Pl.restL ⟨b, m, past⟩ A.data.toList) := Lib.hid (by rw [← HRR.out, Pl.ansL_rest _ hnone])
    have HC := Lib.hid (fun W => libCut A 32 hs W)
    have hX : (Pl.cut1 32 A.data.toList).2.1.length ≤ 1000000000 ∧ (Pl.cut1 32 A.data.toList).1.length ≤ 1000000000 := by
      have hl := Pl.data_len A
      rcases Pl.cut1_cases 32 A.data.toList with ⟨_, h2⟩ | ⟨l, r, _, h2, h3⟩
      · rw [h2]; exact ⟨by simp, by simp only; omega⟩
      · rw [h3]
        rw [h2] at hl
        simp only [List.length_append, List.length_cons] at hl
        exact ⟨by simp only; omega, by simp only; omega⟩
    rw [Pl.restL] at hRL
    generalize (Pl.cut1 32 A.data.toList).1 = x at *
    generalize (Pl.cut1 32 A.data.toList).2.2 = fnd at *
    generalize (Pl.cut1 32 A.data.toList).2.1 = y at *
    obtain ⟨hY, hXl⟩ := hX
    have hXs : (Pl.str x).size ≤ 1000000000 := by rw [Pl.str_size]; exact hXl
    have HW := Lib.hid (fun W h => implReadWhole y hY W h)
    have hNB := Pl.whI_le y
    generalize Pl.whI y = N at *
    cases hwh : Pl.whB y
    all_goals
      rw [hwh] at hRL HW
    · -- the number: none
      have hE : Hid (R = Pl.whatW) := Lib.hid (by rw [hRL.out, if_neg (by decide)])
      by_cases hxc : x = Pl.carriesW
      · have k1 : Maps.has qD2 (.string (Pl.str x).data.toList) = true := by rw [Pl.str_data, hxc]; exact qD2_0.1
        have k2 : qD2.atKey (.string (Pl.str x).data.toList) (.lit (.bool false)) = .lit (.int .i64 (124 : Nat)) := by rw [Pl.str_data, hxc]; exact qD2_0.2
        clear hwh hRL hxc
        go_enter Tryz.func52, Tryz.ntmps52
        go_wp2_with fail
        generalize w.alloc (.cells #[.int .i64 b, .int .i64 m, pv] 30) = W at *
        refine (implQuestions W).mono ?_
        rintro e w1 ⟨bm, rfl, hown, b1⟩
        have B1 := B0.kept b1
        have c1 := b0.trans (b1.mono b0.size)
        go_wp2_with (first | (refine wpList_look_miss 112 _ Tryz.underlying112 zeroFn1 rfl rfl _ _ rfl bm 10 qD1 rfl hown A hs rfl h1 ?_; intro v1))
        refine (HC.out w1).mono ?_
        rintro e w2 ⟨rfl, b2⟩
        have B2 := B1.kept b2
        have c2 := c1.trans (b2.mono c1.size)
        go_wp2_with fail
        refine (HW.out w2 (HL.out.below c2)).mono ?_
        rintro e w3 ⟨rfl, b3⟩
        have B3 := B2.kept b3
        have c3 := c2.trans (b3.mono c2.size)
        go_wp2_with fail
        refine (implQuestionsN w3).mono ?_
        rintro e w4 ⟨bn, rfl, hown4, b4⟩
        have B4 := B3.kept b4
        have c4 := c3.trans (b4.mono c3.size)
        clear b0 b1 b2 b3 b4 B0 B1 B2 B3 c1 c2 c3 hown
        go_wp2_with (first | (refine wpList_look_hit 116 _ Tryz.underlying116 zeroFn2 rfl rfl _ _ rfl bn 2 qD2 rfl hown4 (Pl.str x) hXs rfl 124 k1 k2 ?_))
        go_ret
        exact ⟨by rw [hE.out]; rfl, c4⟩
      · by_cases hxo : x = Pl.oneW
        · have k1 : Maps.has qD2 (.string (Pl.str x).data.toList) = true := by rw [Pl.str_data, hxo]; exact qD2_1.1
          have k2 : qD2.atKey (.string (Pl.str x).data.toList) (.lit (.bool false)) = .lit (.int .i64 (125 : Nat)) := by rw [Pl.str_data, hxo]; exact qD2_1.2
          clear hwh hRL hxc hxo
          go_enter Tryz.func52, Tryz.ntmps52
          go_wp2_with fail
          generalize w.alloc (.cells #[.int .i64 b, .int .i64 m, pv] 30) = W at *
          refine (implQuestions W).mono ?_
          rintro e w1 ⟨bm, rfl, hown, b1⟩
          have B1 := B0.kept b1
          have c1 := b0.trans (b1.mono b0.size)
          go_wp2_with (first | (refine wpList_look_miss 112 _ Tryz.underlying112 zeroFn1 rfl rfl _ _ rfl bm 10 qD1 rfl hown A hs rfl h1 ?_; intro v1))
          refine (HC.out w1).mono ?_
          rintro e w2 ⟨rfl, b2⟩
          have B2 := B1.kept b2
          have c2 := c1.trans (b2.mono c1.size)
          go_wp2_with fail
          refine (HW.out w2 (HL.out.below c2)).mono ?_
          rintro e w3 ⟨rfl, b3⟩
          have B3 := B2.kept b3
          have c3 := c2.trans (b3.mono c2.size)
          go_wp2_with fail
          refine (implQuestionsN w3).mono ?_
          rintro e w4 ⟨bn, rfl, hown4, b4⟩
          have B4 := B3.kept b4
          have c4 := c3.trans (b4.mono c3.size)
          clear b0 b1 b2 b3 b4 B0 B1 B2 B3 c1 c2 c3 hown
          go_wp2_with (first | (refine wpList_look_hit 116 _ Tryz.underlying116 zeroFn2 rfl rfl _ _ rfl bn 2 qD2 rfl hown4 (Pl.str x) hXs rfl 125 k1 k2 ?_))
          go_ret
          exact ⟨by rw [hE.out]; rfl, c4⟩
        · have k1 : Maps.has qD2 (.string (Pl.str x).data.toList) = false := by rw [Pl.str_data]; exact qD2_no x hxc hxo
          clear hwh hRL hxc hxo
          go_enter Tryz.func52, Tryz.ntmps52
          go_wp2_with fail
          generalize w.alloc (.cells #[.int .i64 b, .int .i64 m, pv] 30) = W at *
          refine (implQuestions W).mono ?_
          rintro e w1 ⟨bm, rfl, hown, b1⟩
          have B1 := B0.kept b1
          have c1 := b0.trans (b1.mono b0.size)
          go_wp2_with (first | (refine wpList_look_miss 112 _ Tryz.underlying112 zeroFn1 rfl rfl _ _ rfl bm 10 qD1 rfl hown A hs rfl h1 ?_; intro v1))
          refine (HC.out w1).mono ?_
          rintro e w2 ⟨rfl, b2⟩
          have B2 := B1.kept b2
          have c2 := c1.trans (b2.mono c1.size)
          go_wp2_with fail
          refine (HW.out w2 (HL.out.below c2)).mono ?_
          rintro e w3 ⟨rfl, b3⟩
          have B3 := B2.kept b3
          have c3 := c2.trans (b3.mono c2.size)
          go_wp2_with fail
          refine (implQuestionsN w3).mono ?_
          rintro e w4 ⟨bn, rfl, hown4, b4⟩
          have B4 := B3.kept b4
          have c4 := c3.trans (b4.mono c3.size)
          clear b0 b1 b2 b3 b4 B0 B1 B2 B3 c1 c2 c3 hown
          go_wp2_with (first | (refine wpList_look_miss 116 _ Tryz.underlying116 zeroFn2 rfl rfl _ _ rfl bn 2 qD2 rfl hown4 (Pl.str x) hXs rfl k1 ?_; intro v4))
          go_ret
          exact ⟨by rw [hE.out]; rfl, c4⟩
    · -- the number: told
      by_cases hxc : x = Pl.carriesW
      · have k1 : Maps.has qD2 (.string (Pl.str x).data.toList) = true := by rw [Pl.str_data, hxc]; exact qD2_0.1
        have k2 : qD2.atKey (.string (Pl.str x).data.toList) (.lit (.bool false)) = .lit (.int .i64 (124 : Nat)) := by rw [Pl.str_data, hxc]; exact qD2_0.2
        have hE : Hid (R = Pl.decI (Pl.carI m N b)) := Lib.hid (by rw [hRL.out, if_pos rfl, Pl.ask2, if_pos hxc])
        clear hwh hRL hxc
        have HM : Hid (∀ W, LibOk W → Calls Tryz.prog 124 #[.agg #[.int .i64 b, .int .i64 m, pv], .int .i64 N] W (AnsPost W R)) := Lib.hid (fun W h => by rw [hE.out]; exact impl_carries b m N pv W hok hNB h)
        clear hE
        go_enter Tryz.func52, Tryz.ntmps52
        go_wp2_with fail
        generalize w.alloc (.cells #[.int .i64 b, .int .i64 m, pv] 30) = W at *
        refine (implQuestions W).mono ?_
        rintro e w1 ⟨bm, rfl, hown, b1⟩
        have B1 := B0.kept b1
        have c1 := b0.trans (b1.mono b0.size)
        go_wp2_with (first | (refine wpList_look_miss 112 _ Tryz.underlying112 zeroFn1 rfl rfl _ _ rfl bm 10 qD1 rfl hown A hs rfl h1 ?_; intro v1))
        refine (HC.out w1).mono ?_
        rintro e w2 ⟨rfl, b2⟩
        have B2 := B1.kept b2
        have c2 := c1.trans (b2.mono c1.size)
        go_wp2_with fail
        refine (HW.out w2 (HL.out.below c2)).mono ?_
        rintro e w3 ⟨rfl, b3⟩
        have B3 := B2.kept b3
        have c3 := c2.trans (b3.mono c2.size)
        go_wp2_with fail
        refine (implQuestionsN w3).mono ?_
        rintro e w4 ⟨bn, rfl, hown4, b4⟩
        have B4 := B3.kept b4
        have c4 := c3.trans (b4.mono c3.size)
        clear b0 b1 b2 b3 b4 B0 B1 B2 B3 c1 c2 c3 hown
        go_wp2_with (first | (refine wpList_look_hit 116 _ Tryz.underlying116 zeroFn2 rfl rfl _ _ rfl bn 2 qD2 rfl hown4 (Pl.str x) hXs rfl 124 k1 k2 ?_) | (refine desk_load rfl _ rfl rfl B4 ?_))
        refine (HM.out w4 (HL.out.below c4)).mono ?_
        rintro e w5 ⟨rfl, b5⟩
        have c5 := c4.trans (b5.mono c4.size)
        go_wp2
        go_ret
        exact ⟨rfl, c5⟩
      · by_cases hxo : x = Pl.oneW
        · have k1 : Maps.has qD2 (.string (Pl.str x).data.toList) = true := by rw [Pl.str_data, hxo]; exact qD2_1.1
          have k2 : qD2.atKey (.string (Pl.str x).data.toList) (.lit (.bool false)) = .lit (.int .i64 (125 : Nat)) := by rw [Pl.str_data, hxo]; exact qD2_1.2
          have hE : Hid (R = Pl.rowT (Pl.roundP 1 N b)) := Lib.hid (by rw [hRL.out, if_pos rfl, Pl.ask2, if_neg hxc, if_pos hxo])
          clear hwh hRL hxc hxo
          have HM : Hid (∀ W, LibOk W → Calls Tryz.prog 125 #[.agg #[.int .i64 b, .int .i64 m, pv], .int .i64 N] W (AnsPost W R)) := Lib.hid (fun W h => by rw [hE.out]; exact impl_one b m N pv W h)
          clear hE
          go_enter Tryz.func52, Tryz.ntmps52
          go_wp2_with fail
          generalize w.alloc (.cells #[.int .i64 b, .int .i64 m, pv] 30) = W at *
          refine (implQuestions W).mono ?_
          rintro e w1 ⟨bm, rfl, hown, b1⟩
          have B1 := B0.kept b1
          have c1 := b0.trans (b1.mono b0.size)
          go_wp2_with (first | (refine wpList_look_miss 112 _ Tryz.underlying112 zeroFn1 rfl rfl _ _ rfl bm 10 qD1 rfl hown A hs rfl h1 ?_; intro v1))
          refine (HC.out w1).mono ?_
          rintro e w2 ⟨rfl, b2⟩
          have B2 := B1.kept b2
          have c2 := c1.trans (b2.mono c1.size)
          go_wp2_with fail
          refine (HW.out w2 (HL.out.below c2)).mono ?_
          rintro e w3 ⟨rfl, b3⟩
          have B3 := B2.kept b3
          have c3 := c2.trans (b3.mono c2.size)
          go_wp2_with fail
          refine (implQuestionsN w3).mono ?_
          rintro e w4 ⟨bn, rfl, hown4, b4⟩
          have B4 := B3.kept b4
          have c4 := c3.trans (b4.mono c3.size)
          clear b0 b1 b2 b3 b4 B0 B1 B2 B3 c1 c2 c3 hown
          go_wp2_with (first | (refine wpList_look_hit 116 _ Tryz.underlying116 zeroFn2 rfl rfl _ _ rfl bn 2 qD2 rfl hown4 (Pl.str x) hXs rfl 125 k1 k2 ?_) | (refine desk_load rfl _ rfl rfl B4 ?_))
          refine (HM.out w4 (HL.out.below c4)).mono ?_
          rintro e w5 ⟨rfl, b5⟩
          have c5 := c4.trans (b5.mono c4.size)
          go_wp2
          go_ret
          exact ⟨rfl, c5⟩
        · have k1 : Maps.has qD2 (.string (Pl.str x).data.toList) = false := by rw [Pl.str_data]; exact qD2_no x hxc hxo
          have hE : Hid (R = Pl.whatW) := Lib.hid (by rw [hRL.out, if_pos rfl, Pl.ask2, if_neg hxc, if_neg hxo])
          clear hwh hRL hxc hxo
          go_enter Tryz.func52, Tryz.ntmps52
          go_wp2_with fail
          generalize w.alloc (.cells #[.int .i64 b, .int .i64 m, pv] 30) = W at *
          refine (implQuestions W).mono ?_
          rintro e w1 ⟨bm, rfl, hown, b1⟩
          have B1 := B0.kept b1
          have c1 := b0.trans (b1.mono b0.size)
          go_wp2_with (first | (refine wpList_look_miss 112 _ Tryz.underlying112 zeroFn1 rfl rfl _ _ rfl bm 10 qD1 rfl hown A hs rfl h1 ?_; intro v1))
          refine (HC.out w1).mono ?_
          rintro e w2 ⟨rfl, b2⟩
          have B2 := B1.kept b2
          have c2 := c1.trans (b2.mono c1.size)
          go_wp2_with fail
          refine (HW.out w2 (HL.out.below c2)).mono ?_
          rintro e w3 ⟨rfl, b3⟩
          have B3 := B2.kept b3
          have c3 := c2.trans (b3.mono c2.size)
          go_wp2_with fail
          refine (implQuestionsN w3).mono ?_
          rintro e w4 ⟨bn, rfl, hown4, b4⟩
          have B4 := B3.kept b4
          have c4 := c3.trans (b4.mono c3.size)
          clear b0 b1 b2 b3 b4 B0 B1 B2 B3 c1 c2 c3 hown
          go_wp2_with (first | (refine wpList_look_miss 116 _ Tryz.underlying116 zeroFn2 rfl rfl _ _ rfl bn 2 qD2 rfl hown4 (Pl.str x) hXs rfl k1 ?_; intro v4))
          go_ret
          exact ⟨by rw [hE.out]; rfl, c4⟩

end Go.Proofs.YtgkkoegfmhgcjaaGreatDoor
