/-
  Ends made longer: the method longer of the program; LongerEnd.
-/
import Derived.Test.YtgdgafoaangmkaaEndSize
import Derived.Test.YtgdgafoaangmkaaAppendRow
namespace Go.Proofs.Ytgdgafoaangmkaa
open Go.RowKit Go.Shelf

set_option maxHeartbeats 2000000 in
theorem sizeLonger (L k n : Nat) (h1 : L ≤ 3) (h2 : 2 ≤ k) (h3 : k ≤ 16) (hn : n < k ^ L) (w : World) :
    Calls Try.prog 45 #[.agg #[.int .i64 L, .int .i64 k], .int .i64 n] w (ListPost w ((Pl.longTo k L n k).map fun d : Nat => (d : Int))) := by
  have hP := Pl.pow_le16 (b := k) (L := L) h3 (by omega)
  have hPQ : k ^ (L + 1) ≤ 65536 := Pl.pow_le16 h3 (by omega)
  have HPW := Lib.hid (sizePower L k (by omega) h3)
  have HLV : Hid (∀ m : Nat, m < k → ∀ W, Calls Try.prog 40 #[.agg #[.int .i64 ((L : Int) + 1), .int .i64 k], .int .i64 ((m * k ^ L + n : Nat) : Int)] W fun e w' => e = .returned (.bool (decide ((m * k ^ L + n) * (m * k ^ L + n) % k ^ (L + 1) = m * k ^ L + n))) ∧ Below W.heap.size W w') := Lib.hid fun m hm W => by
    have := Pl.made_lt hn hm
    exact sizeLeaves (L + 1) k (m * k ^ L + n) (by omega) (by omega) h3 (by omega) W
  have HSUC := Lib.hid (fun m => Pl.longTo_succ k L n m)
  have HLEN := Lib.hid (fun m => Pl.longTo_len k L n m)
  have hn' : n ≤ 65536 := by omega
  obtain ⟨i0, hi0, hz0, hz1, hz2⟩ := info_parts info_int
  clear hPQ hn
  generalize hPe : k ^ L = P at *
  clear hPe
  have hL1 : IntKind.i64.wrap ((L : Int) + 1) = (L : Int) + 1 := IntWalk.i64_in _ (by omega)
  have HN1 := SizeBox.new w (L : Int) (k : Int)
  have HN2 := SizeBox.new (w.alloc (.cells #[.int .i64 L, .int .i64 k] 47)) 0 0
  have hN1 := HN1.below (W' := (w.alloc (.cells #[.int .i64 L, .int .i64 k] 47)).alloc (.cells #[.int .i64 0, .int .i64 0] 47)) ((Below.refl (w.heap.size + 1) _).alloc (by simp) _) (by omega)
  have HB0 : Below w.heap.size w ((w.alloc (.cells #[.int .i64 L, .int .i64 k] 47)).alloc (.cells #[.int .i64 0, .int .i64 0] 47)) := ((Below.refl _ w).alloc (Nat.le_refl _) _).alloc (by simp) _
  rw [World.size_alloc] at HN2
  have HS0 := Lib.hid HN2
  have HS1 := Lib.hid hN1
  clear HN2 hN1
  clear HN1
  go_enter Try.func45, Try.ntmps45
  go_wp2_with (refine size_store rfl (.tmp 5) (.tmp 14) rfl rfl rfl HS0.out ?_; intro w1 hA1 hb1 hz1; have HA1 := Lib.hid hA1; have HC1 := Lib.hid (HS1.out.below (hb1 (w.heap.size + 1) (Nat.le_refl _)) (by omega)); have hB1 := HB0.trans (hb1 _ (by omega)); obtain ⟨p0, p1⟩ := HC1.out.cells; clear hA1 hb1)
  clear p0 p1 HB0 HS0 HS1
  have hz : w.heap.size + 2 ≤ w1.heap.size := by rw [hz1]; simp
  clear hz1
  go_loopw [6, 7, 8, 17] (fun ov _ _ iv wr => ∃ (m : Nat) (vv : Value), vv = ov ∧ m ≤ k ∧ iv = .int .i64 m ∧ Row (w.heap.size + 2) wr vv ((Pl.longTo k L n m).map fun d : Nat => (d : Int)) ∧ Below (w.heap.size + 2) w1 wr) (fun _ _ _ iv _ => k - (intOf iv).toNat)
  case atStart => exact ⟨0, _, rfl, by omega, rfl, World.ownsRow_nil _ _ _ _, Below.refl _ _⟩
  case round =>
    obtain ⟨m, vv, rfl, hm, rfl, hr, hbw⟩ := hrel
    by_cases hlt : m < k
    · have hi : (m : Int) < (k : Int) := by omega
      have hsz := hbw.size
      have HC2 := HC1.out.below hbw (by omega)
      have HA2 := HA1.out.below hbw (by omega)
      obtain ⟨p0, p1⟩ := HC2.cells
      obtain ⟨q0, q1⟩ := HA2.cells
      have HA2h := Lib.hid HA2
      have HV := HLV.out m hlt
      have hs := HSUC.out m
      have hln := HLEN.out m
      have hmp : m * P ≤ 16 * 65536 := Nat.mul_le_mul (by omega) hP
      have e1 : IntKind.i64.wrap ((m : Int) * (P : Int)) = ((m * P : Nat) : Int) := by
        rw [← Int.natCast_mul]; exact IntWalk.i64_in _ (by omega)
      clear HC2 HA2
      by_cases hp : (m * P + n) * (m * P + n) % k ^ (L + 1) = m * P + n
      · rw [if_pos hp] at hs
        rw [decide_eq_true hp] at HV
        have HS : Hid ((Pl.longTo k L n (m + 1)).map (fun d : Nat => (d : Int)) = (Pl.longTo k L n m).map (fun d : Nat => (d : Int)) ++ [((m * P + n : Nat) : Int)]) := Lib.hid (by rw [hs, List.map_append]; rfl)
        have hll : ((Pl.longTo k L n m).map fun d : Nat => (d : Int)).length ≤ 16 := by rw [List.length_map]; omega
        clear hs hp hln
        generalize (Pl.longTo k L n m).map (fun d : Nat => (d : Int)) = X at *
        generalize hM : m * P + n = M at *
        obtain ⟨QQ, hQQ⟩ : ∃ QQ : Int, ((m * P : Nat) : Int) = QQ := ⟨_, rfl⟩
        have hb2 : 0 ≤ QQ ∧ QQ ≤ 1048576 := by omega
        have hMQ : (M : Int) = QQ + (n : Int) := by omega
        rw [hQQ] at e1
        rw [hMQ] at HV
        have HMQ := Lib.hid hMQ
        obtain ⟨hq1, hq2⟩ := hb2
        have HR := Lib.hid hr
        clear hr hM hQQ hmp hMQ hP
        go_wp2_with fail
        refine (HPW.out _).mono ?_
        rintro e w2 ⟨rfl, b2⟩
        have HA3 := Lib.hid (HA2h.out.below b2 (by omega))
        obtain ⟨r0, r1⟩ := HA3.out.cells
        have HR2 := Lib.hid (Row.below HR.out b2)
        have hy2 := b2.size
        have hbw2 := hbw.trans (b2.mono (by omega))
        clear p0 p1 q0 q1 b2 HR
        go_wp2_with fail
        refine (HV _).mono ?_
        rintro e w3 ⟨rfl, b3⟩
        have hy3 := b3.size
        have hbw3 := hbw2.trans (b3.mono (by omega))
        have HR3 := Lib.hid (Row.below HR2.out b3)
        clear b3 r0 r1 HR2 hbw hbw2
        have hr' : w3.ownsRow (w.heap.size + 2) 3 1 vv X.length (X.map (Value.int .i64)) := HR3.out
        go_wp2_with (at_builtin; refine wpList_append_own _ rfl _ _ 30 rfl (w.heap.size + 2) 3 i0 (.int .i64 0) 1 8 Try.underlying30 hi0 hz0 hz1 hz2 rfl (by decide) _ _ _ rfl (hr'.alloc _) ⟨w3.heap.size, 0, none⟩ 1 1 [.int .i64 (QQ + (n : Int))] rfl rfl (cell_one_new _ _ _) (by simp [Value.oneCell']) (by unfold maxLen; omega) (by omega) (by simp; omega) ?_; intro v2 w4 hown1 hgrow1 _)
        go_roundw
        case rel => exact ⟨m + 1, _, rfl, by omega, by go_num, by rw [HS.out, HMQ.out]; exact row_snoc hown1, below_append (hbw3.alloc (by omega) _) (hr'.alloc _) hgrow1 (by omega)⟩
        case measure => simp [intOf]; omega
      · rw [if_neg hp, List.append_nil] at hs
        rw [decide_eq_false hp] at HV
        have HS : Hid ((Pl.longTo k L n (m + 1)).map (fun d : Nat => (d : Int)) = (Pl.longTo k L n m).map (fun d : Nat => (d : Int))) := Lib.hid (by rw [hs])
        clear hs hp hln
        generalize (Pl.longTo k L n m).map (fun d : Nat => (d : Int)) = X at *
        generalize hM : m * P + n = M at *
        obtain ⟨QQ, hQQ⟩ : ∃ QQ : Int, ((m * P : Nat) : Int) = QQ := ⟨_, rfl⟩
        have hb2 : 0 ≤ QQ ∧ QQ ≤ 1048576 := by omega
        have hMQ : (M : Int) = QQ + (n : Int) := by omega
        rw [hQQ] at e1
        rw [hMQ] at HV
        have HMQ := Lib.hid hMQ
        obtain ⟨hq1, hq2⟩ := hb2
        have HR := Lib.hid hr
        clear hr hM hQQ hmp hMQ hP
        go_wp2_with fail
        refine (HPW.out _).mono ?_
        rintro e w2 ⟨rfl, b2⟩
        have HA3 := Lib.hid (HA2h.out.below b2 (by omega))
        obtain ⟨r0, r1⟩ := HA3.out.cells
        have HR2 := Lib.hid (Row.below HR.out b2)
        have hy2 := b2.size
        have hbw2 := hbw.trans (b2.mono (by omega))
        clear p0 p1 q0 q1 b2 HR
        go_wp2_with fail
        refine (HV _).mono ?_
        rintro e w3 ⟨rfl, b3⟩
        have hy3 := b3.size
        have hbw3 := hbw2.trans (b3.mono (by omega))
        have HR3 := Lib.hid (Row.below HR2.out b3)
        clear b3 r0 r1 HR2 hbw hbw2
        go_wp2_with fail
        go_roundw
        case rel => exact ⟨m + 1, _, rfl, by omega, by go_num, by rw [HS.out]; exact HR3.out, hbw3⟩
        case measure => simp [intOf]; omega
    · obtain rfl : m = k := by omega
      have hi : ¬ (m : Int) < (m : Int) := by omega
      have HR := Lib.hid hr
      have hB2 := hB1.trans (hbw.mono (by omega))
      clear hr
      go_wp2_with fail
      go_ret
      exact ⟨_, rfl, Row.mono HR.out (by omega), hB2⟩

set_option maxHeartbeats 800000 in
theorem implOtherEnd (n l b : Int) (w : World) :
    Calls Try.prog 25 #[.int .i64 n, .int .i64 l, .int .i64 b] w fun e w' => e = .returned (.int .i64 (Pl.otherI n l b)) ∧ Below w.heap.size w w' := by
  have HE := Lib.hid (implEndOk n l b)
  by_cases h : Pl.endB n l b = true
  · have h' := h
    obtain ⟨x, L, k, rfl, rfl, rfl, h1, h2, h3, h4, h5⟩ := Pl.endB_nat h
    rw [Pl.otherI_yes h']
    rw [h'] at HE
    have hP := Pl.pow_le16 (b := k) (L := L) h4 h2
    have hP2 : 2 ≤ k ^ L := by
      have := Nat.pow_le_pow_right (show 0 < k by omega) h1
      rw [Nat.pow_one] at this; omega
    have HPW := Lib.hid (sizePower L k h2 h4)
    have hx := h5.1
    have HO := Lib.hid (Pl.other_rest hP2 hx)
    clear h h' h5
    generalize k ^ L = P at *
    generalize Pl.otherN P x = O at *
    obtain ⟨PI, hPI⟩ : ∃ PI : Int, (P : Int) = PI := ⟨_, rfl⟩
    have hp0 : (PI == 0) = false := by rw [beq_eq_false_iff_ne]; omega
    have e1 : (PI + 1 - (x : Int)).tmod PI = ((O : Nat) : Int) := by
      rw [← HO.out, ← hPI, show (P : Int) + 1 - (x : Int) = ((P + 1 - x : Nat) : Int) by omega]; rfl
    have hb1 : 2 ≤ PI ∧ PI ≤ 65536 ∧ (x : Int) < PI := by omega
    rw [hPI] at HPW
    obtain ⟨q1, q2, q3⟩ := hb1
    have e2 : (PI + 1 - (x : Int)) % PI = ((O : Nat) : Int) := by
      rw [← HO.out, ← hPI, show (P : Int) + 1 - (x : Int) = ((P + 1 - x : Nat) : Int) by omega]; rfl
    clear hPI hP hP2 hx HO
    go_enter Try.func25, Try.ntmps25
    go_wp2_with fail
    refine (HE.out _).mono ?_
    rintro e w1 ⟨rfl, b1⟩
    go_wp2_with fail
    refine (HPW.out _).mono ?_
    rintro e w2 ⟨rfl, b2⟩
    go_wp2
    go_ret
    exact ⟨rfl, b1.trans (b2.mono b1.size)⟩
  · rw [Pl.otherI_no h]
    rw [Bool.eq_false_iff.2 h] at HE
    clear h
    go_enter Try.func25, Try.ntmps25
    go_wp2_with fail
    refine (HE.out _).mono ?_
    rintro e w1 ⟨rfl, b1⟩
    go_wp2
    go_ret
    exact ⟨rfl, b1⟩

set_option maxHeartbeats 800000 in
theorem implLongerEnd (n l b : Int) (w : World) :
    Calls Try.prog 28 #[.int .i64 n, .int .i64 l, .int .i64 b] w fun e w' => e = .returned (.tuple #[.int .i64 (Pl.wV (Pl.longerO n l b)), .bool (Pl.wB (Pl.longerO n l b))]) ∧ Below w.heap.size w w' := by
  have HE := Lib.hid (implEndOk n l b)
  by_cases h3l : l ≤ 3
  · have hi0 : ¬ (4 : Int) ≤ l := by omega
    by_cases h : Pl.endB n l b = true
    · have h' := h
      obtain ⟨x, L, k, rfl, rfl, rfl, h1, h2, h3, h4, h5⟩ := Pl.endB_nat h
      rw [Pl.longerO_yes h' (by omega)]
      rw [h'] at HE
      have HL := Lib.hid (sizeLonger L k x (by omega) h3 h4 h5.1)
      rw [Pl.longTo_one h3 h4 h1 (by omega) h5] at HL
      clear h h' h5 h3l
      generalize Pl.longerN k L x = M at *
      go_enter Try.func28, Try.ntmps28
      go_wp2_with fail
      refine (HE.out _).mono ?_
      rintro e w1 ⟨rfl, b1⟩
      go_wp2_with fail
      refine (HL.out _).mono ?_
      rintro e w2 ⟨v, rfl, r2, b2⟩
      obtain ⟨g, cap, rfl, _, _, _, _, hc⟩ := r2.lies (by simp)
      have c0 := hc 0 (by simp)
      simp only [List.map_cons, List.map_nil, List.length_cons, List.length_nil, List.getElem?_cons_zero, Option.getD_some, Nat.zero_add] at c0 ⊢
      have hb2 := b1.trans (b2.mono b1.size)
      clear hc r2 b1 b2
      go_wp2
      go_ret2
      exact ⟨rfl, hb2⟩
    · rw [Pl.longerO_no (fun hh => h hh.1)]
      rw [Bool.eq_false_iff.2 h] at HE
      clear h h3l
      go_enter Try.func28, Try.ntmps28
      go_wp2_with fail
      refine (HE.out _).mono ?_
      rintro e w1 ⟨rfl, b1⟩
      go_wp2
      go_ret2
      exact ⟨rfl, b1⟩
  · rw [Pl.longerO_no (fun hh => h3l hh.2)]
    have hi0 : (4 : Int) ≤ l := by omega
    clear h3l
    go_enter Try.func28, Try.ntmps28
    go_wp2_with fail
    go_ret2
    exact ⟨rfl, Below.refl _ _⟩

end Go.Proofs.Ytgdgafoaangmkaa
