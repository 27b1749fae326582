/-
  impl.OwnSum, impl.OwnOk; spec.l4Power, spec.l4Sum, spec.OwnSum, spec.OwnOk: what they answer; the exact laws of OwnSum and OwnOk.
-/
import Derived.Test.YtcigepkjnnknlaaOwn
import Derived.Test.YtcigepkjnnknlaaSpecRound
namespace Go.Proofs.Ytcigepkjnnknlaa
open Go.RowKit Go.Shelf

set_option maxHeartbeats 400000 in
theorem ownTold (n r b : Int) (w : World) :
    Calls Try.prog 32 #[.int .i64 n, .int .i64 r, .int .i64 b] w fun e w' => e = .returned (.bool (Pl.ownB n r b)) ∧ w = w' := by
  by_cases h0 : 0 ≤ n
  · by_cases h1 : n ≤ 2000
    · by_cases h2 : 0 ≤ r
      · by_cases h3 : r < 3
        · cases hB : Pl.baseB b
          all_goals
            go_enter Try.func32, Try.ntmps32
            go_wp2_with (go_at_call 37; refine (implBaseOk _ _).mono ?_; rintro e w' ⟨rfl, rfl⟩; rw [hB])
            all_goals
              go_ret
              refine ⟨ret_bool ?_, rfl⟩
              simp [Pl.baseB] at hB
              rw [Bool.eq_iff_iff, Pl.ownB_iff]
              simp <;> omega
        · go_enter Try.func32, Try.ntmps32
          go_wp2
          go_ret
          exact ⟨ret_bool (by simp [Pl.ownB]; omega), rfl⟩
      · go_enter Try.func32, Try.ntmps32
        go_wp2
        go_ret
        exact ⟨ret_bool (by simp [Pl.ownB]; omega), rfl⟩
    · go_enter Try.func32, Try.ntmps32
      go_wp2
      go_ret
      exact ⟨ret_bool (by simp [Pl.ownB]; omega), rfl⟩
  · go_enter Try.func32, Try.ntmps32
    go_wp2
    go_ret
    exact ⟨ret_bool (by simp [Pl.ownB]; omega), rfl⟩

theorem table0 (w : World) : (Instr.index 40 (.agg #[.func (.func 43) #[] #[], .func (.func 44) #[] #[], .func (.func 46) #[] #[]]) (.int .i64 0)).run Try.prog w = .ok (.func (.func 43) #[] #[]) w := by kernel_rfl
theorem table1' (w : World) : (Instr.index 40 (.agg #[.func (.func 43) #[] #[], .func (.func 44) #[] #[], .func (.func 46) #[] #[]]) (.int .i64 1)).run Try.prog w = .ok (.func (.func 44) #[] #[]) w := by kernel_rfl
theorem table2' (w : World) : (Instr.index 40 (.agg #[.func (.func 43) #[] #[], .func (.func 44) #[] #[], .func (.func 46) #[] #[]]) (.int .i64 2)).run Try.prog w = .ok (.func (.func 46) #[] #[]) w := by kernel_rfl

set_option maxHeartbeats 1000000 in
theorem implOwnSum (n r b : Int) (w : World) :
    Calls Try.prog 12 #[.int .i64 n, .int .i64 r, .int .i64 b] w fun e W' => e = .returned (.int .i64 (Pl.ownI n r b)) ∧ Below w.heap.size w W' := by
  by_cases h : Pl.ownB n r b = true
  · obtain ⟨x, s, k, rfl, rfl, rfl, h1, h2, h3, h4⟩ := Pl.ownB_nat h
    rw [Pl.ownI_yes x s k h]
    rcases (show s = 0 ∨ s = 1 ∨ s = 2 by omega) with rfl | rfl | rfl
    · have HS := Lib.hid (sumBy 0 43 (enters_of Try.func43 (by kernel_rfl) rfl) ruleAt0 x k h3 (by omega) h1)
      have h0 : Pl.ownB (x : Int) 0 k = true := h
      have hT := table0
      show Calls Try.prog 12 #[.int .i64 x, .int .i64 0, .int .i64 k] w _
      clear h
      go_enter Try.func12, Try.ntmps12
      go_wp2_with (go_at_call 32; refine (ownTold _ _ _ _).mono ?_; rintro e w' ⟨rfl, rfl⟩; rw [h0])
      refine (ownRules _).mono ?_
      rintro e w1 ⟨rfl, b1⟩
      go_wp2_with fail
      refine (HS.out _).mono ?_
      rintro e w2 ⟨rfl, b2⟩
      go_wp2
      go_ret
      exact ⟨rfl, b1.trans (b2.mono b1.size)⟩
    · have HS := Lib.hid (sumBy 1 44 (enters_of Try.func44 (by kernel_rfl) rfl) ruleAt1 x k h3 (by omega) h1)
      have h0 : Pl.ownB (x : Int) 1 k = true := h
      have hT := table1'
      show Calls Try.prog 12 #[.int .i64 x, .int .i64 1, .int .i64 k] w _
      clear h
      go_enter Try.func12, Try.ntmps12
      go_wp2_with (go_at_call 32; refine (ownTold _ _ _ _).mono ?_; rintro e w' ⟨rfl, rfl⟩; rw [h0])
      refine (ownRules _).mono ?_
      rintro e w1 ⟨rfl, b1⟩
      go_wp2_with fail
      refine (HS.out _).mono ?_
      rintro e w2 ⟨rfl, b2⟩
      go_wp2
      go_ret
      exact ⟨rfl, b1.trans (b2.mono b1.size)⟩
    · have HS := Lib.hid (sumBy 2 46 (enters_of Try.func46 (by kernel_rfl) rfl) ruleAt2 x k h3 (by omega) h1)
      have h0 : Pl.ownB (x : Int) 2 k = true := h
      have hT := table2'
      show Calls Try.prog 12 #[.int .i64 x, .int .i64 2, .int .i64 k] w _
      clear h
      go_enter Try.func12, Try.ntmps12
      go_wp2_with (go_at_call 32; refine (ownTold _ _ _ _).mono ?_; rintro e w' ⟨rfl, rfl⟩; rw [h0])
      refine (ownRules _).mono ?_
      rintro e w1 ⟨rfl, b1⟩
      go_wp2_with fail
      refine (HS.out _).mono ?_
      rintro e w2 ⟨rfl, b2⟩
      go_wp2
      go_ret
      exact ⟨rfl, b1.trans (b2.mono b1.size)⟩
  · rw [Pl.ownI_no h]
    have h' : Pl.ownB n r b = false := by simpa using h
    clear h
    go_enter Try.func12, Try.ntmps12
    go_wp2_with (go_at_call 32; refine (ownTold _ _ _ _).mono ?_; rintro e w' ⟨rfl, rfl⟩; rw [h'])
    go_ret
    exact ⟨rfl, Below.refl _ _⟩

set_option maxHeartbeats 1000000 in
theorem implOwnOk (n r b : Int) (w : World) :
    Calls Try.prog 17 #[.int .i64 n, .int .i64 r, .int .i64 b] w fun e W' => e = .returned (.bool (Pl.ownOkB n r b)) ∧ Below w.heap.size w W' := by
  have hb := Pl.ownI_bound n r b
  by_cases h : Pl.ownB n r b = true
  · have HO := Lib.hid (Pl.ownOkB_yes h)
    go_enter Try.func17, Try.ntmps17
    go_wp2_with (go_at_call 32; refine (ownTold _ _ _ _).mono ?_; rintro e w' ⟨rfl, rfl⟩; rw [h])
    refine (implOwnSum _ _ _ _).mono ?_
    rintro e w1 ⟨rfl, b1⟩
    go_wp2
    go_ret
    exact ⟨ret_bool (by rw [HO.out]; exact Bool.eq_iff_iff.2 (by simp)), b1⟩
  · have h' : Pl.ownB n r b = false := by simpa using h
    rw [Pl.ownOkB_no h]
    clear h
    go_enter Try.func17, Try.ntmps17
    go_wp2_with (go_at_call 32; refine (ownTold _ _ _ _).mono ?_; rintro e w' ⟨rfl, rfl⟩; rw [h'])
    go_ret
    exact ⟨rfl, Below.refl _ _⟩

set_option maxHeartbeats 1000000 in
theorem l4Power (d t : Nat) (hd : d < 16) (ht : t ≤ 15) (w : World) :
    Calls Try.prog 48 #[.int .i64 d, .int .i64 t] w fun e w' => e = .returned (.int .i64 ((d ^ t : Nat) : Int)) ∧ w = w' := by
  obtain ⟨R, hR⟩ : ∃ R, d ^ t = R := ⟨_, rfl⟩
  rw [hR]
  have HR := Lib.hid hR
  clear hR
  go_enter Try.func48, Try.ntmps48
  go_wp2
  go_loop [5, 6] (fun p i => ∃ P I : Nat, I ≤ t ∧ P ≤ 437893890380859375 ∧ P = d ^ I ∧ p = .int .i64 P ∧ i = .int .i64 I) (fun _ i => t - (intOf i).toNat)
  case atStart => exact ⟨1, 0, by omega, by omega, by simp, rfl, rfl⟩
  case round =>
    obtain ⟨P, I, hI, hP, hPe, rfl, rfl⟩ := hrel
    by_cases hlt : I < t
    · have hq : P * d = d ^ (I + 1) := by rw [hPe, Nat.pow_succ]
      have hq2 : P * d ≤ 437893890380859375 := by rw [hq]; exact Pl.pow_le15 hd (by omega)
      have HQ := Lib.hid hq
      have e : IntKind.i64.wrap ((P : Int) * (d : Int)) = ((P * d : Nat) : Int) := by
        rw [← Int.natCast_mul]; exact IntWalk.i64_in _ (by omega)
      have hi : (I : Int) < (t : Int) := by omega
      clear hq hPe
      generalize P * d = Q at *
      go_wp2
      go_round
      case rel => exact ⟨Q, I + 1, by omega, hq2, HQ.out, rfl, by simp⟩
      case measure => simp [intOf]; omega
    · obtain rfl : I = t := by omega
      have HP := Lib.hid hPe
      clear hPe
      go_wp2
      go_ret
      exact ⟨ret_int (by rw [HP.out, HR.out]), rfl⟩

/-- The sum of what the first j digits add. -/
def ruleTo (r : Nat) (D : List Nat) (j : Nat) : Nat := ((D.take j).map fun d => Pl.addR r d D.length).sum
theorem ruleTo_zero (r : Nat) (D : List Nat) : ruleTo r D 0 = 0 := by simp [ruleTo]
theorem ruleTo_succ (r : Nat) (D : List Nat) {j : Nat} (h : j < D.length) : ruleTo r D (j + 1) = ruleTo r D j + Pl.addR r (D[j]?.getD 0) D.length := by
  unfold ruleTo
  rw [List.take_succ_eq_append_getElem h, List.map_append, List.sum_append, List.getElem?_eq_getElem h]
  simp
theorem ruleTo_all {r b x : Nat} : ruleTo r (Pl.digs b x) (Pl.digs b x).length = Pl.ownN r b x := by
  unfold ruleTo Pl.ownN
  rw [List.take_length, Pl.digs, List.length_reverse, List.map_reverse, List.sum_reverse]
theorem ruleTo_le {r : Nat} {D : List Nat} (hD : ∀ x ∈ D, x < 16) (hl : D.length ≤ 15) (j : Nat) (hj : j ≤ D.length) : ruleTo r D j ≤ j * 437893890380859375 := by
  have := Pl.sum_le_mul (B := 437893890380859375) ((D.take j).map fun d => Pl.addR r d D.length) (fun x hx => by
    obtain ⟨d, hd, rfl⟩ := List.mem_map.1 hx
    exact Pl.addR_le (hD d (List.mem_of_mem_take hd)) hl)
  rw [List.length_map, List.length_take, Nat.min_eq_left hj] at this
  exact this
theorem digI_at (b x j : Nat) : (Pl.digI b x)[j]?.getD 0 = (((Pl.digs b x)[j]?.getD 0 : Nat) : Int) := by
  unfold Pl.digI
  rw [List.getElem?_map]
  cases (Pl.digs b x)[j]? <;> rfl

/-- What spec.l4Sum reads: the digits, in new memory. -/
structure DigRow (b x : Nat) (D : List Nat) (I : List Int) : Prop where
  ilen : I.length = D.length
  len1 : 1 ≤ D.length
  len : D.length ≤ 11
  small : ∀ j : Nat, D[j]?.getD 0 < 16
  small' : ∀ y ∈ D, y < 16
  at' : ∀ j : Nat, I[j]?.getD 0 = ((D[j]?.getD 0 : Nat) : Int)
  all : ∀ r, ruleTo r D D.length = Pl.ownN r b x
theorem digRow {b x : Nat} (hb : 2 ≤ b) (hb' : b ≤ 16) (hx : x ≤ 2000) : DigRow b x (Pl.digs b x) (Pl.digI b x) := by
  have hm : ∀ y ∈ Pl.digs b x, y < 16 := fun y hy => by
    rw [Pl.digs, List.mem_reverse] at hy
    have := Pl.digsR_mem hb x y hy; omega
  have hl : (Pl.digs b x).length = (Pl.digsR b x).length := by rw [Pl.digs, List.length_reverse]
  refine ⟨by rw [Pl.digI_len, hl], by rw [hl]; exact Pl.digsR_pos b x, by rw [hl]; exact Pl.len11 hb hx, fun j => ?_, hm, digI_at b x, fun r => ruleTo_all⟩
  by_cases h : j < (Pl.digs b x).length
  · rw [List.getElem?_eq_getElem h]; exact hm _ (List.getElem_mem h)
  · rw [List.getElem?_eq_none (by omega)]; simp

/-- One step of the sum by a rule. -/
theorem DigRow.next {b x : Nat} {D : List Nat} {I : List Int} (h : DigRow b x D I) (r : Nat) {K : Nat} (hK : K < D.length) :
    ∃ A S : Int, A = ((Pl.addR r (D[K]?.getD 0) D.length : Nat) : Int) ∧ S = ((ruleTo r D K : Nat) : Int) ∧ 0 ≤ A ∧ A ≤ 437893890380859375 ∧ 0 ≤ S ∧ S ≤ 4378938903808593750 ∧ S + A = ((ruleTo r D (K + 1) : Nat) : Int) := by
  have h1 := Pl.addR_le (r := r) (h.small K) (show D.length ≤ 15 by have := h.len; omega)
  have h2 := ruleTo_le (r := r) h.small' (by have := h.len; omega) K (by omega)
  have h3 := h.len
  refine ⟨_, _, rfl, rfl, by omega, by omega, by omega, by omega, ?_⟩
  rw [ruleTo_succ r D hK]; omega

set_option maxHeartbeats 2000000 in
theorem l4Sum0 (x b : Nat) (hb : 2 ≤ b) (hb' : b ≤ 10) (hx : x ≤ 2000) (w : World) :
    Calls Try.prog 36 #[.int .i64 x, .int .i64 0, .int .i64 b] w fun e w' => e = .returned (.int .i64 (Pl.ownN 0 b x)) ∧ Below w.heap.size w w' := by
  have HR := digRow hb (show b ≤ 16 by omega) hx
  have HD := Lib.hid (l1Digits b hb (by omega) 29 x · (by omega) (by omega))
  generalize Pl.digs b x = D at *
  generalize Pl.digI b x = I at *
  have HR' := Lib.hid HR
  have hl := HR.len
  have hl1 := HR.len1
  have hil := HR.ilen
  clear HR
  go_enter Try.func36, Try.ntmps36
  go_wp2_with fail
  refine (HD.out w).mono ?_
  rintro e w1 ⟨v, rfl, r1, b1⟩
  obtain ⟨g, cap, rfl, _, hg, hcap, _, hc⟩ := r1.lies (by omega)
  have HC := Lib.hid hc
  clear r1 hc
  rw [hil] at HC hcap ⊢
  clear hil
  go_wp2_with fail
  go_loop [8, 9, 10, 11] (fun s k _ _ => ∃ (S : Int) (K : Nat), K ≤ D.length ∧ S = ((ruleTo 0 D K : Nat) : Int) ∧ s = .int .i64 S ∧ k = .int .i64 K) (fun _ k _ _ => D.length - (intOf k).toNat)
  case atStart => exact ⟨0, 0, by omega, by simp [ruleTo_zero], rfl, rfl⟩
  case round =>
    obtain ⟨S, K, hK, hS, rfl, rfl⟩ := hrel
    by_cases hlt : K < D.length
    · obtain ⟨A, S', hA, hS', a0, a1, s0, s1, hn⟩ := HR'.out.next 0 hlt
      obtain rfl : S = S' := hS.trans hS'.symm
      have hcK := HC.out K hlt
      have hd := HR'.out.small K
      rw [HR'.out.at' K] at hcK
      have HP := Lib.hid (fun W => l4Power (D[K]?.getD 0) D.length hd (by omega) W)
      rw [← Pl.addR_0, ← hA] at HP
      have HN := Lib.hid hn
      generalize D[K]?.getD 0 = d at *
      generalize hLn : D.length = L at *
      clear hS hS' hn hA
      have hi : (K : Int) < (L : Int) := by omega
      go_wp2_with fail
      refine (HP.out _).mono ?_
      rintro e w' ⟨rfl, rfl⟩
      go_wp2_with fail
      go_round
      case rel => exact ⟨_, K + 1, by omega, HN.out, rfl, by simp⟩
      case measure => simp [intOf]; omega
    · obtain rfl : K = D.length := by omega
      rw [HR'.out.all] at hS
      have HS := Lib.hid hS
      clear hS
      go_wp2
      go_ret
      exact ⟨ret_int HS.out, b1⟩

set_option maxHeartbeats 2000000 in
theorem l4Sum1 (x b : Nat) (hb : 2 ≤ b) (hb' : b ≤ 10) (hx : x ≤ 2000) (w : World) :
    Calls Try.prog 36 #[.int .i64 x, .int .i64 1, .int .i64 b] w fun e w' => e = .returned (.int .i64 (Pl.ownN 1 b x)) ∧ Below w.heap.size w w' := by
  have HR := digRow hb (show b ≤ 16 by omega) hx
  have HD := Lib.hid (l1Digits b hb (by omega) 29 x · (by omega) (by omega))
  generalize Pl.digs b x = D at *
  generalize Pl.digI b x = I at *
  have HR' := Lib.hid HR
  have hl := HR.len
  have hl1 := HR.len1
  have hil := HR.ilen
  clear HR
  go_enter Try.func36, Try.ntmps36
  go_wp2_with fail
  refine (HD.out w).mono ?_
  rintro e w1 ⟨v, rfl, r1, b1⟩
  obtain ⟨g, cap, rfl, _, hg, hcap, _, hc⟩ := r1.lies (by omega)
  have HC := Lib.hid hc
  clear r1 hc
  rw [hil] at HC hcap ⊢
  clear hil
  go_wp2_with fail
  go_loop [8, 9, 10, 11] (fun s k _ _ => ∃ (S : Int) (K : Nat), K ≤ D.length ∧ S = ((ruleTo 1 D K : Nat) : Int) ∧ s = .int .i64 S ∧ k = .int .i64 K) (fun _ k _ _ => D.length - (intOf k).toNat)
  case atStart => exact ⟨0, 0, by omega, by simp [ruleTo_zero], rfl, rfl⟩
  case round =>
    obtain ⟨S, K, hK, hS, rfl, rfl⟩ := hrel
    by_cases hlt : K < D.length
    · obtain ⟨A, S', hA, hS', a0, a1, s0, s1, hn⟩ := HR'.out.next 1 hlt
      obtain rfl : S = S' := hS.trans hS'.symm
      have hcK := HC.out K hlt
      have hd := HR'.out.small K
      rw [HR'.out.at' K] at hcK
      rw [Pl.addR_1] at hA
      have HN := Lib.hid hn
      generalize D[K]?.getD 0 = d at *
      have HA := Lib.hid hA
      generalize hLn : D.length = L at *
      clear hS hS' hn hA
      have hi : (K : Int) < (L : Int) := by omega
      go_wp2_with fail
      go_loop [10, 11] (fun p i => ∃ P I : Nat, 1 ≤ I ∧ (I ≤ d ∨ I = 1) ∧ P ≤ 1307674368000 ∧ P = Pl.factN I ∧ p = .int .i64 P ∧ i = .int .i64 ((I : Int) + 1)) (fun _ i => d + 1 - (intOf i).toNat)
      case atStart => exact ⟨1, 1, by omega, by omega, by omega, rfl, rfl, rfl⟩
      case round =>
        obtain ⟨P, I, hI1, hI, hP, hPe, rfl, rfl⟩ := hrel
        by_cases hlt2 : I + 1 ≤ d
        · have hq : P * (I + 1) = Pl.factN (I + 1) := by rw [hPe, Pl.factN]
          have hq2 : P * (I + 1) ≤ 1307674368000 := by rw [hq]; exact Pl.fact_le (by omega)
          have HQ := Lib.hid hq
          have e : IntKind.i64.wrap ((P : Int) * ((I : Int) + 1)) = ((P * (I + 1) : Nat) : Int) := by
            rw [show ((I : Int) + 1) = ((I + 1 : Nat) : Int) from rfl, ← Int.natCast_mul]; exact IntWalk.i64_in _ (by omega)
          have hi2 : (I : Int) + 1 ≤ (d : Int) := by omega
          clear hq hPe
          generalize P * (I + 1) = Q at *
          go_wp2
          go_round
          case rel => exact ⟨Q, I + 1, by omega, by omega, hq2, HQ.out, rfl, by simp⟩
          case measure => simp [intOf]; omega
        · have hv : (P : Int) = A := by
            rw [HA.out, hPe]
            congr 1
            rcases hI with hI | rfl
            · rw [show d = I by omega]
            · rcases (show d = 0 ∨ d = 1 by omega) with rfl | rfl <;> rfl
          have hi2 : ¬ (I : Int) + 1 ≤ (d : Int) := by omega
          clear hPe
          rw [hv]
          clear hv
          go_wp2_with fail
          go_round
          case rel => exact ⟨_, K + 1, by omega, HN.out, rfl, by simp⟩
          case measure => simp [intOf]; omega
    · obtain rfl : K = D.length := by omega
      rw [HR'.out.all] at hS
      have HS := Lib.hid hS
      clear hS
      go_wp2
      go_ret
      exact ⟨ret_int HS.out, b1⟩

set_option maxHeartbeats 2000000 in
theorem l4Sum2 (x b : Nat) (hb : 2 ≤ b) (hb' : b ≤ 10) (hx : x ≤ 2000) (w : World) :
    Calls Try.prog 36 #[.int .i64 x, .int .i64 2, .int .i64 b] w fun e w' => e = .returned (.int .i64 (Pl.ownN 2 b x)) ∧ Below w.heap.size w w' := by
  have HR := digRow hb (show b ≤ 16 by omega) hx
  have HD := Lib.hid (l1Digits b hb (by omega) 29 x · (by omega) (by omega))
  generalize Pl.digs b x = D at *
  generalize Pl.digI b x = I at *
  have HR' := Lib.hid HR
  have hl := HR.len
  have hl1 := HR.len1
  have hil := HR.ilen
  clear HR
  go_enter Try.func36, Try.ntmps36
  go_wp2_with fail
  refine (HD.out w).mono ?_
  rintro e w1 ⟨v, rfl, r1, b1⟩
  obtain ⟨g, cap, rfl, _, hg, hcap, _, hc⟩ := r1.lies (by omega)
  have HC := Lib.hid hc
  clear r1 hc
  rw [hil] at HC hcap ⊢
  clear hil
  go_wp2_with fail
  go_loopw [8, 9, 10, 11] (fun s k _ _ wr => ∃ (S : Int) (K : Nat), K ≤ D.length ∧ S = ((ruleTo 2 D K : Nat) : Int) ∧ s = .int .i64 S ∧ k = .int .i64 K ∧ Below w1.heap.size w1 wr) (fun _ k _ _ _ => D.length - (intOf k).toNat)
  case atStart => exact ⟨0, 0, by omega, by simp [ruleTo_zero], rfl, rfl, Below.refl _ _⟩
  case round =>
    obtain ⟨S, K, hK, hS, rfl, rfl, hbw⟩ := hrel
    by_cases hlt : K < D.length
    · obtain ⟨A, S', hA, hS', a0, a1, s0, s1, hn⟩ := HR'.out.next 2 hlt
      obtain rfl : S = S' := hS.trans hS'.symm
      have hcK := HC.out K hlt
      have hd := HR'.out.small K
      rw [HR'.out.at' K] at hcK
      have HP := Lib.hid (fun W => l4Power (D[K]?.getD 0) (D[K]?.getD 0) hd (by omega) W)
      rw [Pl.addR_2] at hA
      rw [← hA] at HP
      have HN := Lib.hid hn
      generalize D[K]?.getD 0 = d at *
      generalize hLn : D.length = L at *
      clear hS hS' hn hA
      have hi : (K : Int) < (L : Int) := by omega
      have HQ := Lib.hid (fun W => (HP.out W).mono (fun e w' (hh : e = .returned (.int .i64 A) ∧ W = w') => (⟨hh.1, hh.2.symm⟩ : e = .returned (.int .i64 A) ∧ w' = W)))
      have hcK2 := Below.cell hbw hg hcK
      clear hcK
      go_wp2_with fail
      go_big_quiet ((go_at_call 48; exact Calls.quiet_of_same (HQ.out _)))
      go_wp2
      refine ⟨⟨_, K + 1, by omega, HN.out, rfl, by simp, hbw.trans ((drewN_below wr nq).mono hbw.size)⟩, by simp [intOf]; omega⟩
    · obtain rfl : K = D.length := by omega
      rw [HR'.out.all] at hS
      have HS := Lib.hid hS
      clear hS
      go_wp2
      go_ret
      exact ⟨ret_int HS.out, b1.trans (hbw.mono b1.size)⟩

theorem l4Sum (x s b : Nat) (hs : s ≤ 2) (hb : 2 ≤ b) (hb' : b ≤ 10) (hx : x ≤ 2000) (w : World) :
    Calls Try.prog 36 #[.int .i64 x, .int .i64 s, .int .i64 b] w fun e w' => e = .returned (.int .i64 (Pl.ownN s b x)) ∧ Below w.heap.size w w' := by
  rcases (show s = 0 ∨ s = 1 ∨ s = 2 by omega) with rfl | rfl | rfl
  · exact l4Sum0 x b hb hb' hx w
  · exact l4Sum1 x b hb hb' hx w
  · exact l4Sum2 x b hb hb' hx w

theorem specOwn_not {n r b : Int} (h : ¬ Pl.ownB n r b = true) : (decide (0 ≤ n) && decide (n ≤ 2000)) = false ∨ ((decide (0 ≤ n) && decide (n ≤ 2000)) = true ∧ (decide (0 ≤ r) && decide (r ≤ 2)) = false) ∨
    ((decide (0 ≤ n) && decide (n ≤ 2000)) = true ∧ (decide (0 ≤ r) && decide (r ≤ 2)) = true ∧ (decide (2 ≤ b) && decide (b ≤ 10)) = false) := by
  rw [Pl.ownB_iff] at h
  simp only [Bool.and_eq_true, Bool.and_eq_false_iff, decide_eq_true_eq, decide_eq_false_iff_not]
  omega

set_option maxHeartbeats 1000000 in
theorem specOwnSum (n r b : Int) (w : World) :
    Calls Try.prog 13 #[.int .i64 n, .int .i64 r, .int .i64 b] w fun e W' => e = .returned (.int .i64 (Pl.ownI n r b)) ∧ Below w.heap.size w W' := by
  by_cases h : Pl.ownB n r b = true
  · have h0 := (Pl.ownB_iff n r b).1 h
    have g1 : (decide (0 ≤ n) && decide (n ≤ 2000)) = true := by simp; omega
    have g2 : (decide (0 ≤ r) && decide (r ≤ 2)) = true := by simp; omega
    have g3 : (decide (2 ≤ b) && decide (b ≤ 10)) = true := by simp; omega
    obtain ⟨x, s, k, rfl, rfl, rfl, h1, h2, h3, h4⟩ := Pl.ownB_nat h
    rw [Pl.ownI_yes x s k h]
    have HS := Lib.hid (l4Sum x s k h2 h3 h4 h1)
    clear h h0
    go_enter Try.func13, Try.ntmps13
    go_wp2_with (first | (go_at_call 35; refine (specIn _ _ _ _).mono ?_; rintro e w' ⟨rfl, rfl⟩))
    refine (HS.out _).mono ?_
    rintro e w2 ⟨rfl, b2⟩
    go_wp2
    go_ret
    exact ⟨rfl, b2⟩
  · rw [Pl.ownI_no h]
    rcases specOwn_not h with g1 | ⟨g1, g2⟩ | ⟨g1, g2, g3⟩
    all_goals
      clear h
      go_enter Try.func13, Try.ntmps13
      go_wp2_with (first | (go_at_call 35; refine (specIn _ _ _ _).mono ?_; rintro e w' ⟨rfl, rfl⟩))
      all_goals
        go_ret
        exact ⟨rfl, Below.refl _ _⟩

set_option maxHeartbeats 1000000 in
theorem specOwnOk (n r b : Int) (w : World) :
    Calls Try.prog 18 #[.int .i64 n, .int .i64 r, .int .i64 b] w fun e W' => e = .returned (.bool (Pl.ownOkB n r b)) ∧ Below w.heap.size w W' := by
  have HE := Lib.hid (Pl.ownOkB_eq n r b)
  have hb := Pl.ownI_bound n r b
  by_cases h : 0 ≤ n
  · have HO : Hid (Pl.ownOkB n r b = decide (Pl.ownI n r b = n)) := Lib.hid (by rw [HE.out]; simp [h])
    go_enter Try.func18, Try.ntmps18
    go_wp2_with fail
    refine (specOwnSum _ _ _ _).mono ?_
    rintro e w1 ⟨rfl, b1⟩
    go_wp2
    go_ret
    exact ⟨ret_bool (by rw [HO.out]; exact Bool.eq_iff_iff.2 (by simp)), b1⟩
  · have HO : Hid (Pl.ownOkB n r b = false) := Lib.hid (by rw [HE.out]; simp [h])
    go_enter Try.func18, Try.ntmps18
    go_wp2
    go_ret
    exact ⟨ret_bool HO.out.symm, Below.refl _ _⟩

set_option maxHeartbeats 400000 in
theorem FnExactOwnSum_walk (a0 : Int) (a1 : Int) (a2 : Int) (w : World) (_w0 : (Lit.int .i64 a0).wf = true) (_w1 : (Lit.int .i64 a1).wf = true) (_w2 : (Lit.int .i64 a2).wf = true) :
    Calls Try.prog 7 #[.int .i64 a0, .int .i64 a1, .int .i64 a2] w fun e w' => e = .returned (.bool true) ∧ Below w.heap.size w w' := by
  go_enter Try.func7, Try.ntmps7
  go_wp2_with fail
  refine (specOwnSum _ _ _ _).mono ?_
  rintro e w1 ⟨rfl, b1⟩
  go_wp2_with fail
  refine (implOwnSum _ _ _ _).mono ?_
  rintro e w2 ⟨rfl, b2⟩
  go_wp2
  go_ret
  exact ⟨rfl, b1.trans (b2.mono b1.size)⟩

set_option maxHeartbeats 400000 in
theorem FnExactOwnOk_walk (a0 : Int) (a1 : Int) (a2 : Int) (w : World) (_w0 : (Lit.int .i64 a0).wf = true) (_w1 : (Lit.int .i64 a1).wf = true) (_w2 : (Lit.int .i64 a2).wf = true) :
    Calls Try.prog 8 #[.int .i64 a0, .int .i64 a1, .int .i64 a2] w fun e w' => e = .returned (.bool true) ∧ Below w.heap.size w w' := by
  go_enter Try.func8, Try.ntmps8
  go_wp2_with fail
  refine (specOwnOk _ _ _ _).mono ?_
  rintro e w1 ⟨rfl, b1⟩
  go_wp2_with fail
  refine (implOwnOk _ _ _ _).mono ?_
  rintro e w2 ⟨rfl, b2⟩
  go_wp2
  go_ret
  exact ⟨rfl, b1.trans (b2.mono b1.size)⟩

end Go.Proofs.Ytcigepkjnnknlaa
