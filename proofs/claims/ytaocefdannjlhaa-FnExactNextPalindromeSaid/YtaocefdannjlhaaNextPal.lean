/-
  The first half of a number (a struct); NextPalindrome, of the program and of the model; its exact law.
-/
import Derived.Test.YtaocefdannjlhaaHalfPal
import Derived.Laws.Tables
namespace Go.Proofs.Ytaocefdannjlhaa
open Go.RowKit Go.Shelf

/-- A first half in its box. -/
def HalfBox (W : World) (B : Nat) (f L b : Int) : Prop := W.heap[B]? = some (.cells #[.int .i64 f, .int .i64 L, .int .i64 b] 49 (0, 0))

theorem info_half : (Try.prog.info? 49).map (·.size) = some 3 := by kernel_rfl

theorem HalfBox.below {W W' : World} {B n : Nat} {f L b : Int} (h : HalfBox W B f L b) (hb : Below n W W') (hB : B < n) : HalfBox W' B f L b := (hb.block B hB).trans h

theorem HalfBox.cells {W : World} {B : Nat} {f L b : Int} (h : HalfBox W B f L b) : W.cell? ⟨B, 0, none⟩ = some (.int .i64 f) ∧ W.frozen? ⟨B, 0, none⟩ = false := by
  unfold HalfBox at h
  exact ⟨by rw [cell_of_row W B 0 _ _ _ h]; rfl, by simp [World.frozen?, h]⟩

theorem HalfBox.front {W : World} {B : Nat} {f L b : Int} (h : HalfBox W B f L b) (q : Int) : HalfBox (W.setCell ⟨B, 0, none⟩ (.int .i64 q)) B q L b := by
  unfold HalfBox at *
  rw [setCell_eq_setRow W B 0 _ _ _ _ h, setRow_heap W B _ _ _ _ h]
  rfl

theorem below_half {n B : Nat} (W : World) (hn : n ≤ B) (c : Array Value) : Below n W (W.setRow B c) :=
  ⟨rfl, rfl, rfl, by rw [show (W.setRow B c).heap.size = W.heap.size by simp [World.setRow]]; exact Nat.le_refl _, fun k hk => setRow_other _ _ _ _ (by omega)⟩

theorem half_store {W : World} {ops : Array Oper} {rest : List Oper} {o : Oper} {a : Act} {Q : Exit → Act → World → Prop} (hg : o.guard = none) (x y : Operand) (hop : o.op = .store 49 x y) {B : Nat} {f L b f' L' b' : Int}
    (hx : a.eval x = .pointer (some ⟨B, 0, none⟩)) (hy : a.eval y = .agg #[.int .i64 f', .int .i64 L', .int .i64 b']) (hA : HalfBox W B f L b)
    (hK : ∀ W', HalfBox W' B f' L' b' → (∀ n, n ≤ B → Below n W W') → wpList Try.prog ops Q rest (a.put o.dst undef) W') :
    wpList Try.prog ops Q (o :: rest) a W := by
  refine wpList_store_row hg 49 x y hop B _ hx hy 49 _ hA (by rw [info_half]; rfl) rfl (by simp [Value.oneCell']) ?_
  exact hK _ (setRow_heap _ _ _ _ _ _ hA) fun n hn => below_half W hn _

theorem half_load {W : World} {ops : Array Oper} {rest : List Oper} {o : Oper} {a : Act} {Q : Exit → Act → World → Prop} (hg : o.guard = none) (x : Operand) (hop : o.op = .load 49 x) {B : Nat} {f L b : Int}
    (hx : a.eval x = .pointer (some ⟨B, 0, none⟩)) (hA : HalfBox W B f L b)
    (hK : wpList Try.prog ops Q rest (a.put o.dst (.agg #[.int .i64 f, .int .i64 L, .int .i64 b])) W) :
    wpList Try.prog ops Q (o :: rest) a W :=
  wpList_load_row hg 49 x hop B hx 49 _ (0, 0) _ hA Try.underlying49 rfl (by rw [info_half]; rfl) hK

set_option maxHeartbeats 1000000 in
theorem halfPal (f L b : Nat) (h1 : 2 ≤ b) (h2 : b ≤ 16) (hf : f ≤ 1000000000) (hP : Pl.palN b L f ≤ 1000000000) (w : World) :
    Calls Try.prog 54 #[.agg #[.int .i64 f, .int .i64 L, .int .i64 b]] w fun e w' => e = .returned (.int .i64 ((Pl.palN b L f : Nat) : Int)) ∧ Below w.heap.size w w' := by
  have hW := Pl.whole_pal h1 h2 hP
  have hl : 1 ≤ (Pl.digI b f).length := by rw [Pl.digI_len]; exact Pl.digsR_pos _ _
  have hl' := Pl.digI_len30 h1 hf
  rcases Nat.mod_two_eq_zero_or_one L with hr | hr
  · rw [hr, List.drop_zero] at hW
    exact halfPalEven f L b _ _ h1 h2 hf rfl hl hl' hr hW w
  · rw [hr] at hW
    exact halfPalOdd f L b _ _ h1 h2 hf rfl hl hl' hr hW w

theorem Pl.digI_front {b n L f : Nat} (hF : Pl.HalfFacts b n L f) : (Pl.digI b n).take ((L + 1) / 2) = Pl.digI b f := by
  obtain ⟨h1, _, _, _, h5, _, _, _⟩ := hF
  rw [Pl.digI, Pl.digI, Pl.digs, Pl.digs, ← List.map_take, h5, List.take_reverse, h1, show L - (L + 1) / 2 = L / 2 by omega]

theorem ints_take {w : World} {g cap : Nat} {xs : List Int} {h : Nat} (hc : ∀ j, j < xs.length → w.cell? ⟨g, j, none⟩ = some (.int .i64 (xs[j]?.getD 0))) (hh : h ≤ xs.length) : Ints w (.slice (some ⟨g, 0, none⟩) h cap) (xs.take h) := by
  refine ⟨some ⟨g, 0, none⟩, cap, by rw [List.length_take, Nat.min_eq_left hh], fun j hj => ?_⟩
  rw [List.length_take, Nat.min_eq_left hh] at hj
  exact ⟨g, 0, rfl, by rw [Nat.zero_add, hc j (by omega), List.getElem?_take, if_pos hj]⟩

set_option maxHeartbeats 1000000 in
theorem firstHalfOf (n L f b : Nat) (h1 : 2 ≤ b) (h2 : b ≤ 16) (hn : n ≤ 1000000) (hF : Pl.HalfFacts b n L f) (w : World) :
    Calls Try.prog 53 #[.int .i64 n, .int .i64 b] w fun e w' => e = .returned (.agg #[.int .i64 f, .int .i64 L, .int .i64 b]) ∧ Below w.heap.size w w' := by
  have HD := Lib.hid (digitsOfYes n b h1 h2 (by omega))
  have hfr := Pl.digI_front hF
  have hokf : Pl.okB f b = true := by have := hF.fsmall; rw [Pl.okB_iff]; omega
  have hw := Pl.whole_digA hokf
  rw [Pl.digA_yes f b hokf, ← hfr] at hw
  have HW := Lib.hid hw
  have hlen : (Pl.digI b n).length = L := by rw [Pl.digI_len]; exact hF.long
  have hL1 := hF.pos
  have hL2 := hF.few
  clear hw hfr hokf hF
  generalize Pl.digI b n = D at *
  obtain ⟨h, hh⟩ : ∃ h, (L + 1) / 2 = h := ⟨_, rfl⟩
  have e1 : ((L : Int) + 1).tdiv 2 = (h : Int) := by rw [← hh]; rfl
  have e2 : ((L : Int) + 1) / 2 = (h : Int) := by rw [← hh]; rfl
  have hhL : h ≤ L := by omega
  have hh1 : 1 ≤ h := by omega
  rw [hh] at HW
  clear hh
  go_enter Try.func53, Try.ntmps53
  go_wp2_with fail
  refine (HD.out _).mono ?_
  rintro e w1 ⟨v1, rfl, r1, b1⟩
  obtain ⟨g, cap, rfl, hg, hgl, hcap, hcm, hcell⟩ := r1.lies (by omega)
  have HI := Lib.hid (ints_take (cap := cap) hcell (h := h) (by omega))
  have HB : Hid (HalfBox w1 w.heap.size 0 0 0) := Lib.hid ((b1.block w.heap.size (by simp)).trans (heap_alloc_new _ _))
  have hB1 : Below w.heap.size w w1 := ((Below.refl _ w).alloc (Nat.le_refl _) _).trans (b1.mono (by simp))
  have hlt : (D.take h).length ≤ 1000000000 := by rw [List.length_take]; omega
  have HLT := Lib.hid hlt
  rw [hlen] at hcap ⊢
  clear r1 b1 hcell hlt hg hlen
  generalize D.take h = E at *
  go_wp2_with (first | (go_at_call 40; refine (implWholeOf _ E b _ HI.out HLT.out).mono ?_; rintro e w2 ⟨rfl, rfl⟩; rw [HW.out]) | (refine half_store rfl (.tmp 4) (.tmp 26) rfl rfl rfl HB.out ?_; intro w3 hA3 hb3; have HA3 := Lib.hid hA3; have hB3 := hB1.trans (hb3 _ (Nat.le_refl _)); clear hA3 hb3))
  refine bodyPost_ret (results_cell_row rfl _ _ w.heap.size 49 _ (0, 0) _ rfl HA3.out Try.underlying49 rfl (by rw [info_half]; rfl)) rfl ?_
  exact ⟨rfl, hB3⟩

/-- The next palindrome, as the functions answer. -/
def nextP (n b : Int) : Prop := Pl.baseB b = true ∧ 0 ≤ n ∧ n ≤ 1000000

set_option maxHeartbeats 2000000 in
theorem implNextPalYes (n b m : Nat) (h1 : 2 ≤ b) (h2 : b ≤ 16) (hn : n ≤ 1000000) (hm : Pl.NextPal b n m) (w : World) :
    Calls Try.prog 28 #[.int .i64 n, .int .i64 b] w fun e w' => e = .returned (.int .i64 (m : Int)) ∧ Below w.heap.size w w' := by
  have hB : Pl.baseB b = true := by rw [Pl.baseB_iff]; omega
  have hl0 : longI (n : Int) (b : Int) = (((Pl.digsR b n).length : Nat) : Int) := longI_nat n b (by rw [Pl.okB_iff]; omega)
  have hl1 : longI ((n : Int) + 1) (b : Int) = (((Pl.digsR b (n + 1)).length : Nat) : Int) := longI_nat (n + 1) b (by rw [Pl.okB_iff]; omega)
  have HL0 := Lib.hid hl0
  have HL1 := Lib.hid hl1
  clear hl0 hl1
  have hn0 : ¬ (n : Int) < 0 := by omega
  have hn1 : ¬ (1000000 : Int) < (n : Int) := by omega
  by_cases hlen : (Pl.digsR b n).length < (Pl.digsR b (n + 1)).length
  · have he := hm.unique (Pl.nextPal_longer h1 hn hlen)
    subst he
    clear hm
    have hlt : (((Pl.digsR b n).length : Nat) : Int) < (((Pl.digsR b (n + 1)).length : Nat) : Int) := by omega
    clear hlen
    generalize (((Pl.digsR b n).length : Nat) : Int) = A at *
    generalize (((Pl.digsR b (n + 1)).length : Nat) : Int) = B at *
    go_enter Try.func28, Try.ntmps28
    go_wp2_with (go_at_call 46; refine (implBaseOk _ _).mono ?_; rintro e w' ⟨rfl, rfl⟩; rw [hB])
    refine (implLongOf _ _ _).mono ?_
    rintro e w1 ⟨rfl, b1⟩
    rw [HL1.out]
    go_wp2_with fail
    refine (implLongOf _ _ _).mono ?_
    rintro e w2 ⟨rfl, b2⟩
    rw [HL0.out]
    go_wp2_with fail
    go_ret
    exact ⟨ret_int (by go_num), b1.trans (b2.mono b1.size)⟩
  · have hF := Pl.halfFacts h1 h2 hn
    have hmore := Pl.nextPal_more h1 h2 hn hF hlen
    have hsame := Pl.nextPal_same h1 hF
    have hlt : ¬ (((Pl.digsR b n).length : Nat) : Int) < (((Pl.digsR b (n + 1)).length : Nat) : Int) := by omega
    have hfs := hF.fsmall
    have hps := hF.small
    have HF := Lib.hid (firstHalfOf n _ _ b h1 h2 hn hF)
    clear hlen hF
    generalize hLdef : (Pl.digsR b n).length = L at *
    clear hLdef
    generalize n / b ^ (L / 2) = f at *
    have HP := Lib.hid (halfPal f L b h1 h2 (by omega) (by omega))
    by_cases hs : n < Pl.palN b L f
    · have he := hm.unique (hsame hs)
      subst he
      clear hm hmore hsame
      have hs' : (n : Int) < ((Pl.palN b L f : Nat) : Int) := by omega
      clear hs
      generalize ((Pl.palN b L f : Nat) : Int) = P at *
      generalize (((Pl.digsR b (n + 1)).length : Nat) : Int) = B at *
      go_enter Try.func28, Try.ntmps28
      go_wp2_with (go_at_call 46; refine (implBaseOk _ _).mono ?_; rintro e w' ⟨rfl, rfl⟩; rw [hB])
      refine (implLongOf _ _ _).mono ?_
      rintro e w1 ⟨rfl, b1⟩
      rw [HL1.out]
      go_wp2_with fail
      refine (implLongOf _ _ _).mono ?_
      rintro e w2 ⟨rfl, b2⟩
      rw [HL0.out]
      go_wp2_with fail
      refine (HF.out _).mono ?_
      rintro e w3 ⟨rfl, b3⟩
      have hb3 : Below w.heap.size w w3 := (b1.trans (b2.mono b1.size)).trans (b3.mono (Nat.le_trans b1.size b2.size))
      have HB0 : Hid (HalfBox (w3.alloc (.cells #[.int .i64 0, .int .i64 0, .int .i64 0] 49)) w3.heap.size 0 0 0) := Lib.hid (heap_alloc_new _ _)
      clear b1 b2 b3
      go_wp2_with (first | (refine half_store rfl (.tmp 5) (.tmp 30) rfl rfl rfl HB0.out ?_; intro w4 hA4 hb4; have HA4 := Lib.hid hA4; have hB4 : Below w.heap.size w w4 := (hb3.alloc hb3.size _).trans (hb4 _ hb3.size); clear hA4 hb4) | (refine half_load rfl (.tmp 5) rfl rfl HA4.out ?_))
      refine (HP.out _).mono ?_
      rintro e w5 ⟨rfl, b5⟩
      go_wp2_with fail
      go_ret
      exact ⟨rfl, hB4.trans (b5.mono hB4.size)⟩
    · have hm2 := hmore hs
      have he := hm.unique hm2
      have hms := hm2.small
      have HP2 : Hid (∀ w : World, Calls Try.prog 54 #[.agg #[.int .i64 ((f : Int) + 1), .int .i64 L, .int .i64 b]] w fun e w' => e = .returned (.int .i64 ((Pl.palN b L (f + 1) : Nat) : Int)) ∧ Below w.heap.size w w') := Lib.hid fun w => halfPal (f + 1) L b h1 h2 (by omega) (by omega) w
      subst he
      clear hm hmore hsame hm2 hms
      have hs' : ¬ (n : Int) < ((Pl.palN b L f : Nat) : Int) := by omega
      clear hs hps
      generalize ((Pl.palN b L f : Nat) : Int) = P at *
      generalize ((Pl.palN b L (f + 1) : Nat) : Int) = P2 at *
      generalize (((Pl.digsR b (n + 1)).length : Nat) : Int) = B at *
      go_enter Try.func28, Try.ntmps28
      go_wp2_with (go_at_call 46; refine (implBaseOk _ _).mono ?_; rintro e w' ⟨rfl, rfl⟩; rw [hB])
      refine (implLongOf _ _ _).mono ?_
      rintro e w1 ⟨rfl, b1⟩
      rw [HL1.out]
      go_wp2_with fail
      refine (implLongOf _ _ _).mono ?_
      rintro e w2 ⟨rfl, b2⟩
      rw [HL0.out]
      go_wp2_with fail
      refine (HF.out _).mono ?_
      rintro e w3 ⟨rfl, b3⟩
      have hb3 : Below w.heap.size w w3 := (b1.trans (b2.mono b1.size)).trans (b3.mono (Nat.le_trans b1.size b2.size))
      have HB0 : Hid (HalfBox (w3.alloc (.cells #[.int .i64 0, .int .i64 0, .int .i64 0] 49)) w3.heap.size 0 0 0) := Lib.hid (heap_alloc_new _ _)
      clear b1 b2 b3
      go_wp2_with (first | (refine half_store rfl (.tmp 5) (.tmp 30) rfl rfl rfl HB0.out ?_; intro w4 hA4 hb4; have hlt4 := lt_of_heap hA4; have HA4 := Lib.hid hA4; have hB4 : Below w.heap.size w w4 := (hb3.alloc hb3.size _).trans (hb4 _ hb3.size); clear hA4 hb4) | (refine half_load rfl (.tmp 5) rfl rfl HA4.out ?_))
      refine (HP.out _).mono ?_
      rintro e w5 ⟨rfl, b5⟩
      have hA5 : HalfBox w5 w3.heap.size f L b := HA4.out.below b5 hlt4
      obtain ⟨c1, c2⟩ := hA5.cells
      have HA6 := Lib.hid (hA5.front ((f : Int) + 1))
      have hB5 : Below w.heap.size w w5 := hB4.trans (b5.mono hB4.size)
      have hB6 : Below w.heap.size w (w5.setCell ⟨w3.heap.size, 0, none⟩ (.int .i64 ((f : Int) + 1))) := hB5.setCell (p := ⟨w3.heap.size, 0, none⟩) hb3.size _
      have hfw : IntKind.i64.wrap ((f : Int) + 1) = (f : Int) + 1 := IntWalk.i64_in _ (by omega)
      clear hA5 b5
      go_wp2_with (first | (refine half_load rfl (.tmp 5) rfl rfl HA6.out ?_))
      refine (HP2.out _).mono ?_
      rintro e w7 ⟨rfl, b7⟩
      go_wp2_with fail
      go_ret
      exact ⟨rfl, hB6.trans (b7.mono hB6.size)⟩

/-- For others. -/
theorem nextP_no {n b : Int} (h : ¬ nextP n b) : Pl.baseB b = false ∨ n < 0 ∨ 1000000 < n := by
  by_cases h1 : Pl.baseB b = true
  · by_cases h2 : 0 ≤ n
    · by_cases h3 : n ≤ 1000000
      · exact absurd ⟨h1, h2, h3⟩ h
      · exact .inr (.inr (by omega))
    · exact .inr (.inl (by omega))
  · exact .inl (by simpa using h1)

set_option maxHeartbeats 400000 in
theorem implNextPalNo (n b : Int) (h : ¬ nextP n b) (w : World) :
    Calls Try.prog 28 #[.int .i64 n, .int .i64 b] w fun e w' => e = .returned (.int .i64 (-1)) ∧ w = w' := by
  by_cases hB : Pl.baseB b = true
  · by_cases h0 : n < 0
    · clear h
      go_enter Try.func28, Try.ntmps28
      go_wp2_with (go_at_call 46; refine (implBaseOk _ _).mono ?_; rintro e w' ⟨rfl, rfl⟩; rw [hB])
      go_ret
      exact ⟨rfl, rfl⟩
    · have h9 : 1000000 < n := by
        rcases nextP_no h with h' | h' | h'
        · rw [hB] at h'; cases h'
        · exact absurd h' h0
        · exact h'
      clear h
      go_enter Try.func28, Try.ntmps28
      go_wp2_with (go_at_call 46; refine (implBaseOk _ _).mono ?_; rintro e w' ⟨rfl, rfl⟩; rw [hB])
      go_ret
      exact ⟨rfl, rfl⟩
  · have hB' : Pl.baseB b = false := by simpa using hB
    clear h hB
    go_enter Try.func28, Try.ntmps28
    go_wp2_with (go_at_call 46; refine (implBaseOk _ _).mono ?_; rintro e w' ⟨rfl, rfl⟩; rw [hB'])
    go_ret
    exact ⟨rfl, rfl⟩

set_option maxHeartbeats 400000 in
theorem specNextPalNo (n b : Int) (h : ¬ nextP n b) (w : World) :
    Calls Try.prog 29 #[.int .i64 n, .int .i64 b] w fun e w' => e = .returned (.int .i64 (-1)) ∧ w = w' := by
  by_cases hn : (decide (0 ≤ n) && decide (n ≤ 1000000)) = true
  · have hB : Pl.baseB b = false := by
      rcases nextP_no h with h' | h' | h'
      · exact h'
      · simp at hn; omega
      · simp at hn; omega
    clear h
    go_enter Try.func29, Try.ntmps29
    go_wp2_with (first | (go_at_call 43; refine (specIn _ _ _ _).mono ?_; rintro e w' ⟨rfl, rfl⟩; rw [hn]) | (go_at_call 44; refine (specBaseOk _ _).mono ?_; rintro e w' ⟨rfl, rfl⟩; rw [hB]))
    go_ret
    exact ⟨rfl, rfl⟩
  · have hn' : (decide (0 ≤ n) && decide (n ≤ 1000000)) = false := by simpa using hn
    clear h hn
    go_enter Try.func29, Try.ntmps29
    go_wp2_with (first | (go_at_call 43; refine (specIn _ _ _ _).mono ?_; rintro e w' ⟨rfl, rfl⟩; rw [hn']))
    go_ret
    exact ⟨rfl, rfl⟩

set_option maxHeartbeats 1000000 in
theorem specNextPalYes (n b m : Nat) (h1 : 2 ≤ b) (h2 : b ≤ 16) (hn : n ≤ 1000000) (hm : Pl.NextPal b n m) (w : World) :
    Calls Try.prog 29 #[.int .i64 n, .int .i64 b] w fun e w' => e = .returned (.int .i64 (m : Int)) ∧ w = w' := by
  have hin : (decide (0 ≤ (n : Int)) && decide ((n : Int) ≤ 1000000)) = true := by simp; omega
  have hB : Pl.baseB b = true := by rw [Pl.baseB_iff]; omega
  have hms := hm.small
  have hmn := hm.more
  have HM := Lib.hid hm
  clear hm
  go_enter Try.func29, Try.ntmps29
  go_wp2_with (first | (go_at_call 43; refine (specIn _ _ _ _).mono ?_; rintro e w' ⟨rfl, rfl⟩; rw [hin]) | (go_at_call 44; refine (specBaseOk _ _).mono ?_; rintro e w' ⟨rfl, rfl⟩; rw [hB]))
  go_loop [5] (fun jv => ∃ j : Nat, jv = .int .i64 j ∧ n < j ∧ j ≤ m) (fun jv => m - (intOf jv).toNat)
  case atStart => exact ⟨n + 1, by go_num, by omega, by omega⟩
  case round =>
    clear hin hB
    obtain ⟨j, rfl, hj1, hj2⟩ := hrel
    have HT := Lib.hid (l6Turned j b h1 h2 (by omega))
    by_cases hj : j = m
    · subst hj
      have hp : ((Pl.turnN b j : Nat) : Int) = (j : Int) := by rw [HM.out.pal]
      rw [hp] at HT
      clear hp
      go_wp2_with (go_at_call 45; refine (HT.out _).mono ?_; rintro e w' ⟨rfl, rfl⟩)
      go_ret
      exact ⟨rfl, rfl⟩
    · have hp : (((Pl.turnN b j : Nat) : Int) == (j : Int)) = false := by
        have := HM.out.least j hj1 (by omega)
        simp; omega
      generalize ((Pl.turnN b j : Nat) : Int) = T at *
      go_wp2_with (go_at_call 45; refine (HT.out _).mono ?_; rintro e w' ⟨rfl, rfl⟩)
      go_round
      case rel => exact ⟨j + 1, by go_num, by omega, by omega⟩
      case measure => simp [intOf]; omega

theorem nextP_nat {n b : Int} (h : nextP n b) : ∃ x k m : Nat, n = (x : Int) ∧ b = (k : Int) ∧ 2 ≤ k ∧ k ≤ 16 ∧ x ≤ 1000000 ∧ Pl.NextPal k x m := by
  obtain ⟨h1, h2, h3⟩ := h
  obtain ⟨k, rfl, hk1, hk2⟩ := baseB_nat h1
  obtain ⟨m, hm⟩ := Pl.nextPal_exists (n := n.toNat) hk1 hk2 (by omega)
  exact ⟨n.toNat, k, m, by omega, rfl, hk1, hk2, by omega, hm⟩

set_option maxHeartbeats 400000 in
theorem FnExactNextPalindrome_walk (a0 : Int) (a1 : Int) (w : World) (_w0 : (Lit.int .i64 a0).wf = true) (_w1 : (Lit.int .i64 a1).wf = true) :
    Calls Try.prog 12 #[.int .i64 a0, .int .i64 a1] w fun e w' => e = .returned (.bool true) ∧ Below w.heap.size w w' := by
  by_cases h : nextP a0 a1
  · obtain ⟨x, k, m, rfl, rfl, h1, h2, h3, hm⟩ := nextP_nat h
    have HS := Lib.hid (specNextPalYes x k m h1 h2 h3 hm)
    have HI := Lib.hid (implNextPalYes x k m h1 h2 h3 hm)
    clear h hm
    go_enter Try.func12, Try.ntmps12
    go_wp2_with (first | (go_at_call 29; refine (HS.out _).mono ?_; rintro e w' ⟨rfl, rfl⟩) | (go_at_call 28; refine (HI.out _).mono ?_; rintro e w1 ⟨rfl, hb⟩))
    go_ret
    exact ⟨rfl, hb⟩
  · have HS := Lib.hid (specNextPalNo a0 a1 h)
    have HI := Lib.hid (implNextPalNo a0 a1 h)
    clear h
    go_enter Try.func12, Try.ntmps12
    go_wp2_with (first | (go_at_call 29; refine (HS.out _).mono ?_; rintro e w' ⟨rfl, rfl⟩) | (go_at_call 28; refine (HI.out _).mono ?_; rintro e w1 ⟨rfl, rfl⟩))
    go_ret
    exact ⟨rfl, Below.refl _ _⟩

end Go.Proofs.Ytaocefdannjlhaa
