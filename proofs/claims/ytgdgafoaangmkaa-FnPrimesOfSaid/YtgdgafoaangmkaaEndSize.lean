/-
  How many digits ends have, in which base (a struct): its methods ok, power and leaves; EndOk and OtherEnd of the program.
-/
import Derived.Test.YtgdgafoaangmkaaWide
import Derived.Test.YtgdgafoaangmkaaMathTable
import Derived.Laws.Tables
namespace Go.Proofs.Ytgdgafoaangmkaa
open Go.RowKit Go.Shelf

/-- A number of digits and a base, in their box. -/
def SizeBox (W : World) (B : Nat) (L b : Int) : Prop := W.heap[B]? = some (.cells #[.int .i64 L, .int .i64 b] 47 (0, 0))

theorem info_size : (Try.prog.info? 47).map (·.size) = some 2 := by kernel_rfl

theorem SizeBox.below {W W' : World} {B n : Nat} {L b : Int} (h : SizeBox W B L b) (hb : Below n W W') (hB : B < n) : SizeBox W' B L b := (hb.block B hB).trans h
theorem SizeBox.new (W : World) (L b : Int) : SizeBox (W.alloc (.cells #[.int .i64 L, .int .i64 b] 47)) W.heap.size L b := heap_alloc_new _ _

theorem SizeBox.cells {W : World} {B : Nat} {L b : Int} (h : SizeBox W B L b) : W.cell? ⟨B, 0, none⟩ = some (.int .i64 L) ∧ W.cell? ⟨B, 1, none⟩ = some (.int .i64 b) := by
  unfold SizeBox at h
  exact ⟨by rw [cell_of_row W B 0 _ _ _ h]; rfl, by rw [cell_of_row W B 1 _ _ _ h]; rfl⟩

theorem below_row {n B : Nat} (W : World) (hn : n ≤ B) (c : Array Value) : Below n W (W.setRow B c) :=
  ⟨rfl, rfl, rfl, by rw [show (W.setRow B c).heap.size = W.heap.size by simp [World.setRow]]; exact Nat.le_refl _, fun k hk => setRow_other _ _ _ _ (by omega)⟩

theorem size_store {W : World} {ops : Array Oper} {rest : List Oper} {o : Oper} {a : Act} {Q : Exit → Act → World → Prop} (hg : o.guard = none) (x y : Operand) (hop : o.op = .store 47 x y) {B : Nat} {L b L' b' : Int}
    (hx : a.eval x = .pointer (some ⟨B, 0, none⟩)) (hy : a.eval y = .agg #[.int .i64 L', .int .i64 b']) (hA : SizeBox W B L b)
    (hK : ∀ W', SizeBox W' B L' b' → (∀ n, n ≤ B → Below n W W') → W'.heap.size = W.heap.size → wpList Try.prog ops Q rest (a.put o.dst undef) W') :
    wpList Try.prog ops Q (o :: rest) a W := by
  refine wpList_store_row hg 47 x y hop B _ hx hy 47 _ hA (by rw [info_size]; rfl) rfl (by simp [Value.oneCell']) ?_
  exact hK _ (setRow_heap _ _ _ _ _ _ hA) (fun n hn => below_row W hn _) (by simp [World.setRow])

theorem size_load {W : World} {ops : Array Oper} {rest : List Oper} {o : Oper} {a : Act} {Q : Exit → Act → World → Prop} (hg : o.guard = none) (x : Operand) (hop : o.op = .load 47 x) {B : Nat} {L b : Int}
    (hx : a.eval x = .pointer (some ⟨B, 0, none⟩)) (hA : SizeBox W B L b)
    (hK : wpList Try.prog ops Q rest (a.put o.dst (.agg #[.int .i64 L, .int .i64 b])) W) :
    wpList Try.prog ops Q (o :: rest) a W :=
  wpList_load_row hg 47 x hop B hx 47 _ (0, 0) _ hA Try.underlying47 rfl (by rw [info_size]; rfl) hK

set_option maxHeartbeats 800000 in
theorem sizeOk (l b : Int) (w : World) :
    Calls Try.prog 38 #[.agg #[.int .i64 l, .int .i64 b]] w fun e w' => e = .returned (.bool (Pl.endsOk l b)) ∧ Below w.heap.size w w' := by
  have HB0 := (Below.refl w.heap.size w).alloc (Nat.le_refl _) (.cells #[.int .i64 l, .int .i64 b] 47)
  have hE : Pl.endsOk l b = ((decide (1 ≤ l) && decide (l ≤ 4)) && Pl.baseB b) := rfl
  by_cases hB : Pl.baseB b = true
  · rw [hE, hB, Bool.and_true]
    go_enter Try.func38, Try.ntmps38
    go_wp2_with (go_at_call 32; refine (implBaseOk _ _).mono ?_; rintro e w' ⟨rfl, rfl⟩; rw [hB])
    all_goals
      go_ret
      refine ⟨ret_bool ?_, HB0⟩
      simp
      try omega
  · rw [hE, Bool.eq_false_iff.2 hB, Bool.and_false]
    have hB' : Pl.baseB b = false := by simpa using hB
    clear hB
    go_enter Try.func38, Try.ntmps38
    go_wp2_with (go_at_call 32; refine (implBaseOk _ _).mono ?_; rintro e w' ⟨rfl, rfl⟩; rw [hB'])
    go_ret
    exact ⟨rfl, HB0⟩

set_option maxHeartbeats 800000 in
theorem sizePower (L k : Nat) (h1 : L ≤ 4) (h2 : k ≤ 16) (w : World) :
    Calls Try.prog 39 #[.agg #[.int .i64 L, .int .i64 k]] w fun e w' => e = .returned (.int .i64 ((k ^ L : Nat) : Int)) ∧ Below w.heap.size w w' := by
  have HB0 := (Below.refl w.heap.size w).alloc (Nat.le_refl _) (.cells #[.int .i64 L, .int .i64 k] 47)
  have HT := Lib.hid (timesBase k L h2 (by omega))
  generalize k ^ L = P at *
  go_enter Try.func39, Try.ntmps39
  go_wp2_with (go_at_call 47; refine (HT.out _).mono ?_; rintro e w' ⟨rfl, rfl⟩)
  go_ret
  exact ⟨rfl, HB0⟩

set_option maxHeartbeats 800000 in
theorem sizeLeaves (L k x : Nat) (h1 : L ≤ 4) (h2 : 1 ≤ k) (h3 : k ≤ 16) (hx : x ≤ 65536) (w : World) :
    Calls Try.prog 40 #[.agg #[.int .i64 L, .int .i64 k], .int .i64 x] w fun e w' => e = .returned (.bool (decide (x * x % k ^ L = x))) ∧ Below w.heap.size w w' := by
  have HP := Lib.hid (sizePower L k h1 h3)
  have hP0 : 1 ≤ k ^ L := Nat.pow_pos (by omega)
  generalize k ^ L = P at *
  have hxx : x * x ≤ 65536 * 65536 := Nat.mul_le_mul (by omega) (by omega)
  have e1 : IntKind.i64.wrap ((x : Int) * (x : Int)) = ((x * x : Nat) : Int) := by
    rw [← Int.natCast_mul]; exact IntWalk.i64_in _ (by omega)
  have hP0' : ((P : Int) == 0) = false := by simp; omega
  have e2 : (((x * x : Nat) : Int)).tmod (P : Int) = ((x * x % P : Nat) : Int) := rfl
  have hE : decide (x * x % P = x) = (((x * x % P : Nat) : Int) == (x : Int)) := by
    rw [Bool.eq_iff_iff, decide_eq_true_eq, beq_iff_eq]; omega
  rw [hE]
  have HS := SizeBox.new w (L : Int) (k : Int)
  have HB0 := (Below.refl w.heap.size w).alloc (Nat.le_refl _) (.cells #[.int .i64 L, .int .i64 k] 47)
  clear hE
  generalize x * x % P = M at *
  generalize x * x = X at *
  go_enter Try.func40, Try.ntmps40
  go_wp2_with (first | (go_at_call 39; refine (HP.out _).mono ?_; rintro e w1 ⟨rfl, b1⟩) | (refine size_load rfl (.tmp 2) rfl rfl HS ?_))
  go_ret
  exact ⟨rfl, HB0.trans (b1.mono (by simp))⟩

set_option maxHeartbeats 1000000 in
theorem implEndOk (n l b : Int) (w : World) :
    Calls Try.prog 14 #[.int .i64 n, .int .i64 l, .int .i64 b] w fun e w' => e = .returned (.bool (Pl.endB n l b)) ∧ Below w.heap.size w w' := by
  have HO := Lib.hid (sizeOk l b)
  by_cases hok : Pl.endsOk l b = true
  · rw [hok] at HO
    by_cases hn : 0 ≤ n
    · obtain ⟨L, k, rfl, rfl, h1, h2, h3, h4⟩ := Pl.endsOk_nat hok
      obtain ⟨x, rfl⟩ : ∃ x : Nat, n = (x : Int) := ⟨n.toNat, by omega⟩
      rw [Pl.endB_yes hok]
      have hP := Pl.pow_le16 (b := k) (L := L) h4 h2
      have HPW := Lib.hid (sizePower L k h2 h4)
      by_cases hx : x < k ^ L
      · have HL := Lib.hid (sizeLeaves L k x h2 (by omega) h4 (by omega))
        have hE : decide (Pl.Idem (k ^ L) x) = decide (x * x % k ^ L = x) := by
          rw [decide_eq_decide]; unfold Pl.Idem; exact ⟨fun h => h.2, fun h => ⟨hx, h⟩⟩
        rw [hE]
        have hlt : (x : Int) < ((k ^ L : Nat) : Int) := by omega
        clear hok hE hx
        generalize decide (x * x % k ^ L = x) = R at *
        generalize k ^ L = P at *
        go_enter Try.func14, Try.ntmps14
        have HS0 := Lib.hid (SizeBox.new w 0 0)
        have HB0 := (Below.refl w.heap.size w).alloc (Nat.le_refl _) (.cells #[.int .i64 0, .int .i64 0] 47)
        go_wp2_with (refine size_store rfl (.tmp 7) (.tmp 10) rfl rfl rfl HS0.out ?_; intro w1 hA1 hb1 hz1; have HS1 := Lib.hid hA1; have HB1 := HB0.trans (hb1 _ (Nat.le_refl _)); obtain ⟨c0, c1⟩ := hA1.cells; clear hA1 hb1)
        rw [World.size_alloc] at hz1
        refine (HO.out _).mono ?_
        rintro e w2 ⟨rfl, b2⟩
        have HS2 := Lib.hid (HS1.out.below b2 (by omega))
        have HB2 := HB1.trans (b2.mono (by omega))
        have hz2 := b2.size
        obtain ⟨d0, d1⟩ := HS2.out.cells
        clear b2 c0 c1
        go_wp2_with fail
        refine (HPW.out _).mono ?_
        rintro e w3 ⟨rfl, b3⟩
        have HS3 := Lib.hid (HS2.out.below b3 (by omega))
        have HB3 := HB2.trans (b3.mono (by omega))
        have hz3 := b3.size
        obtain ⟨c0, c1⟩ := HS3.out.cells
        clear b3 d0 d1
        go_wp2_with fail
        refine (HL.out _).mono ?_
        rintro e w4 ⟨rfl, b4⟩
        go_wp2
        go_ret
        exact ⟨rfl, HB3.trans (b4.mono (by omega))⟩
      · have hE : decide (Pl.Idem (k ^ L) x) = false := by simp [Pl.Idem, hx]
        rw [hE]
        have hlt : ¬ (x : Int) < ((k ^ L : Nat) : Int) := by omega
        clear hok hE hx
        generalize k ^ L = P at *
        go_enter Try.func14, Try.ntmps14
        have HS0 := Lib.hid (SizeBox.new w 0 0)
        have HB0 := (Below.refl w.heap.size w).alloc (Nat.le_refl _) (.cells #[.int .i64 0, .int .i64 0] 47)
        go_wp2_with (refine size_store rfl (.tmp 7) (.tmp 10) rfl rfl rfl HS0.out ?_; intro w1 hA1 hb1 hz1; have HS1 := Lib.hid hA1; have HB1 := HB0.trans (hb1 _ (Nat.le_refl _)); obtain ⟨c0, c1⟩ := hA1.cells; clear hA1 hb1)
        rw [World.size_alloc] at hz1
        refine (HO.out _).mono ?_
        rintro e w2 ⟨rfl, b2⟩
        have HS2 := Lib.hid (HS1.out.below b2 (by omega))
        have HB2 := HB1.trans (b2.mono (by omega))
        have hz2 := b2.size
        obtain ⟨d0, d1⟩ := HS2.out.cells
        clear b2 c0 c1
        go_wp2_with fail
        refine (HPW.out _).mono ?_
        rintro e w3 ⟨rfl, b3⟩
        have HB3 := HB2.trans (b3.mono (by omega))
        go_wp2
        go_ret
        exact ⟨rfl, HB3⟩
    · have hE : Pl.endB n l b = false := by
        rw [← Bool.not_eq_true]
        intro hh
        obtain ⟨x, L, k, rfl, _⟩ := Pl.endB_nat hh
        omega
      rw [hE]
      clear hok hE
      go_enter Try.func14, Try.ntmps14
      have HS0 := Lib.hid (SizeBox.new w 0 0)
      have HB0 := (Below.refl w.heap.size w).alloc (Nat.le_refl _) (.cells #[.int .i64 0, .int .i64 0] 47)
      go_wp2_with (refine size_store rfl (.tmp 7) (.tmp 10) rfl rfl rfl HS0.out ?_; intro w1 hA1 hb1 hz1; have HS1 := Lib.hid hA1; have HB1 := HB0.trans (hb1 _ (Nat.le_refl _)); obtain ⟨c0, c1⟩ := hA1.cells; clear hA1 hb1)
      rw [World.size_alloc] at hz1
      refine (HO.out _).mono ?_
      rintro e w2 ⟨rfl, b2⟩
      have HS2 := Lib.hid (HS1.out.below b2 (by omega))
      have HB2 := HB1.trans (b2.mono (by omega))
      have hz2 := b2.size
      obtain ⟨d0, d1⟩ := HS2.out.cells
      clear b2 c0 c1
      go_wp2
      go_ret
      exact ⟨rfl, HB2⟩
  · rw [Bool.eq_false_iff.2 hok] at HO
    rw [Pl.endB_no hok]
    clear hok
    go_enter Try.func14, Try.ntmps14
    have HS0 := Lib.hid (SizeBox.new w 0 0)
    have HB0 := (Below.refl w.heap.size w).alloc (Nat.le_refl _) (.cells #[.int .i64 0, .int .i64 0] 47)
    go_wp2_with (refine size_store rfl (.tmp 7) (.tmp 10) rfl rfl rfl HS0.out ?_; intro w1 hA1 hb1 hz1; have HS1 := Lib.hid hA1; have HB1 := HB0.trans (hb1 _ (Nat.le_refl _)); obtain ⟨c0, c1⟩ := hA1.cells; clear hA1 hb1)
    rw [World.size_alloc] at hz1
    refine (HO.out _).mono ?_
    rintro e w2 ⟨rfl, b2⟩
    have HS2 := Lib.hid (HS1.out.below b2 (by omega))
    have HB2 := HB1.trans (b2.mono (by omega))
    have hz2 := b2.size
    obtain ⟨d0, d1⟩ := HS2.out.cells
    clear b2 c0 c1
    go_wp2
    go_ret
    exact ⟨rfl, HB2⟩


end Go.Proofs.Ytgdgafoaangmkaa
