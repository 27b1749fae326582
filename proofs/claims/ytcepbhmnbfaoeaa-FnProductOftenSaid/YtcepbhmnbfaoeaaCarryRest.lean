/-
  The program's table of choices of digits (an array of arrays) and ChoiceRest: what they answer.
-/
import Derived.Test.YtcepbhmnbfaoeaaCarryOf
import Derived.Test.YtcepbhmnbfaoeaaRowFacts
import Derived.Laws.Rows
namespace Go.Proofs.Ytcepbhmnbfaoeaa
open Go.RowKit Go.Shelf

namespace Pl
/-- The table as far as it is filled: all rows ahead of one, and so many places of that one. -/
def chL (p r c : Nat) : List Int := (List.range 256).map fun i => if (i / 16 < r ∧ i % 16 ≤ i / 16) ∨ (i / 16 = r ∧ i % 16 < c) then ((cr p (i / 16) (i % 16) : Nat) : Int) else 0
theorem chL_len (p r c : Nat) : (chL p r c).length = 256 := by simp [chL]
theorem chL_get (p r c : Nat) {a d : Nat} (ha : a < 16) (hd : d < 16) : (chL p r c)[a * 16 + d]?.getD 0 = if (a < r ∧ d ≤ a) ∨ (a = r ∧ d < c) then ((cr p a d : Nat) : Int) else 0 := by
  have e1 : (a * 16 + d) / 16 = a := by omega
  have e2 : (a * 16 + d) % 16 = d := by omega
  have h : a * 16 + d < 256 := by omega
  simp [chL, h, e1, e2]
theorem chL_none (p : Nat) : chL p 0 0 = List.replicate 256 0 := by
  apply List.ext_getElem
  · simp only [chL, List.length_map, List.length_range, List.length_replicate]
  · intro i h1 h2
    simp only [chL, List.getElem_map, List.getElem_range, List.getElem_replicate]
    rw [if_neg (by omega)]
theorem chL_set (p r c : Nat) (hc : c < 16) : (chL p r c).set (r * 16 + c) ((cr p r c : Nat) : Int) = chL p r (c + 1) := by
  apply List.ext_getElem
  · simp [chL]
  · intro i h1 h2
    simp only [chL, List.length_set, List.length_map, List.length_range] at h1
    simp only [chL, List.getElem_set, List.getElem_map, List.getElem_range]
    by_cases hi : r * 16 + c = i
    · subst hi
      have e1 : (r * 16 + c) / 16 = r := by omega
      have e2 : (r * 16 + c) % 16 = c := by omega
      rw [if_pos rfl, e1, e2, if_pos (Or.inr ⟨rfl, by omega⟩)]
    · rw [if_neg hi]
      have : ((i / 16 < r ∧ i % 16 ≤ i / 16) ∨ (i / 16 = r ∧ i % 16 < c)) ↔ ((i / 16 < r ∧ i % 16 ≤ i / 16) ∨ (i / 16 = r ∧ i % 16 < c + 1)) := by omega
      by_cases h : (i / 16 < r ∧ i % 16 ≤ i / 16) ∨ (i / 16 = r ∧ i % 16 < c)
      · rw [if_pos h, if_pos (this.1 h)]
      · rw [if_neg h, if_neg fun hh => h (this.2 hh)]
theorem chL_next (p r : Nat) : chL p r (r + 1) = chL p (r + 1) 0 := by
  apply List.ext_getElem
  · simp [chL]
  · intro i h1 h2
    simp only [chL, List.getElem_map, List.getElem_range]
    have : ((i / 16 < r ∧ i % 16 ≤ i / 16) ∨ (i / 16 = r ∧ i % 16 < r + 1)) ↔ ((i / 16 < r + 1 ∧ i % 16 ≤ i / 16) ∨ (i / 16 = r + 1 ∧ i % 16 < 0)) := by omega
    by_cases h : (i / 16 < r ∧ i % 16 ≤ i / 16) ∨ (i / 16 = r ∧ i % 16 < r + 1)
    · rw [if_pos h, if_pos (this.1 h)]
    · rw [if_neg h, if_neg fun hh => h (this.2 hh)]
/-- The whole table: the choice of each digit from each other one. -/
theorem chL_all (p : Nat) {a d : Nat} (ha : a < p) (hp : p ≤ 16) (hd : d < p) : (chL p p 0)[a * 16 + d]?.getD 0 = ((cr p a d : Nat) : Int) := by
  rw [chL_get p p 0 (by omega) (by omega)]
  by_cases h : d ≤ a
  · rw [if_pos (Or.inl ⟨ha, h⟩)]
  · rw [if_neg (by omega), cr_more p a d (by omega)]; rfl
end Pl

/-- The table in its block. -/
def Tab (W : World) (B : Nat) (c : List Int) : Prop := W.heap[B]? = some (.cells (c.map (Value.int .i64)).toArray 44 (0, 0))

theorem Tab.cell {W : World} {B : Nat} {c : List Int} (h : Tab W B c) {j : Nat} (hj : j < c.length) : W.cell? ⟨B, j, none⟩ = some (.int .i64 (c[j]?.getD 0)) ∧ W.frozen? ⟨B, j, none⟩ = false := by
  unfold Tab at h
  refine ⟨?_, by simp [World.frozen?, h]⟩
  rw [cell_of_row W B j _ _ _ h]
  simp [hj]
theorem Tab.set {W : World} {B : Nat} {c : List Int} (h : Tab W B c) (j : Nat) (q : Int) : Tab (W.setCell ⟨B, j, none⟩ (.int .i64 q)) B (c.set j q) := by
  unfold Tab at *
  rw [setCell_eq_setRow W B j _ _ _ _ h, setRow_heap W B _ _ _ _ h]
  simp [List.map_set]
theorem Tab.alloc {W : World} {B : Nat} {c : List Int} (h : Tab W B c) (o : Obj) : Tab (W.alloc o) B c := by
  unfold Tab at *
  rw [Below.heap_alloc _ _ _ (lt_of_heap h)]; exact h
theorem Tab.other {W : World} {B : Nat} {c : List Int} (h : Tab W B c) {a : Addr} (ha : a.block ≠ B) (u : Value) : Tab (W.setCell a u) B c := by
  unfold Tab at *
  rw [Below.heap_setCell _ _ _ _ (fun e => ha e.symm)]; exact h
theorem Tab.new (W : World) (c : List Int) : Tab (W.alloc (.cells (c.map (Value.int .i64)).toArray 44)) W.heap.size c := heap_alloc_new _ _

theorem info_tab : (Try.prog.info? 44).map (·.size) = some 256 := by kernel_rfl
theorem zero_tab (W : World) : (zeroValue 44).run Try.prog W = .ok (.agg (List.replicate 256 (Value.int .i64 0)).toArray) W := by kernel_rfl

theorem chTab_load {W : World} {ops : Array Oper} {rest : List Oper} {o : Oper} {a : Act} {Q : Exit → Act → World → Prop} (hg : o.guard = none) (x : Operand) (hop : o.op = .load 44 x) {B : Nat} {c : List Int}
    (hx : a.eval x = .pointer (some ⟨B, 0, none⟩)) (hA : Tab W B c) (hl : c.length = 256)
    (hK : wpList Try.prog ops Q rest (a.put o.dst (.agg (c.map (Value.int .i64)).toArray)) W) :
    wpList Try.prog ops Q (o :: rest) a W :=
  wpList_load_row hg 44 x hop B hx 44 _ (0, 0) _ hA Try.underlying44 rfl (by rw [info_tab]; simp [hl]) hK

theorem chTab_store {W : World} {ops : Array Oper} {rest : List Oper} {o : Oper} {a : Act} {Q : Exit → Act → World → Prop} (hg : o.guard = none) (x y : Operand) (hop : o.op = .store 44 x y) {B : Nat} {c c' : List Int}
    (hx : a.eval x = .pointer (some ⟨B, 0, none⟩)) (hy : a.eval y = .agg (c'.map (Value.int .i64)).toArray) (hA : Tab W B c) (hl : c.length = 256) (hl' : c'.length = 256)
    (hK : wpList Try.prog ops Q rest (a.put o.dst undef) (W.setRow B (c'.map (Value.int .i64)).toArray)) :
    wpList Try.prog ops Q (o :: rest) a W :=
  wpList_store_row hg 44 x y hop B _ hx hy 44 _ hA (by rw [info_tab]; simp [hl']) (by simp [hl, hl']) (by simp [Value.oneCell']) hK

theorem below_setRow2 {B : Nat} {a w : World} (h : Below B a w) {g : Nat} (hg : B ≤ g) (c : Array Value) : Below B a (w.setRow g c) :=
  ⟨h.os, h.tape, h.output, by rw [show (w.setRow g c).heap.size = w.heap.size by simp [World.setRow]]; exact h.size, fun k hk => by rw [setRow_other _ _ _ _ (by omega)]; exact h.block k hk⟩

set_option maxRecDepth 100000 in
set_option maxHeartbeats 2000000 in
theorem digitChoices (p : Nat) (hp : 2 ≤ p) (hp' : p ≤ 13) (w : World) :
    Calls Try.prog 49 #[.int .i64 p] w fun e w' => e = .returned (.agg ((Pl.chL p p 0).map (Value.int .i64)).toArray) ∧ Below w.heap.size w w' := by
  obtain ⟨Z, hZ⟩ : ∃ Z, Pl.chL p 0 0 = Z := ⟨_, rfl⟩
  have hz : ∀ W, (zeroValue 44).run Try.prog W = .ok (.agg (Z.map (Value.int .i64)).toArray) W := by intro W; rw [← hZ, Pl.chL_none]; simpa using zero_tab W
  have hzl : Z.length = 256 := by rw [← hZ, Pl.chL_len]
  have hzn : ¬ (Z.map (Value.int .i64)).toArray = #[] := by intro h; have := congrArg Array.size h; simp at this; rw [this] at hzl; simp at hzl
  have hzs : (Z.map (Value.int .i64)).toArray.size = 256 := by simp [hzl]
  have HT1 := Lib.hid (Tab.new (w.alloc (.cells (Z.map (Value.int .i64)).toArray 44)) Z)
  have HT0 := Lib.hid ((Tab.new w Z).alloc (.cells (Z.map (Value.int .i64)).toArray 44))
  have hB0 : Below w.heap.size w ((w.alloc (.cells (Z.map (Value.int .i64)).toArray 44)).alloc (.cells (Z.map (Value.int .i64)).toArray 44)) := ((Below.refl _ w).alloc (Nat.le_refl _) _).alloc (by simp) _
  simp only [World.size_alloc] at HT1
  go_enter Try.func49, Try.ntmps49
  go_wp2_with fail
  clear hz hzn hzs
  obtain ⟨W0, hW0⟩ : ∃ W0, ((w.alloc (.cells (Z.map (Value.int .i64)).toArray 44)).alloc (.cells (Z.map (Value.int .i64)).toArray 44)) = W0 := ⟨_, rfl⟩
  rw [hW0] at HT1 HT0 hB0 ⊢
  clear hW0
  rw [← hZ] at HT1
  clear hZ
  go_loopw [4, 5, 7] (fun _ _ iv wr => ∃ (r : Nat), iv = .int .i64 r ∧ r ≤ p ∧ Tab wr (w.heap.size + 1) (Pl.chL p r 0) ∧ Tab wr w.heap.size Z ∧ Below w.heap.size w wr) (fun _ _ iv _ => p - (intOf iv).toNat)
  case atStart => exact ⟨0, rfl, by omega, HT1.out, HT0.out, hB0⟩
  case round =>
    clear HT1 HT0 hB0
    obtain ⟨r, rfl, hr, hT, hT0, hB⟩ := hrel
    by_cases hlt : r < p
    · have hi : (r : Int) < (p : Int) := by omega
      have hr16 : (r : Int) < 16 := by omega
      obtain ⟨c0, c1⟩ := hT.cell (j := r * 16) (by rw [Pl.chL_len]; omega)
      have hS := hT.set (r * 16) 1
      have e1 : ((Pl.cr p r 0 : Nat) : Int) = 1 := by rw [Pl.cr_zero, Nat.mod_eq_of_lt (by omega)]; rfl
      have hcs := Pl.chL_set p r 0 (by omega)
      rw [Nat.add_zero, e1] at hcs
      rw [hcs] at hS
      have HS := Lib.hid hS
      have H0 := Lib.hid hT0
      clear hS hcs e1 hT hT0
      go_wp2_with fail
      clear c0 c1
      generalize hW1 : wr.setCell ⟨w.heap.size + 1, r * 16, none⟩ (.int .i64 1) = W1 at *
      have hB1 : Below w.heap.size w W1 := by rw [← hW1]; exact hB.setCell (p := ⟨w.heap.size + 1, r * 16, none⟩) (by simp) _
      have HZ1 : Hid (Tab W1 w.heap.size Z) := Lib.hid (by rw [← hW1]; exact H0.out.other (by simp) _)
      clear hW1 hB H0
      go_loopw [5] (fun cv wr => ∃ (c : Nat), cv = .int .i64 c ∧ 1 ≤ c ∧ c ≤ r + 1 ∧ Tab wr (w.heap.size + 1) (Pl.chL p r c) ∧ Tab wr w.heap.size Z ∧ Below w.heap.size w wr) (fun cv _ => r + 1 - (intOf cv).toNat)
      case atStart => exact ⟨1, rfl, by omega, by omega, HS.out, HZ1.out, hB1⟩
      case round =>
        clear HS HZ1 hB1
        obtain ⟨c, rfl, hc1, hc2, hT, hT0, hB⟩ := hrel
        by_cases hcl : c ≤ r
        · obtain ⟨C, rfl⟩ : ∃ C, c = C + 1 := ⟨c - 1, by omega⟩
          obtain ⟨R, rfl⟩ : ∃ R, r = R + 1 := ⟨r - 1, by omega⟩
          have hci : ((C + 1 : Nat) : Int) ≤ ((R + 1 : Nat) : Int) := by omega
          have hx1 := hT.cell (j := R * 16 + C) (by rw [Pl.chL_len]; omega)
          have hx2 := hT.cell (j := R * 16 + (C + 1)) (by rw [Pl.chL_len]; omega)
          have hx3 := hT.cell (j := (R + 1) * 16 + (C + 1)) (by rw [Pl.chL_len]; omega)
          rw [Pl.chL_get p _ _ (by omega) (by omega), if_pos (Or.inl ⟨by omega, by omega⟩)] at hx1
          have ev2 : (Pl.chL p (R + 1) (C + 1))[R * 16 + (C + 1)]?.getD 0 = ((Pl.cr p R (C + 1) : Nat) : Int) := by
            rw [Pl.chL_get p _ _ (by omega) (by omega)]
            by_cases h : C + 1 ≤ R
            · rw [if_pos (Or.inl ⟨by omega, h⟩)]
            · rw [if_neg (by omega), Pl.cr_more p R (C + 1) (by omega)]; rfl
          rw [ev2] at hx2
          have hnx := Pl.cr_next p R C
          have hl1 := Pl.cr_lt (p := p) (by omega) R C
          have hl2 := Pl.cr_lt (p := p) (by omega) R (C + 1)
          have hS := hT.set ((R + 1) * 16 + (C + 1)) ((Pl.cr p (R + 1) (C + 1) : Nat) : Int)
          rw [Pl.chL_set p (R + 1) (C + 1) (by omega)] at hS
          have e1 : ((Pl.cr p R C : Nat) : Int) + ((Pl.cr p R (C + 1) : Nat) : Int) = ((Pl.cr p R C + Pl.cr p R (C + 1) : Nat) : Int) := by omega
          have e2 : (((Pl.cr p R C : Nat) : Int) + ((Pl.cr p R (C + 1) : Nat) : Int)).tmod (p : Int) = ((Pl.cr p (R + 1) (C + 1) : Nat) : Int) := by
            rw [e1, hnx]; rfl
          have hl3 := Pl.cr_lt (p := p) (by omega) (R + 1) (C + 1)
          have HS := Lib.hid hS
          have HT0 := Lib.hid hT0
          obtain ⟨c1, f1⟩ := hx1
          obtain ⟨c2, f2⟩ := hx2
          obtain ⟨c3, f3⟩ := hx3
          clear hS hnx e1 ev2 hT hT0
          generalize (Pl.chL p (R + 1) (C + 1))[(R + 1) * 16 + (C + 1)]?.getD 0 = old at *
          generalize ((Pl.cr p (R + 1) (C + 1) : Nat) : Int) = X3 at *
          generalize hX1 : ((Pl.cr p R C : Nat) : Int) = X1 at *
          generalize hX2 : ((Pl.cr p R (C + 1) : Nat) : Int) = X2 at *
          have hX1b : 0 ≤ X1 ∧ X1 < 16 := by omega
          have hX2b : 0 ≤ X2 ∧ X2 < 16 := by omega
          clear hX1 hX2 hl1 hl2
          have w1 : IntKind.i64.wrap (X1 + X2) = X1 + X2 := IntWalk.i64_in _ (by omega)
          have hp0 : ((p : Int) == 0) = false := by simp; omega
          go_wp2_with fail
          go_region
          go_wp2_with fail
          go_roundw
          case rel => exact ⟨C + 1 + 1, by go_num, by omega, by omega, HS.out, HT0.out.other (a := ⟨w.heap.size + 1, (R + 1) * 16 + (C + 1), none⟩) (by simp) (.int .i64 X3), (hB.drew).setCell (p := ⟨w.heap.size + 1, (R + 1) * 16 + (C + 1), none⟩) (by simp) _⟩
          case measure => simp [intOf]; omega
        · obtain rfl : c = r + 1 := by omega
          have hci : ¬ ((r + 1 : Nat) : Int) ≤ (r : Int) := by omega
          rw [Pl.chL_next] at hT
          have HT := Lib.hid hT
          have HT0 := Lib.hid hT0
          clear hT hT0
          go_wp2_with fail
          go_roundw
          case rel => exact ⟨r + 1, by go_num, by omega, HT.out, HT0.out, hB⟩
          case measure => simp [intOf]; omega
    · obtain rfl : r = p := by omega
      have hi : ¬ (r : Int) < (r : Int) := by omega
      have HT := Lib.hid hT
      have HT0 := Lib.hid hT0
      have hl := Pl.chL_len r r 0
      clear hT hT0
      obtain ⟨L, hL⟩ : ∃ L, Pl.chL r r 0 = L := ⟨_, rfl⟩
      have HL := Lib.hid hL
      rw [hL] at HT hl
      clear hL
      have hrow : (wr.setRow w.heap.size (L.map (Value.int .i64)).toArray).heap[w.heap.size]? = some (.cells (L.map (Value.int .i64)).toArray 44 (0, 0)) := setRow_heap _ _ _ _ _ _ HT0.out
      have HR := Lib.hid hrow
      clear hrow
      go_wp2_with (first | (refine chTab_load rfl (.tmp 3) rfl rfl HT.out hl ?_) | (refine chTab_store rfl (.tmp 2) (.tmp 39) rfl rfl rfl HT0.out hzl hl ?_))
      refine bodyPost_ret (results_cell_row rfl _ _ w.heap.size 44 _ (0, 0) _ rfl HR.out Try.underlying44 rfl (by rw [info_tab]; simp [hl])) rfl ?_
      exact ⟨by rw [HL.out], below_setRow2 hB (by omega) _⟩

set_option maxRecDepth 100000 in
set_option maxHeartbeats 2000000 in
theorem choiceRestYes (n k p : Nat) (hp : p ∈ Pl.primes6) (hn : n ≤ 200) (hk : k ≤ n) (w : World) :
    Calls Try.prog 31 #[.int .i64 n, .int .i64 k, .int .i64 p] w fun e w' => e = .returned (.int .i64 ((Pl.cr p n k : Nat) : Int)) ∧ Below w.heap.size w w' := by
  have hp2 := Pl.primes6_ge hp
  have hT : Pl.chB n k p = true := by
    rw [Pl.chB_iff]
    refine ⟨⟨by omega, by omega⟩, ?_⟩
    simp [Pl.primes6] at hp
    rcases hp with rfl | rfl | rfl | rfl | rfl | rfl <;> rfl
  have HD := Lib.hid (digitChoices p hp2.1 hp2.2)
  obtain ⟨R, hR⟩ : ∃ R, Pl.cr p n k = R := ⟨_, rfl⟩
  have hRp := Pl.cr_lt (p := p) (by omega) n k
  have HRR : Hid (1 * Pl.cr p n k % p = R) := Lib.hid (by rw [Nat.one_mul, Nat.mod_eq_of_lt hRp]; exact hR)
  have hl := Pl.chL_len p p 0
  have HALL : Hid (∀ a d : Nat, a < p → d < p → (Pl.chL p p 0)[a * 16 + d]?.getD 0 = ((Pl.cr p a d : Nat) : Int)) := Lib.hid fun a d ha hd => Pl.chL_all p ha (by omega) hd
  have hpp : ((p : Int) == 0) = false := by simp; omega
  have hp0 : ¬ p = 0 := by omega
  have hpi : ¬ (p : Int) = 0 := by omega
  rw [hR]
  clear hR hRp
  generalize Pl.chL p p 0 = L at *
  obtain ⟨Z, hZ⟩ : ∃ Z, Pl.chL p 0 0 = Z := ⟨_, rfl⟩
  have hz : ∀ W, (zeroValue 44).run Try.prog W = .ok (.agg (Z.map (Value.int .i64)).toArray) W := by intro W; rw [← hZ, Pl.chL_none]; simpa using zero_tab W
  have hzl : Z.length = 256 := by rw [← hZ, Pl.chL_len]
  have hzn : ¬ (Z.map (Value.int .i64)).toArray = #[] := by intro h; have := congrArg Array.size h; simp at this; rw [this] at hzl; simp at hzl
  have hzs : (Z.map (Value.int .i64)).toArray.size = 256 := by simp [hzl]
  clear hZ
  go_enter Try.func31, Try.ntmps31
  go_wp2_with (first | (go_at_call 48; refine (choiceTold _ _ _ _).mono ?_; rintro e w' ⟨rfl, rfl⟩; rw [hT]) | (go_at_call 49; refine (HD.out _).mono ?_; rintro e w1 ⟨rfl, hb1⟩) | (refine chTab_store rfl (.tmp 7) (.tmp 15) rfl rfl rfl (Tab.new _ Z) hzl hl ?_))
  have hT2 : Tab ((w1.alloc (.cells (Z.map (Value.int .i64)).toArray 44)).setRow w1.heap.size (L.map (Value.int .i64)).toArray) w1.heap.size L := setRow_heap _ _ _ _ _ _ (Tab.new w1 Z)
  have hB2 : Below w.heap.size w ((w1.alloc (.cells (Z.map (Value.int .i64)).toArray 44)).setRow w1.heap.size (L.map (Value.int .i64)).toArray) := below_setRow2 (hb1.alloc hb1.size _) hb1.size _
  have hBs := hb1.size
  clear hz hzn hzs hzl
  generalize ((w1.alloc (.cells (Z.map (Value.int .i64)).toArray 44)).setRow w1.heap.size (L.map (Value.int .i64)).toArray) = W2 at *
  generalize w1.heap.size = B at *
  have HT2 := Lib.hid hT2
  clear hb1 hT2
  go_loopw [0, 1, 8] (fun nv kv rv wr => ∃ (N K r : Nat), nv = .int .i64 N ∧ kv = .int .i64 K ∧ rv = .int .i64 r ∧ K ≤ N ∧ N ≤ 200 ∧ r < p ∧ r * Pl.cr p N K % p = R ∧ Tab wr B L ∧ Below w.heap.size w wr) (fun nv _ _ _ => (intOf nv).toNat)
  case atStart => exact ⟨n, k, 1, rfl, rfl, rfl, hk, hn, by omega, HRR.out, HT2.out, hB2⟩
  case round =>
    clear HT2 hB2 HRR HD hT
    obtain ⟨N, K, r, rfl, rfl, rfl, hKN, hN2, hrp, hval, hTb, hB⟩ := hrel
    by_cases h0 : 0 < N
    · have hi : (0 : Int) < (N : Int) := by omega
      have hluc := Pl.lucas hp N K
      rw [Pl.lucL] at hluc
      rw [hluc] at hval
      have ha := Nat.mod_lt N (show 0 < p by omega)
      have hd := Nat.mod_lt K (show 0 < p by omega)
      have hcell := hTb.cell (j := N % p * 16 + K % p) (by rw [hl]; omega)
      rw [HALL.out _ _ ha hd] at hcell
      have hcp := Pl.cr_lt (p := p) (by omega) (N % p) (K % p)
      have hdn : N / p < N := Nat.div_lt_self h0 (by omega)
      have hdk : K / p ≤ N / p := Nat.div_le_div_right hKN
      have hv2 : r * Pl.cr p (N % p) (K % p) % p * Pl.cr p (N / p) (K / p) % p = R := by
        rw [← hval, Nat.mod_mul_mod, Nat.mul_mod_mod, Nat.mul_assoc]
      have hml : r * Pl.cr p (N % p) (K % p) < 169 := by
        have h1 : r ≤ 12 := by omega
        have h2 : Pl.cr p (N % p) (K % p) ≤ 12 := by omega
        have := Nat.mul_le_mul h1 h2
        omega
      have e1 : ((N : Int)).tmod (p : Int) = ((N % p : Nat) : Int) := rfl
      have e2 : ((K : Int)).tmod (p : Int) = ((K % p : Nat) : Int) := rfl
      have e1' : ((N : Int)) % (p : Int) = ((N % p : Nat) : Int) := rfl
      have e2' : ((K : Int)) % (p : Int) = ((K % p : Nat) : Int) := rfl
      have e3 : ((N : Int)).tdiv (p : Int) = ((N / p : Nat) : Int) := rfl
      have e4 : ((K : Int)).tdiv (p : Int) = ((K / p : Nat) : Int) := rfl
      have e5 : (r : Int) * ((Pl.cr p (N % p) (K % p) : Nat) : Int) = ((r * Pl.cr p (N % p) (K % p) : Nat) : Int) := (Int.natCast_mul _ _).symm
      have e6 : ((r : Int) * ((Pl.cr p (N % p) (K % p) : Nat) : Int)).tmod (p : Int) = ((r * Pl.cr p (N % p) (K % p) % p : Nat) : Int) := by rw [e5]; rfl
      have e6' : ((r : Int) * ((Pl.cr p (N % p) (K % p) : Nat) : Int)) % (p : Int) = ((r * Pl.cr p (N % p) (K % p) % p : Nat) : Int) := by rw [e5]; rfl
      have w1 : IntKind.i64.wrap ((r : Int) * ((Pl.cr p (N % p) (K % p) : Nat) : Int)) = (r : Int) * ((Pl.cr p (N % p) (K % p) : Nat) : Int) := IntWalk.i64_in _ (by rw [e5]; omega)
      have hrn := Nat.mod_lt (r * Pl.cr p (N % p) (K % p)) (show 0 < p by omega)
      have HV := Lib.hid hv2
      have HTB := Lib.hid hTb
      obtain ⟨c1, f1⟩ := hcell
      clear hval hluc hv2 e5 hml hcp hTb
      generalize ((Pl.cr p (N % p) (K % p) : Nat) : Int) = X at *
      generalize r * Pl.cr p (N % p) (K % p) % p = rn at *
      generalize N % p = a at *
      generalize K % p = d at *
      generalize hDN : N / p = dN at *
      generalize hDK : K / p = dK at *
      have w2 : IntKind.i64.wrap (dN : Int) = (dN : Int) := IntWalk.i64_in _ (by omega)
      have w3 : IntKind.i64.wrap (dK : Int) = (dK : Int) := IntWalk.i64_in _ (by omega)
      have a16 : (a : Int) < 16 := by omega
      have d16 : (d : Int) < 16 := by omega
      go_wp2_with fail
      go_region
      go_wp2_with fail
      go_region
      go_wp2_with fail
      go_roundw
      case rel => exact ⟨dN, dK, rn, rfl, rfl, rfl, hdk, by omega, hrn, HV.out, HTB.out, hB.drew.drew⟩
      case measure => simp [intOf]; omega
    · obtain rfl : N = 0 := by omega
      obtain rfl : K = 0 := by omega
      have hR : r = R := by
        rw [← hval, Pl.cr_zero, Nat.mod_eq_of_lt (show 1 < p by omega), Nat.mul_one, Nat.mod_eq_of_lt hrp]
      clear hval
      subst hR
      go_wp2_with fail
      go_ret
      exact ⟨rfl, hB⟩

theorem implChoiceRest (n k p : Int) (w : World) :
    Calls Try.prog 31 #[.int .i64 n, .int .i64 k, .int .i64 p] w fun e w' => e = .returned (.int .i64 (Pl.resI n k p)) ∧ Below w.heap.size w w' := by
  by_cases hc : Pl.chB n k p = true
  · obtain ⟨⟨g1, g2⟩, hp⟩ := (Pl.chB_iff n k p).1 hc
    have e : Pl.resI n k p = ((Pl.cr p.toNat n.toNat k.toNat : Nat) : Int) := by rw [Pl.resI, if_pos ⟨⟨g1, g2⟩, hp⟩]
    obtain ⟨q, rfl, hq⟩ := Pl.primeB_nat hp
    obtain ⟨x, rfl⟩ : ∃ x : Nat, n = (x : Int) := ⟨n.toNat, by omega⟩
    obtain ⟨y, rfl⟩ : ∃ y : Nat, k = (y : Int) := ⟨k.toNat, by omega⟩
    rw [e, Int.toNat_natCast, Int.toNat_natCast, Int.toNat_natCast]
    exact choiceRestYes x y q hq (by omega) (by omega) w
  · have e : Pl.resI n k p = -1 := by rw [Pl.resI, if_neg fun h => hc ((Pl.chB_iff n k p).2 h)]
    have hT := Bool.eq_false_iff.2 hc
    rw [e]
    clear e hc
    go_enter Try.func31, Try.ntmps31
    go_wp2_with (go_at_call 48; refine (choiceTold _ _ _ _).mono ?_; rintro e w' ⟨rfl, rfl⟩; rw [hT])
    go_ret
    exact ⟨rfl, Below.refl _ _⟩

end Go.Proofs.Ytcepbhmnbfaoeaa
