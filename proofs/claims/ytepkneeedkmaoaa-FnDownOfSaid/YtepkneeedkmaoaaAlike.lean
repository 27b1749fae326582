/-
  impl.AlikeOk, spec.AlikeOk: what they answer; the exact law of AlikeOk.
-/
import Derived.Test.YtepkneeedkmaoaaSpecDown
import Derived.Test.YtepkneeedkmaoaaOwnSteps
namespace Go.Proofs.Ytepkneeedkmaoaa
open Go.RowKit Go.Shelf

namespace Pl
/-- Whether all digits of a number of a width are alike. -/
def alikeB (n v b : Int) : Bool := wideB n v b && decide (leftN b.toNat v.toNat n.toNat = 0)
theorem alikeB_yes (x v k : Nat) (h : wideB x v k = true) : alikeB x v k = decide (leftN k v x = 0) := by simp [alikeB, h]
theorem alikeB_no {n v b : Int} (h : ¬ wideB n v b = true) : alikeB n v b = false := by simp [alikeB, h]
theorem alikeB_iff (x v k : Nat) (h : wideB x v k = true) : alikeB x v k = true ↔ Alike k v x := by
  rw [alikeB_yes x v k h, decide_eq_true_eq, alike_zero ((wideB_iff x v k).1 h).1]
theorem alike_mem {k v x : Nat} (hk : k ≤ 16) (hk2 : 2 ≤ k) (hv : 2 ≤ v) : (v : Int) ∈ cntsL k v x ↔ Alike k v x := by
  rw [alike_count]
  unfold cntsL
  rw [List.mem_map]
  constructor
  · rintro ⟨d, _, hd⟩
    exact ⟨d, by omega⟩
  · rintro ⟨d, hd⟩
    have hd16 : d < k := by
      refine Classical.byContradiction fun hno => ?_
      have : cntW k v x d = 0 := List.count_eq_zero.2 fun hx => by have := digW_mem hk2 v x d hx; omega
      omega
    exact ⟨d, List.mem_range.2 (by omega), by rw [hd]⟩
theorem alike_eq (n v b : Int) (h : wideB n v b = true) : (downI n v b == upI n v b) = alikeB n v b := by
  have hl := left_sub n v b h
  obtain ⟨x, y, k, rfl, rfl, rfl, h1, h2, h3, h4, h5⟩ := wideB_nat h
  rw [leftI_yes x y k h] at hl
  rw [alikeB_yes x y k h, Bool.eq_iff_iff]
  simp only [beq_iff_eq, decide_eq_true_eq]
  omega
end Pl

theorem Arr.ints {W : World} {B : Nat} {c : List Int} (h : Arr W B c) (hl : c.length = 16) : Ints W (.slice (some ⟨B, 0, none⟩) 16 16) c := by
  refine ⟨some ⟨B, 0, none⟩, 16, by rw [hl], fun j hj => ⟨B, 0, rfl, ?_⟩⟩
  rw [Nat.zero_add]
  exact (h.cell hj).1

theorem wpList_store_arr {W : World} {ops : Array Oper} {rest : List Oper} {o : Oper} {a : Act} {Q : Exit → Act → World → Prop} (hg : o.guard = none) (x y : Operand) (hop : o.op = .store 48 x y) {B : Nat} {c c' : List Int}
    (hx : a.eval x = .pointer (some ⟨B, 0, none⟩)) (hy : a.eval y = .agg (c'.map (Value.int .i64)).toArray) (hA : Arr W B c) (hl : c.length = 16) (hl' : c'.length = 16)
    (hK : ∀ W', Arr W' B c' → (∀ n, n ≤ B → Below n W W') → wpList Try.prog ops Q rest (a.put o.dst undef) W') :
    wpList Try.prog ops Q (o :: rest) a W := by
  refine wpList_store_row hg 48 x y hop B _ hx hy 48 _ hA (by rw [info_arr16]; simp [hl']) (by simp [hl, hl']) (by simp [Value.oneCell']) ?_
  exact hK _ (setRow_heap _ _ _ _ _ _ hA) fun n hn => below_setRow (Below.refl _ _) hn _

theorem zeros16 : #[Value.int IntKind.i64 0, Value.int IntKind.i64 0, Value.int IntKind.i64 0, Value.int IntKind.i64 0, Value.int IntKind.i64 0, Value.int IntKind.i64 0, Value.int IntKind.i64 0, Value.int IntKind.i64 0, Value.int IntKind.i64 0, Value.int IntKind.i64 0, Value.int IntKind.i64 0, Value.int IntKind.i64 0, Value.int IntKind.i64 0, Value.int IntKind.i64 0, Value.int IntKind.i64 0, Value.int IntKind.i64 0] = ((List.replicate 16 (0 : Int)).map (Value.int .i64)).toArray := rfl

theorem new_zeros (W : World) : Arr (W.alloc (.cells #[Value.int IntKind.i64 0, Value.int IntKind.i64 0, Value.int IntKind.i64 0, Value.int IntKind.i64 0, Value.int IntKind.i64 0, Value.int IntKind.i64 0, Value.int IntKind.i64 0, Value.int IntKind.i64 0, Value.int IntKind.i64 0, Value.int IntKind.i64 0, Value.int IntKind.i64 0, Value.int IntKind.i64 0, Value.int IntKind.i64 0, Value.int IntKind.i64 0, Value.int IntKind.i64 0, Value.int IntKind.i64 0] 48)) W.heap.size (List.replicate 16 0) := by
  rw [zeros16]; exact Arr.new W _

set_option maxRecDepth 100000 in
set_option maxHeartbeats 2000000 in
theorem implAlikeOk (n v b : Int) (w : World) :
    Calls Try.prog 30 #[.int .i64 n, .int .i64 v, .int .i64 b] w fun e w' => e = .returned (.bool (Pl.alikeB n v b)) ∧ Below w.heap.size w w' := by
  by_cases h : Pl.wideB n v b = true
  · obtain ⟨x, y, k, rfl, rfl, rfl, h1, h2, h3, h4, h5⟩ := Pl.wideB_nat h
    have HA : Hid (decide ((y : Int) ∈ Pl.cntsL k y x) = Pl.alikeB x y k) := Lib.hid (by
      rw [Bool.eq_iff_iff, decide_eq_true_eq, Pl.alike_mem h2 h1 h3, Pl.alikeB_iff x y k h])
    have H := Lib.hid (widthCounts x y k h1 h2 h3 h4 h5)
    have HL := Lib.hid (Pl.cntsL_len k y x)
    clear h5
    generalize Pl.cntsL k y x = C at *
    generalize Pl.alikeB x y k = A at *
    go_enter Try.func30, Try.ntmps30
    go_wp2_with (go_at_call 16; refine (implWideOk _ _ _ _).mono ?_; rintro e w1 ⟨rfl, b1⟩; rw [h])
    refine (H.out _).mono ?_
    rintro e w2 ⟨rfl, b2⟩
    go_wp2_with (first | (refine wpList_store_arr rfl (.tmp 7) (.tmp 17) rfl rfl rfl (new_zeros w2) (by simp) HL.out ?_; intro w3 hA3 hB3; have HI := Lib.hid (hA3.ints HL.out); have hb3 : Below w2.heap.size w2 w3 := ((Below.refl _ w2).alloc (Nat.le_refl _) _).trans (hB3 _ (Nat.le_refl _)); clear hA3 hB3) | (go_at_call 54; refine (sliceContains _ C _ _ HI.out (by rw [HL.out]; omega)).mono ?_; rintro e w4 ⟨rfl, rfl⟩; rw [HA.out]))
    go_ret
    exact ⟨rfl, (b1.trans (b2.mono b1.size)).trans (hb3.mono (Nat.le_trans b1.size b2.size))⟩
  · rw [Pl.alikeB_no h]
    have h' : Pl.wideB n v b = false := by simpa using h
    clear h
    go_enter Try.func30, Try.ntmps30
    go_wp2_with (go_at_call 16; refine (implWideOk _ _ _ _).mono ?_; rintro e w1 ⟨rfl, b1⟩; rw [h'])
    go_ret
    exact ⟨rfl, b1⟩

set_option maxHeartbeats 400000 in
theorem specAlikeOk (n v b : Int) (w : World) :
    Calls Try.prog 36 #[.int .i64 n, .int .i64 v, .int .i64 b] w fun e w' => e = .returned (.bool (Pl.alikeB n v b)) ∧ Below w.heap.size w w' := by
  by_cases h : Pl.wideB n v b = true
  · have HA := Lib.hid (Pl.alike_eq n v b h)
    have HD := Lib.hid (specDownOf n v b)
    have HU := Lib.hid (specUpOf n v b)
    generalize Pl.downI n v b = D at *
    generalize Pl.upI n v b = U at *
    generalize Pl.alikeB n v b = A at *
    go_enter Try.func36, Try.ntmps36
    go_wp2_with (first | (go_at_call 17; refine (specWideOk _ _ _ _).mono ?_; rintro e w' ⟨rfl, rfl⟩; rw [h]) | (go_at_call 22; refine (HD.out _).mono ?_; rintro e w1 ⟨rfl, b1⟩) | (go_at_call 26; refine (HU.out _).mono ?_; rintro e w2 ⟨rfl, b2⟩))
    go_ret
    exact ⟨ret_bool HA.out, b1.trans (b2.mono b1.size)⟩
  · rw [Pl.alikeB_no h]
    have h' : Pl.wideB n v b = false := by simpa using h
    clear h
    go_enter Try.func36, Try.ntmps36
    go_wp2_with (go_at_call 17; refine (specWideOk _ _ _ _).mono ?_; rintro e w' ⟨rfl, rfl⟩; rw [h'])
    go_ret
    exact ⟨rfl, Below.refl _ _⟩

set_option maxHeartbeats 400000 in
theorem FnExactAlikeOk_walk (a0 : Int) (a1 : Int) (a2 : Int) (w : World) (_w0 : (Lit.int .i64 a0).wf = true) (_w1 : (Lit.int .i64 a1).wf = true) (_w2 : (Lit.int .i64 a2).wf = true) :
    Calls Try.prog 14 #[.int .i64 a0, .int .i64 a1, .int .i64 a2] w fun e w' => e = .returned (.bool true) ∧ Below w.heap.size w w' := by
  generalize hA : Pl.alikeB a0 a1 a2 = A
  have HS : Hid (∀ W, Calls Try.prog 36 #[.int .i64 a0, .int .i64 a1, .int .i64 a2] W fun e w' => e = .returned (.bool A) ∧ Below W.heap.size W w') := Lib.hid (hA ▸ specAlikeOk a0 a1 a2)
  have HI : Hid (∀ W, Calls Try.prog 30 #[.int .i64 a0, .int .i64 a1, .int .i64 a2] W fun e w' => e = .returned (.bool A) ∧ Below W.heap.size W w') := Lib.hid (hA ▸ implAlikeOk a0 a1 a2)
  clear hA
  cases A
  all_goals
    go_enter Try.func14, Try.ntmps14
    go_wp2_with (first | (go_at_call 36; refine (HS.out _).mono ?_; rintro e w1 ⟨rfl, b1⟩) | (go_at_call 30; refine (HI.out _).mono ?_; rintro e w2 ⟨rfl, b2⟩))
    go_ret
    exact ⟨rfl, b1.trans (b2.mono b1.size)⟩

end Go.Proofs.Ytepkneeedkmaoaa
