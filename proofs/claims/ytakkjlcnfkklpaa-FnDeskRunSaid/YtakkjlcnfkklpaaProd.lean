/-
  impl.DigitProduct, impl.PersistsOf (with productsFrom), impl.LeastPersisting (with leastTried and its closure), impl.NoNought; the exact laws.
-/
import Derived.Test.YtakkjlcnfkklpaaSumOf
import Derived.Test.YtakkjlcnfkklpaaSpecProd
namespace Go.Proofs.Ytakkjlcnfkklpaa
open Go.RowKit Go.Shelf

attribute [local go_sem] Oper.semAt_some

namespace Pl
/-- The product of what has come, as it is kept. -/
def stepP (p : Int) (d : Nat) : Int := IntKind.i64.wrap (p * (d : Int))
def prodDg (l : List Dg) : Int := (l.map (·.1)).foldl stepP 1
theorem prodDg_snoc (l : List Dg) (d : Dg) : prodDg (l ++ [d]) = IntKind.i64.wrap (prodDg l * (d.1 : Int)) := by simp [prodDg, stepP]
theorem wrap_wrap_mul (a d : Int) : IntKind.i64.wrap (IntKind.i64.wrap a * d) = IntKind.i64.wrap (a * d) := by
  rw [IntKind.wrap_i64, IntKind.wrap_i64 a, IntKind.wrap_i64 (a * d)]
  have h : ∀ m : Int, ((a + m) % 18446744073709551616 - m) * d % 18446744073709551616 = a * d % 18446744073709551616 := by
    intro m
    rw [Int.sub_mul, Int.sub_emod, Int.mul_emod ((a + m) % 18446744073709551616) d, Int.emod_emod, ← Int.mul_emod, ← Int.sub_emod, ← Int.sub_mul, Int.add_sub_cancel]
  have h2 := h 9223372036854775808
  have h3 := Int.emod_add_emod (((a + 9223372036854775808) % 18446744073709551616 - 9223372036854775808) * d) 18446744073709551616 9223372036854775808
  have h4 := Int.emod_add_emod (a * d) 18446744073709551616 9223372036854775808
  rw [h2] at h3
  rw [← h3, h4]
theorem foldl_wrap : ∀ (l : List Nat) (p q : Int), IntKind.i64.wrap p = IntKind.i64.wrap q → IntKind.i64.wrap (l.foldl stepP p) = IntKind.i64.wrap (q * ((l.foldr (· * ·) 1 : Nat) : Int)) := by
  intro l
  induction l with
  | nil => intro p q h; simpa using h
  | cons a t ih =>
    intro p q h
    rw [List.foldl_cons, ih _ (q * (a : Int))]
    · rw [List.foldr_cons, Int.natCast_mul, Int.mul_assoc]
    · unfold stepP
      have e : IntKind.i64.wrap (IntKind.i64.wrap (p * (a : Int))) = IntKind.i64.wrap (p * (a : Int)) := by
        have := wrap_wrap_mul (p * (a : Int)) 1
        simpa using this
      rw [e, ← wrap_wrap_mul p, h, wrap_wrap_mul]
theorem prodDg_all {b x : Nat} (hb : 2 ≤ b) (hb' : b ≤ 16) (hx : x ≤ 1000000000) : prodDg (digsF b x) = ((prodD b x : Nat) : Int) := by
  have hle := prodD_le hb x
  have hw : IntKind.i64.wrap (prodDg (digsF b x)) = ((prodD b x : Nat) : Int) := by
    rw [prodDg, foldl_wrap _ 1 1 rfl, digsF_val hb hb', Int.one_mul]
    exact IntWalk.i64_in _ (by rw [← prodD]; omega)
  have hid : IntKind.i64.wrap (prodDg (digsF b x)) = prodDg (digsF b x) := by
    generalize digsF b x = L
    rcases List.eq_nil_or_concat L with rfl | ⟨l, d, rfl⟩
    · exact IntWalk.i64_in 1 (by omega)
    · rw [List.concat_eq_append, prodDg_snoc]
      have := wrap_wrap_mul (prodDg l * (d.1 : Int)) 1
      simpa using this
  rw [← hid, hw]
end Pl

set_option maxRecDepth 100000 in
set_option maxHeartbeats 2000000 in
theorem digitProductYes (x b : Nat) (hb : 2 ≤ b) (hb' : b ≤ 16) (hx : x ≤ 1000000000) (w : World) :
    Calls Try.prog 65 #[.int .i64 x, .int .i64 b] w fun e W' => e = .returned (.int .i64 ((Pl.prodD b x : Nat) : Int)) ∧ Below w.heap.size w W' := by
  refine (callsIn_wide (n := 5)).1 ?_
  have h1 : 1 ≤ 5 := by omega
  have hok : Pl.okB x b = true := by rw [Pl.okB_iff]; omega
  have hN := Pl.digsR_len30 hb hx
  refine callsIn_of_wp_marks Try.func65 rfl trivial ?_ rfl
  simp only [Try.ntmps65, List.size_toArray, List.length_cons, List.length_nil, Nat.reduceAdd, Nat.reduceSub, Array.replicate_succ, Array.replicate_zero, List.push_toArray, List.append_toArray, List.nil_append, List.cons_append]
  gi_wp2_with (first | (refine ⟨trivial, ?_⟩; gi_at_call 39; refine (callsIn_wide.2 (hasDigits _ _ _)).mono ?_; rintro e w' ⟨rfl, rfl⟩) | (refine ⟨trivial, ?_⟩; gi_at_call 76; refine (lastFirst Fence.wide (5 - 1) trivial rfl _ _ _).mono ?_; rintro e w' ⟨rfl, rfl⟩))
  have hs := cell_new_l w (.int .i64 1) 3
  have c1 := cell_new_l (w.alloc (.cells #[.int .i64 1] 3)) (.int .i64 x) 3
  have c2 := cell_new_l ((w.alloc (.cells #[.int .i64 1] 3)).alloc (.cells #[.int .i64 x] 3)) (.int .i64 b) 3
  simp only [World.size_alloc] at c1 c2
  have hB0 : Below w.heap.size w (((w.alloc (.cells #[.int .i64 1] 3)).alloc (.cells #[.int .i64 x] 3)).alloc (.cells #[.int .i64 b] 3)) := (((Below.refl _ w).alloc (Nat.le_refl _) _).alloc (by simp) _).alloc (by simp; omega) _
  refine wpIn_rangeFunc_ownF (F := Fence.wide) rfl h1 (gf := 85) (lb := #[.pointer (some ⟨w.heap.size + 1, 0, none⟩), .pointer (some ⟨w.heap.size + 1 + 1, 0, none⟩)]) rfl trivial (enters_of Try.func85 (by kernel_rfl) rfl)
    (lastFirst_stops Fence.wide (5 - 1) trivial rfl (by omega) (w.heap.size + 1) x b hb hb' hx _ (by simp) (cell_alloc_l _ c1.1) c2.1) Kept.trans (kept_b (by simp)) (Below.refl _ _) (fun _ => rfl)
    (fun pre W => (W.cell? ⟨w.heap.size, 0, none⟩ = some (.int .i64 (Pl.prodDg pre)) ∧ W.frozen? ⟨w.heap.size, 0, none⟩ = false) ∧ Below w.heap.size w W)
    (fun _ _ _ => False)
    (OwnFrom.and (Own.from (fun s A B row hs hg hr => ⟨cell_kept hs.1 hg hr, (frozen_kept hs.1 hg hr).trans hs.2⟩) _) (ownFrom_below (Nat.le_refl _) (by simp; omega)))
    (fun _ _ _ _ _ hs _ _ => hs)
    ⟨⟨cell_alloc_l _ (cell_alloc_l _ hs.1), frozen_alloc_l _ (cell_alloc_l _ hs.1) (frozen_alloc_l _ hs.1 hs.2)⟩, hB0⟩
    (fun d => { tmps := #[.int .i64 x, .int .i64 b, undef, undef, .int .i64 0, .pointer (some ⟨w.heap.size, 0, none⟩), .int .i64 (d.1 : Int), .int .i64 x, .int .i64 b, .bool true, .bool false, .int .i64 x, .int .i64 b,
      .func (.func 85) #[] #[.pointer (some ⟨w.heap.size + 1, 0, none⟩), .pointer (some ⟨w.heap.size + 1 + 1, 0, none⟩)], .int .i64 (d.1 : Int), undef, undef, undef, undef], defers := [] }) ?assign ?body ?done ?stop
  case assign =>
    intro l d W K hK
    gi_wp2
    exact hK
  case body =>
    rintro l pre d W ⟨⟨hc, hf⟩, hB⟩ hlen
    have hs := Pl.prodDg_snoc pre d
    have HS := Lib.hid hs
    clear hs
    generalize Pl.prodDg pre = P at *
    gi_wp2
    exact ⟨KeepsOthers.setCell _ _ _, (Kept.refl W).setCell (p := ⟨w.heap.size, 0, none⟩) (.inl (by simp)) _, ⟨by rw [HS.out, IntWalk.i64_left]; exact World.cell?_setCell_same' _ _ _ (by rw [hc]; rfl), by rw [World.frozen?_setCell]; exact hf⟩, hB.setCell (p := ⟨w.heap.size, 0, none⟩) (Nat.le_refl _) _⟩
  case done =>
    rintro D ys W hD rfl ⟨⟨hc, _⟩, hB⟩ hK
    rw [Pl.prodDg_all hb hb' hx] at hc
    gi_wp2
    refine ⟨by simp, .inl ⟨_, _, rfl, run_takeDeferred hK, ?_⟩⟩
    exact ⟨_, results_tmp rfl _ _ _, rfl, hB.trans (belowK_b (w := w) (Nat.le_refl _) W D _ _ (by simp at hD; omega) hK rfl rfl)⟩
  case stop =>
    rintro D c pre W _ _ h _
    exact h.elim

set_option maxHeartbeats 400000 in
theorem implDigitProduct (n b : Int) (w : World) :
    Calls Try.prog 65 #[.int .i64 n, .int .i64 b] w fun e W' => e = .returned (.int .i64 (Pl.prodI n b)) ∧ Below w.heap.size w W' := by
  by_cases h : Pl.okB n b = true
  · obtain ⟨x, k, rfl, rfl, h1, h2, h3⟩ := Pl.okB_nat h
    rw [Pl.prodI_yes x k h]
    exact digitProductYes x k h1 h2 h3 w
  · rw [Pl.prodI_no h]
    go_enter Try.func65, Try.ntmps65
    go_wp2_with (go_at_call 39; refine (hasDigits _ _ _).mono ?_; rintro e w' ⟨rfl, rfl⟩)
    go_ret
    exact ⟨rfl, Below.refl _ _⟩

end Go.Proofs.Ytakkjlcnfkklpaa
