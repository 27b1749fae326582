/-
  impl.DigitProduct, impl.PersistsOf (with productsFrom), impl.LeastPersisting (with leastTried and its closure), impl.NoNought; the exact laws.
-/
import Derived.Test.YtmmafbncpeahlaaSumOf
import Derived.Test.YtmmafbncpeahlaaSpecProd
namespace Go.Proofs.Ytmmafbncpeahlaa
open Go.RowKit Go.Shelf

attribute [local go_sem] Oper.semAt_some

namespace Pl
/-- The product of what has come, as it is kept. -/
def stepP (p : Int) (d : Nat) : Int := IntKind.i64.wrap (p * (d : Int))
def prodDg (l : List Dg) : Int := (l.map (·.1)).foldl stepP 1
theorem prodDg_snoc (l : List Dg) (d : Dg) : prodDg (l ++ [d]) = IntKind.i64.wrap (prodDg l * (d.1 : Int)) := by simp [prodDg, stepP]
theorem wrap_wrap_mul (a d : Int) : IntKind.i64.wrap (IntKind.i64.wrap a * d) = IntKind.i64.wrap (a * d) := by
  rw [IntKind.wrap_i64, IntKind.wrap_i64 a, IntKind.wrap_i64 (a * d)]
  have h : ∀ m : Int, ((a + m) % 18446744073709551616 - m) * d % 18446744073709551616 = a * d % 18446744073709551616 := by
    intro m
    rw [Int.sub_mul, Int.sub_emod, Int.mul_emod ((a + m) % 18446744073709551616) d, Int.emod_emod, ← Int.mul_emod, ← Int.sub_emod, ← Int.sub_mul, Int.add_sub_cancel]
  have h2 := h 9223372036854775808
  have h3 := Int.emod_add_emod (((a + 9223372036854775808) % 18446744073709551616 - 9223372036854775808) * d) 18446744073709551616 9223372036854775808
  have h4 := Int.emod_add_emod (a * d) 18446744073709551616 9223372036854775808
  rw [h2] at h3
  rw [← h3, h4]
theorem foldl_wrap : ∀ (l : List Nat) (p q : Int), IntKind.i64.wrap p = IntKind.i64.wrap q → IntKind.i64.wrap (l.foldl stepP p) = IntKind.i64.wrap (q * ((l.foldr (· * ·) 1 : Nat) : Int)) := by
  intro l
  induction l with
  | nil => intro p q h; simpa using h
  | cons a t ih =>
    intro p q h
    rw [List.foldl_cons, ih _ (q * (a : Int))]
    · rw [List.foldr_cons, Int.natCast_mul, Int.mul_assoc]
    · unfold stepP
      have e : IntKind.i64.wrap (IntKind.i64.wrap (p * (a : Int))) = IntKind.i64.wrap (p * (a : Int)) := by
        have := wrap_wrap_mul (p * (a : Int)) 1
        simpa using this
      rw [e, ← wrap_wrap_mul p, h, wrap_wrap_mul]
theorem prodDg_all {b x : Nat} (hb : 2 ≤ b) (hb' : b ≤ 16) (hx : x ≤ 1000000000) : prodDg (digsF b x) = ((prodD b x : Nat) : Int) := by
  have hle := prodD_le hb x
  have hw : IntKind.i64.wrap (prodDg (digsF b x)) = ((prodD b x : Nat) : Int) := by
    rw [prodDg, foldl_wrap _ 1 1 rfl, digsF_val hb hb', Int.one_mul]
    exact IntWalk.i64_in _ (by rw [← prodD]; omega)
  have hid : IntKind.i64.wrap (prodDg (digsF b x)) = prodDg (digsF b x) := by
    generalize digsF b x = L
    rcases List.eq_nil_or_concat L with rfl | ⟨l, d, rfl⟩
    · exact IntWalk.i64_in 1 (by omega)
    · rw [List.concat_eq_append, prodDg_snoc]
      have := wrap_wrap_mul (prodDg l * (d.1 : Int)) 1
      simpa using this
  rw [← hid, hw]
end Pl

set_option maxRecDepth 100000 in
set_option maxHeartbeats 2000000 in
theorem digitProductYes (x b : Nat) (hb : 2 ≤ b) (hb' : b ≤ 16) (hx : x ≤ 1000000000) (w : World) :
    Calls Try.prog 12 #[.int .i64 x, .int .i64 b] w fun e W' => e = .returned (.int .i64 ((Pl.prodD b x : Nat) : Int)) ∧ Below w.heap.size w W' := by
  refine (callsIn_wide (n := 5)).1 ?_
  have h1 : 1 ≤ 5 := by omega
  have hok : Pl.okB x b = true := by rw [Pl.okB_iff]; omega
  have hN := Pl.digsR_len30 hb hx
  refine callsIn_of_wp_marks Try.func12 rfl trivial ?_ rfl
  simp only [Try.ntmps12, List.size_toArray, List.length_cons, List.length_nil, Nat.reduceAdd, Nat.reduceSub, Array.replicate_succ, Array.replicate_zero, List.push_toArray, List.append_toArray, List.nil_append, List.cons_append]
  gi_wp2_with (first | (refine ⟨trivial, ?_⟩; gi_at_call 31; refine (callsIn_wide.2 (hasDigits _ _ _)).mono ?_; rintro e w' ⟨rfl, rfl⟩) | (refine ⟨trivial, ?_⟩; gi_at_call 32; refine (lastFirst Fence.wide (5 - 1) trivial rfl _ _ _).mono ?_; rintro e w' ⟨rfl, rfl⟩))
  have hs := cell_new_l w (.int .i64 1) 3
  have c1 := cell_new_l (w.alloc (.cells #[.int .i64 1] 3)) (.int .i64 x) 3
  have c2 := cell_new_l ((w.alloc (.cells #[.int .i64 1] 3)).alloc (.cells #[.int .i64 x] 3)) (.int .i64 b) 3
  simp only [World.size_alloc] at c1 c2
  have hB0 : Below w.heap.size w (((w.alloc (.cells #[.int .i64 1] 3)).alloc (.cells #[.int .i64 x] 3)).alloc (.cells #[.int .i64 b] 3)) := (((Below.refl _ w).alloc (Nat.le_refl _) _).alloc (by simp) _).alloc (by simp; omega) _
  refine wpIn_rangeFunc_ownF (F := Fence.wide) rfl h1 (gf := 45) (lb := #[.pointer (some ⟨w.heap.size + 1, 0, none⟩), .pointer (some ⟨w.heap.size + 1 + 1, 0, none⟩)]) rfl trivial (enters_of Try.func45 (by kernel_rfl) rfl)
    (lastFirst_stops Fence.wide (5 - 1) trivial rfl (by omega) (w.heap.size + 1) x b hb hb' hx _ (by simp) (cell_alloc_l _ c1.1) c2.1) Kept.trans (kept_b (by simp)) (Below.refl _ _) (fun _ => rfl)
    (fun pre W => (W.cell? ⟨w.heap.size, 0, none⟩ = some (.int .i64 (Pl.prodDg pre)) ∧ W.frozen? ⟨w.heap.size, 0, none⟩ = false) ∧ Below w.heap.size w W)
    (fun _ _ _ => False)
    (OwnFrom.and (Own.from (fun s A B row hs hg hr => ⟨cell_kept hs.1 hg hr, (frozen_kept hs.1 hg hr).trans hs.2⟩) _) (ownFrom_below (Nat.le_refl _) (by simp; omega)))
    (fun _ _ _ _ _ hs _ _ => hs)
    ⟨⟨cell_alloc_l _ (cell_alloc_l _ hs.1), frozen_alloc_l _ (cell_alloc_l _ hs.1) (frozen_alloc_l _ hs.1 hs.2)⟩, hB0⟩
    (fun d => { tmps := #[.int .i64 x, .int .i64 b, undef, undef, .int .i64 0, .pointer (some ⟨w.heap.size, 0, none⟩), .int .i64 (d.1 : Int), .int .i64 x, .int .i64 b, .bool true, .bool false, .int .i64 x, .int .i64 b,
      .func (.func 45) #[] #[.pointer (some ⟨w.heap.size + 1, 0, none⟩), .pointer (some ⟨w.heap.size + 1 + 1, 0, none⟩)], .int .i64 (d.1 : Int), undef, undef, undef, undef], defers := [] }) ?assign ?body ?done ?stop
  case assign =>
    intro l d W K hK
    gi_wp2
    exact hK
  case body =>
    rintro l pre d W ⟨⟨hc, hf⟩, hB⟩ hlen
    have hs := Pl.prodDg_snoc pre d
    have HS := Lib.hid hs
    clear hs
    generalize Pl.prodDg pre = P at *
    gi_wp2
    exact ⟨KeepsOthers.setCell _ _ _, (Kept.refl W).setCell (p := ⟨w.heap.size, 0, none⟩) (.inl (by simp)) _, ⟨by rw [HS.out, IntWalk.i64_left]; exact World.cell?_setCell_same' _ _ _ (by rw [hc]; rfl), by rw [World.frozen?_setCell]; exact hf⟩, hB.setCell (p := ⟨w.heap.size, 0, none⟩) (Nat.le_refl _) _⟩
  case done =>
    rintro D ys W hD rfl ⟨⟨hc, _⟩, hB⟩ hK
    rw [Pl.prodDg_all hb hb' hx] at hc
    gi_wp2
    refine ⟨by simp, .inl ⟨_, _, rfl, run_takeDeferred hK, ?_⟩⟩
    exact ⟨_, results_tmp rfl _ _ _, rfl, hB.trans (belowK_b (w := w) (Nat.le_refl _) W D _ _ (by simp at hD; omega) hK rfl rfl)⟩
  case stop =>
    rintro D c pre W _ _ h _
    exact h.elim

set_option maxHeartbeats 400000 in
theorem implDigitProduct (n b : Int) (w : World) :
    Calls Try.prog 12 #[.int .i64 n, .int .i64 b] w fun e W' => e = .returned (.int .i64 (Pl.prodI n b)) ∧ Below w.heap.size w W' := by
  by_cases h : Pl.okB n b = true
  · obtain ⟨x, k, rfl, rfl, h1, h2, h3⟩ := Pl.okB_nat h
    rw [Pl.prodI_yes x k h]
    exact digitProductYes x k h1 h2 h3 w
  · rw [Pl.prodI_no h]
    go_enter Try.func12, Try.ntmps12
    go_wp2_with (go_at_call 31; refine (hasDigits _ _ _).mono ?_; rintro e w' ⟨rfl, rfl⟩)
    go_ret
    exact ⟨rfl, Below.refl _ _⟩

set_option maxHeartbeats 400000 in
theorem implNoNought (n b : Int) (w : World) :
    Calls Try.prog 20 #[.int .i64 n, .int .i64 b] w fun e W' => e = .returned (.bool (Pl.noB n b)) ∧ Below w.heap.size w W' := by
  have HP := Lib.hid (implDigitProduct n b)
  unfold Pl.noB
  generalize Pl.prodI n b = P at *
  go_enter Try.func20, Try.ntmps20
  go_wp2_with fail
  refine (HP.out _).mono ?_
  rintro e w1 ⟨rfl, hb1⟩
  go_wp2
  go_ret
  exact ⟨rfl, hb1⟩

set_option maxHeartbeats 400000 in
theorem productsFrom (b : Nat) (hb : 2 ≤ b) (hb' : b ≤ 16) (x : Nat) : x ≤ 1000000000 → ∀ (w : World),
    Calls Try.prog 41 #[.int .i64 x, .int .i64 b] w fun e w' => e = .returned (.tuple #[.int .i64 (((Pl.persN b x).1 : Nat) : Int), .int .i64 (((Pl.persN b x).2 : Nat) : Int)]) ∧ Below w.heap.size w w' := by
  induction x using Nat.strongRecOn with
  | _ x ih =>
    intro hx w
    by_cases hlt : x < b
    · have h1 := Lib.hid (Pl.persN_lt hlt)
      clear ih
      go_enter Try.func41, Try.ntmps41
      go_wp2_with fail
      go_ret2
      exact ⟨by rw [h1.out]; rfl, Below.refl _ _⟩
    · have hless := Pl.prodD_less hb (n := x) (by omega)
      have hfew := Pl.persN_le hb (Pl.prodD b x)
      have HD := Lib.hid (digitProductYes x b hb hb' hx)
      have hok : Pl.okB (x : Int) (b : Int) = true := by rw [Pl.okB_iff]; omega
      have IH : Hid (∀ (W : World), Calls Try.prog 41 #[.int .i64 (Pl.prodD b x), .int .i64 b] W fun e w' => e = .returned (.tuple #[.int .i64 (((Pl.persN b (Pl.prodD b x)).1 : Nat) : Int), .int .i64 (((Pl.persN b (Pl.prodD b x)).2 : Nat) : Int)]) ∧ Below W.heap.size W w') :=
        Lib.hid fun W => ih (Pl.prodD b x) hless (by omega) W
      have h1 := Lib.hid (Pl.persN_ge hb (n := x) (by omega))
      clear ih hok
      generalize Pl.persN b (Pl.prodD b x) = Q at *
      generalize Pl.prodD b x = P at *
      go_enter Try.func41, Try.ntmps41
      go_wp2_with fail
      refine (HD.out _).mono ?_
      rintro e w1 ⟨rfl, hb1⟩
      go_wp2_with fail
      refine (IH.out _).mono ?_
      rintro e w2 ⟨rfl, hb2⟩
      go_wp2
      go_ret2
      exact ⟨by rw [h1.out]; simp, hb1.trans (hb2.mono hb1.size)⟩

set_option maxHeartbeats 400000 in
theorem implPersistsOf (n b : Int) (w : World) :
    Calls Try.prog 18 #[.int .i64 n, .int .i64 b] w fun e w' => e = .returned (.tuple #[.int .i64 (Pl.peK (Pl.persA n b)), .int .i64 (Pl.peL (Pl.persA n b)), .bool (Pl.peB (Pl.persA n b))]) ∧ Below w.heap.size w w' := by
  by_cases h : Pl.okB n b = true
  · obtain ⟨x, k, rfl, rfl, h1, h2, h3⟩ := Pl.okB_nat h
    rw [Pl.persA_yes x k h]
    go_enter Try.func18, Try.ntmps18
    go_wp2_with (go_at_call 31; refine (hasDigits _ _ _).mono ?_; rintro e w' ⟨rfl, rfl⟩)
    refine (productsFrom k h1 h2 x h3 _).mono ?_
    rintro e w1 ⟨rfl, hb1⟩
    go_wp2
    go_ret3
    exact ⟨rfl, hb1⟩
  · rw [Pl.persA_no h]
    go_enter Try.func18, Try.ntmps18
    go_wp2_with (go_at_call 31; refine (hasDigits _ _ _).mono ?_; rintro e w' ⟨rfl, rfl⟩)
    go_ret3
    exact ⟨rfl, Below.refl _ _⟩

set_option maxHeartbeats 400000 in
/-- The closure that is asked: whether a number takes so many steps. -/
theorem takesSo (n s b : Int) (B C : Nat) (w : World) (hB : w.cell? ⟨B, 0, none⟩ = some (.int .i64 b)) (hC : w.cell? ⟨C, 0, none⟩ = some (.int .i64 s)) (hl : C < w.heap.size) :
    Calls Try.prog 43 #[.int .i64 n, .pointer (some ⟨B, 0, none⟩), .pointer (some ⟨C, 0, none⟩)] w fun e w' => e = .returned (.bool (Pl.peK (Pl.persA n b) == s)) ∧ Below w.heap.size w w' := by
  have HP := Lib.hid (implPersistsOf n b)
  generalize Pl.peK (Pl.persA n b) = K at *
  generalize Pl.peL (Pl.persA n b) = L at *
  generalize Pl.peB (Pl.persA n b) = T at *
  go_enter Try.func43, Try.ntmps43
  go_wp2_with fail
  refine (HP.out _).mono ?_
  rintro e w1 ⟨rfl, hb1⟩
  have hC1 := (Below.cell (p := ⟨C, 0, none⟩) hb1 hl).trans hC
  go_wp2
  go_ret
  exact ⟨rfl, hb1⟩

set_option maxHeartbeats 1000000 in
theorem leastTried (S k : Nat) (hb : 2 ≤ k) (hb' : k ≤ 16) (B C : Nat) (w : World) (hB : w.cell? ⟨B, 0, none⟩ = some (.int .i64 k)) (hC : w.cell? ⟨C, 0, none⟩ = some (.int .i64 S)) (hBl : B < w.heap.size) (hl : C < w.heap.size) :
    Calls Try.prog 42 #[.func (.func 43) #[] #[.pointer (some ⟨B, 0, none⟩), .pointer (some ⟨C, 0, none⟩)]] w fun e w' => e = .returned (.int .i64 (Pl.leastI S k)) ∧ Below w.heap.size w w' := by
  have hbase : Pl.baseB k = true := by rw [Pl.baseB_iff]; omega
  have HI : Hid ((∀ x, x ≤ 3000 → (Pl.persN k x).1 = S → (∀ y, y < x → (Pl.persN k y).1 ≠ S) → Pl.leastI (S : Int) (k : Int) = (x : Int)) ∧ ((∀ x, x ≤ 3000 → (Pl.persN k x).1 ≠ S) → Pl.leastI (S : Int) (k : Int) = -1)) :=
    Lib.hid ⟨fun x g1 g2 g3 => Pl.leastI_some hbase (Pl.leastO_of g1 g2 g3), fun g => Pl.leastI_none (Pl.leastO_no g)⟩
  have HP : Hid (∀ x : Nat, x ≤ 3000 → Pl.peK (Pl.persA (x : Int) (k : Int)) = (((Pl.persN k x).1 : Nat) : Int)) := Lib.hid fun x hx => by
    rw [Pl.persA_yes x k (by rw [Pl.okB_iff]; omega)]; rfl
  have HC := Lib.hid hC
  have HB := Lib.hid hB
  clear hC hB hbase
  generalize Pl.leastI (S : Int) (k : Int) = R at *
  go_enter Try.func42, Try.ntmps42
  go_wp2_with fail
  go_loopw [4] (fun i wr => ∃ x : Nat, x ≤ 3001 ∧ i = .int .i64 x ∧ (∀ y, y < x → (Pl.persN k y).1 ≠ S) ∧ Below w.heap.size w wr) (fun i _ => 3001 - (intOf i).toNat)
  case atStart => exact ⟨0, by omega, rfl, fun y hy => by omega, Below.refl _ _⟩
  case round =>
    obtain ⟨x, hx, rfl, hno, hbw⟩ := hrel
    have HNO := Lib.hid hno
    clear hno
    by_cases hlt : x ≤ 3000
    · have hi : (x : Int) < 3001 := by omega
      have hsz := hbw.size
      have HT := Lib.hid (takesSo (x : Int) S k B C wr ((Below.cell (p := ⟨B, 0, none⟩) hbw hBl).trans HB.out) ((Below.cell (p := ⟨C, 0, none⟩) hbw hl).trans HC.out) (by omega))
      rw [HP.out x hlt] at HT
      by_cases he : (Pl.persN k x).1 = S
      · have ht : ((((Pl.persN k x).1 : Nat) : Int) == (S : Int)) = true := by rw [he]; simp
        have HR : Hid (R = (x : Int)) := Lib.hid (HI.out.1 x hlt he HNO.out)
        rw [ht] at HT
        clear he ht
        go_wp2_with fail
        refine HT.out.mono ?_
        rintro e w1 ⟨rfl, hb1⟩
        go_wp2
        go_ret
        exact ⟨ret_int HR.out.symm, hbw.trans (hb1.mono hsz)⟩
      · have ht : ((((Pl.persN k x).1 : Nat) : Int) == (S : Int)) = false := by rw [beq_eq_false_iff_ne]; omega
        have HN : Hid (∀ y, y < x + 1 → (Pl.persN k y).1 ≠ S) := Lib.hid fun y hy => by
          by_cases h : y = x
          · rw [h]; exact he
          · exact HNO.out y (by omega)
        rw [ht] at HT
        clear he ht HNO
        go_wp2_with fail
        refine HT.out.mono ?_
        rintro e w1 ⟨rfl, hb1⟩
        go_wp2_with fail
        go_roundw
        case rel => exact ⟨x + 1, by omega, by go_num, HN.out, hbw.trans (hb1.mono hsz)⟩
        case measure => simp [intOf]; omega
    · have hi : ¬ (x : Int) < 3001 := by omega
      have HR : Hid (R = -1) := Lib.hid (HI.out.2 fun y hy => HNO.out y (by omega))
      go_wp2_with fail
      go_ret
      exact ⟨ret_int HR.out.symm, hbw⟩

set_option maxHeartbeats 1000000 in
theorem implLeastPersisting (s b : Int) (w : World) :
    Calls Try.prog 22 #[.int .i64 s, .int .i64 b] w fun e w' => e = .returned (.int .i64 (Pl.leastI s b)) ∧ Below w.heap.size w w' := by
  have k0 := cell_new_l w (.int .i64 s) 3
  have k1 := cell_new_l (w.alloc (.cells #[.int .i64 s] 3)) (.int .i64 b) 3
  have k0' := cell_alloc_l (.cells #[.int .i64 b] 3) k0.1
  simp only [World.size_alloc] at k1
  have hbw : Below w.heap.size w ((w.alloc (.cells #[.int .i64 s] 3)).alloc (.cells #[.int .i64 b] 3)) := ((Below.refl _ w).alloc (Nat.le_refl _) _).alloc (by simp) _
  have hz : ((w.alloc (.cells #[.int .i64 s] 3)).alloc (.cells #[.int .i64 b] 3)).heap.size = w.heap.size + 2 := by simp
  by_cases hB : Pl.baseB b = true
  · by_cases hs : 0 ≤ s
    · obtain ⟨S, rfl⟩ : ∃ S : Nat, s = (S : Int) := ⟨s.toNat, by omega⟩
      obtain ⟨k, rfl, q1, q2⟩ : ∃ k : Nat, b = (k : Int) ∧ 2 ≤ k ∧ k ≤ 16 := by
        rw [Pl.baseB_iff] at hB; exact ⟨b.toNat, by omega, by omega, by omega⟩
      have hs' : ¬ (S : Int) < 0 := by omega
      go_enter Try.func22, Try.ntmps22
      go_wp2_with (go_at_call 36; refine (implBaseOk _ _).mono ?_; rintro e w' ⟨rfl, rfl⟩; rw [hB])
      refine (leastTried S k q1 q2 (w.heap.size + 1) w.heap.size _ k1.1 k0' (by omega) (by omega)).mono ?_
      rintro e w1 ⟨rfl, hb1⟩
      go_wp2
      go_ret
      exact ⟨rfl, hbw.trans (hb1.mono hbw.size)⟩
    · rw [Pl.leastI_no (fun h => hs h.1)]
      have hs' : s < 0 := by omega
      go_enter Try.func22, Try.ntmps22
      go_wp2_with (go_at_call 36; refine (implBaseOk _ _).mono ?_; rintro e w' ⟨rfl, rfl⟩; rw [hB])
      go_ret
      exact ⟨rfl, hbw⟩
  · rw [Pl.leastI_no (fun h => hB h.2)]
    have hB' : Pl.baseB b = false := by simpa using hB
    clear hB
    go_enter Try.func22, Try.ntmps22
    go_wp2_with (go_at_call 36; refine (implBaseOk _ _).mono ?_; rintro e w' ⟨rfl, rfl⟩; rw [hB'])
    go_ret
    exact ⟨rfl, hbw⟩

set_option maxHeartbeats 1000000 in
theorem FnExactDigitProduct_walk (a0 : Int) (a1 : Int) (w : World) (_w0 : (Lit.int .i64 a0).wf = true) (_w1 : (Lit.int .i64 a1).wf = true) :
    Calls Try.prog 7 #[.int .i64 a0, .int .i64 a1] w fun e w' => e = .returned (.bool true) ∧ Below w.heap.size w w' := by
  have HS := Lib.hid (specDigitProduct a0 a1)
  have HI := Lib.hid (implDigitProduct a0 a1)
  generalize Pl.prodI a0 a1 = G0 at *
  go_enter Try.func7, Try.ntmps7
  go_wp2_with (first | (go_at_call 13; refine (HS.out _).mono ?_; rintro e w' ⟨rfl, rfl⟩) | (go_at_call 12; refine (HI.out _).mono ?_; rintro e w2 ⟨rfl, hb2⟩))
  all_goals
    go_ret
    exact ⟨rfl, hb2⟩

set_option maxHeartbeats 1000000 in
theorem FnExactPersistsOf_walk (a0 : Int) (a1 : Int) (w : World) (_w0 : (Lit.int .i64 a0).wf = true) (_w1 : (Lit.int .i64 a1).wf = true) :
    Calls Try.prog 8 #[.int .i64 a0, .int .i64 a1] w fun e w' => e = .returned (.bool true) ∧ Below w.heap.size w w' := by
  have HS := Lib.hid (specPersistsOf a0 a1)
  have HI := Lib.hid (implPersistsOf a0 a1)
  generalize Pl.peK (Pl.persA a0 a1) = G0 at *
  generalize Pl.peL (Pl.persA a0 a1) = G1 at *
  generalize Pl.peB (Pl.persA a0 a1) = G2 at *
  go_enter Try.func8, Try.ntmps8
  go_wp2_with (first | (go_at_call 19; refine (HS.out _).mono ?_; rintro e w' ⟨rfl, rfl⟩) | (go_at_call 18; refine (HI.out _).mono ?_; rintro e w2 ⟨rfl, hb2⟩))
  all_goals
    go_ret
    exact ⟨rfl, hb2⟩

set_option maxHeartbeats 1000000 in
theorem FnExactLeastPersisting_walk (a0 : Int) (a1 : Int) (w : World) (_w0 : (Lit.int .i64 a0).wf = true) (_w1 : (Lit.int .i64 a1).wf = true) :
    Calls Try.prog 9 #[.int .i64 a0, .int .i64 a1] w fun e w' => e = .returned (.bool true) ∧ Below w.heap.size w w' := by
  have HS := Lib.hid (specLeastPersisting a0 a1)
  have HI := Lib.hid (implLeastPersisting a0 a1)
  generalize Pl.leastI a0 a1 = G0 at *
  go_enter Try.func9, Try.ntmps9
  go_wp2_with (first | (go_at_call 23; refine (HS.out _).mono ?_; rintro e w' ⟨rfl, rfl⟩) | (go_at_call 22; refine (HI.out _).mono ?_; rintro e w2 ⟨rfl, hb2⟩))
  all_goals
    go_ret
    exact ⟨rfl, hb2⟩

set_option maxHeartbeats 1000000 in
theorem FnExactNoNought_walk (a0 : Int) (a1 : Int) (w : World) (_w0 : (Lit.int .i64 a0).wf = true) (_w1 : (Lit.int .i64 a1).wf = true) :
    Calls Try.prog 10 #[.int .i64 a0, .int .i64 a1] w fun e w' => e = .returned (.bool true) ∧ Below w.heap.size w w' := by
  have HS := Lib.hid (specNoNought a0 a1)
  have HI := Lib.hid (implNoNought a0 a1)
  generalize Pl.noB a0 a1 = G0 at *
  go_enter Try.func10, Try.ntmps10
  go_wp2_with (first | (go_at_call 25; refine (HS.out _).mono ?_; rintro e w' ⟨rfl, rfl⟩) | (go_at_call 20; refine (HI.out _).mono ?_; rintro e w2 ⟨rfl, hb2⟩))
  all_goals
    go_ret
    exact ⟨rfl, hb2⟩

end Go.Proofs.Ytmmafbncpeahlaa
