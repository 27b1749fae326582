/-
  slices.Repeat of a row of one number, a few times: the number as often, in new memory.
-/
import Derived.Test.YtepkneeedkmaoaaShelf
import Derived.Test.YtepkneeedkmaoaaMark
import Derived.Test.YtepkneeedkmaoaaDigits
import Derived.Laws.CopyOwn
import Derived.Deep.RegionLaw
namespace Go.Proofs.Ytepkneeedkmaoaa
open Go.RowKit Go.Shelf

theorem mulOne (C : Nat) (hC : C ≤ 16) (w : World) :
    Calls Try.prog 63 #[.int .u64 1, .int .u64 (C : Int)] w fun e w' => e = .returned (.tuple #[.int .u64 0, .int .u64 (C : Int)]) ∧ w = w' := by
  have h := Any.bits_Mul Try.lays212 1 C (by omega) (by omega) w
  have e1 : 1 * C / 18446744073709551616 = 0 := Nat.div_eq_of_lt (by omega)
  have e2 : 1 * C % 18446744073709551616 = C := by rw [Nat.one_mul]; exact Nat.mod_eq_of_lt (by omega)
  rw [e1, e2] at h
  exact h.mono fun e w' ⟨h1, h2⟩ => ⟨h1, h2.symm⟩

/-- A block of numbers. -/
def Blk (W : World) (B : Nat) (c : List Int) : Prop := W.heap[B]? = some (.cells (c.map (Value.int .i64)).toArray 3 (0, 0))

theorem Row.blk {base : Nat} {W : World} {B n : Nat} {xs : List Int} (h : Row base W (.slice (some ⟨B, 0, none⟩) n n) xs) (hn : xs.length = n) : Blk W B xs := by
  subst hn
  rcases h.2 with ⟨h0, _⟩ | ⟨g, cap, cur, hv, hg, hh, h1, h2, h3, h4⟩
  · cases h0
  · obtain ⟨h5, _, h6⟩ : (some (⟨B, 0, none⟩ : Addr) = some ⟨g, 0, none⟩) ∧ xs.length = xs.length ∧ xs.length = cap := by
      injection hv with e1 e2 e3; exact ⟨e1, e2, e3⟩
    have hB : B = g := by simpa using h5
    subst hB
    subst h6
    unfold Blk
    rw [hh]
    congr 2
    apply Array.ext'
    rw [← h4]
    exact (List.take_of_length_le (by simp; omega)).symm

theorem Blk.row {base : Nat} {W : World} {B n : Nat} {xs : List Int} (h : Blk W B xs) (hn : xs.length = n) (hb : base ≤ B) (hm : n ≤ maxLen) : Row base W (.slice (some ⟨B, 0, none⟩) n n) xs := by
  subst hn
  refine ⟨by simp, .inr ⟨B, xs.length, _, rfl, hb, h, Nat.le_refl _, hm, by simp, ?_⟩⟩
  exact List.take_of_length_le (by simp)

theorem Blk.cell {W : World} {B : Nat} {c : List Int} (h : Blk W B c) {j : Nat} (hj : j < c.length) : W.cell? ⟨B, j, none⟩ = some (.int .i64 (c[j]?.getD 0)) := by
  unfold Blk at h
  rw [cell_of_row W B j _ _ _ h]
  simp [hj]

theorem news_blk {W : World} {B : Nat} {c : List Int} (h : Blk W B c) {ys : List Int} (hy : ∀ j, j < ys.length → c[j]? = ys[j]?) : ∀ j u, (ys.map (Value.int .i64))[j]? = some u → W.cell? ((⟨B, 0, none⟩ : Addr).add j) = some u := by
  intro j u hu
  have hj : j < ys.length := by have := (List.getElem?_eq_some_iff.1 hu).1; simpa using this
  have e : (⟨B, 0, none⟩ : Addr).add j = ⟨B, j, none⟩ := by
    unfold Addr.add; split <;> simp_all
  have hc := hy j hj
  have hjc : j < c.length := by
    rw [List.getElem?_eq_getElem hj] at hc
    exact (List.getElem?_eq_some_iff.1 hc).1
  rw [e, h.cell hjc, hc, ← hu, List.getElem?_map, List.getElem?_eq_getElem hj]; rfl

theorem repeat_step (d : Int) (n m C : Nat) : splice ((List.replicate n d ++ List.replicate (C - n) 0).map (Value.int .i64)) n ((List.replicate m d).map (Value.int .i64)) = (List.replicate (n + m) d ++ List.replicate (C - (n + m)) 0).map (Value.int .i64) := by
  unfold splice
  rw [List.map_append, List.length_map, List.length_replicate, List.take_left' (by simp), List.drop_append]
  simp only [List.length_replicate, List.map_append, List.map_replicate, List.drop_replicate]
  rw [show n - (n + m) = 0 by omega, show n + m - n = m by omega, show C - n - m = C - (n + m) by omega, List.replicate_zero, List.nil_append, ← List.append_assoc, List.replicate_append_replicate]

theorem made_blk {w w0 : World} {C : Nat} (h : w0.ownsRow w.heap.size 3 1 (.slice (some ⟨w.heap.size, 0, none⟩) C C) C (madeCells (Value.int .i64 0).cells C).toList) : Blk w0 w.heap.size (List.replicate C 0) := by
  refine Row.blk (base := w.heap.size) (n := C) ?_ (by simp)
  unfold Row
  have e : (madeCells (Value.int .i64 0).cells C).toList = (List.replicate C (0 : Int)).map (Value.int .i64) := by
    rw [show (Value.int .i64 0).cells = #[.int .i64 0] from rfl, toList_madeCells_one]; simp
  rw [e] at h
  simpa using h

theorem src_one {w : World} {a : Addr} {d : Int} {M : Nat} (h : w.cell? a = some (.int .i64 d)) (hM : M ≤ 1) : ∀ j u, ((List.replicate M d).map (Value.int .i64))[j]? = some u → w.cell? (a.add j) = some u := by
  intro j u hu
  have hj := (List.getElem?_eq_some_iff.1 hu).1
  simp at hj
  obtain rfl : j = 0 := by omega
  have e : a.add 0 = a := by unfold Addr.add; simp
  rw [e, h, ← hu, List.map_replicate, List.getElem?_replicate, if_pos hj]

set_option maxHeartbeats 2000000 in
theorem repeatOne (v : Value) (d : Int) (C : Nat) (hC : C ≤ 16) (w : World) (hv : Ints w v [d]) :
    Calls Try.prog 62 #[v, .int .i64 C] w (ListPost w (List.replicate C d)) := by
  obtain ⟨a, cap, rfl, ha⟩ := hv
  obtain ⟨b, off, rfl, hc⟩ := ha 0 (by simp)
  simp only [List.length_singleton, Nat.add_zero, List.getElem?_cons_zero, Option.getD_some] at hc ⊢
  clear ha
  obtain ⟨i0, hi0, hz0, hz1, hz2⟩ := info_parts info_int
  have hu : IntKind.u64.wrap (C : Int) = (C : Int) := by rw [IntKind.wrap_u64]; omega
  have hk : IntKind.i64.wrap (C : Int) = (C : Int) := IntWalk.i64_in _ (by omega)
  have hblt := World.block_lt_of_cell? _ _ hc
  obtain ⟨M, hM⟩ : ∃ M, Nat.min 1 C = M := ⟨_, rfl⟩
  have hM1 : M ≤ C := by rw [← hM]; exact Nat.min_le_right _ _
  have hM2 : 1 ≤ C → M = 1 := fun h => by rw [← hM]; exact Nat.min_eq_left h
  have HM := Lib.hid hM
  have HM2 := Lib.hid hM2
  clear hM hM2
  have hinfo : (Try.prog.info? 3).map (·.size) = some 1 := by rw [hi0]; simp [hz1]
  have HM1 : Hid (M ≤ 1) := Lib.hid (by rw [← HM.out]; exact Nat.min_le_left _ _)
  go_enter Try.func62, Try.ntmps62
  go_wp2_with (first | (go_at_call 63; refine (mulOne C hC _).mono ?_; rintro e w' ⟨rfl, rfl⟩) | (at_make; refine wpList_make_full _ rfl _ _ 30 rfl w.heap.size 3 i0 (.int .i64 0) 1 Try.underlying30 hi0 hz0 hz1 .i64 .i64 _ _ C rfl rfl rfl rfl (by rw [hz2]; omega) (by unfold maxLen; omega) (Nat.le_refl _) ?_; intro w0 hown0 hgrow0; have hb0 : Below w.heap.size w w0 := (Below.refl _ w).grown hgrow0 (Nat.le_refl _) (fun k e => by cases e); have HSRC := Lib.hid (src_one ((hb0.cell (p := ⟨b, off, none⟩) hblt).trans hc) HM1.out); have HR0 := Lib.hid (made_blk (by rw [Nat.mul_one] at hown0; exact hown0)); clear hown0 hgrow0) | (refine wpList_copy_splice rfl (.tmp 31) (.tmp 32) 30 30 rfl 3 Try.underlying30 hinfo (some ⟨w.heap.size, 0, none⟩) (some ⟨b, off, none⟩) C C 1 cap rfl rfl w.heap.size 0 _ 3 HR0.out ((List.replicate M d).map (Value.int .i64)) (by rw [← HM.out]; simp) (fun _ => ⟨rfl, _, rfl, HSRC.out⟩) (by simp; omega) (by simp [Value.oneCell']) w.heap.size w hb0 (Nat.le_refl _) ?_; intro w1 hw1 hb1))
  have hr1 : Blk w1 w.heap.size (List.replicate M d ++ List.replicate (C - M) 0) := by
    have h1 := hw1.out
    have h2 := repeat_step d 0 M C
    rw [List.replicate_zero, List.nil_append, Nat.sub_zero, Nat.zero_add] at h2
    rw [h2] at h1
    exact h1
  have hb1' : Below w.heap.size w w1 := hb1
  clear hw1 hb1 hb0 hc
  go_loopw [8] (fun nv wr => ∃ n : Nat, (1 ≤ C → 1 ≤ n) ∧ n ≤ C ∧ nv = .int .i64 n ∧ Blk wr w.heap.size (List.replicate n d ++ List.replicate (C - n) 0) ∧ Below w.heap.size w wr) (fun nv _ => C - (intOf nv).toNat)
  case atStart => exact ⟨M, fun h => by rw [HM2.out h]; omega, hM1, rfl, hr1, hb1'⟩
  case round =>
    clear hr1 hb1'
    obtain ⟨n, hn1, hn2, rfl, hr, hbw⟩ := hrel
    have HR := Lib.hid hr
    clear hr
    by_cases hlt : n < C
    · have hn3 : 1 ≤ n := hn1 (by omega)
      obtain ⟨m, hm⟩ : ∃ m, Nat.min n (C - n) = m := ⟨_, rfl⟩
      have hm1 : m ≤ C - n := by rw [← hm]; exact Nat.min_le_right _ _
      have hm2 : 1 ≤ m := by rw [← hm]; exact Nat.le_min.2 ⟨hn3, by omega⟩
      have hm3 : m ≤ n := by rw [← hm]; exact Nat.min_le_left _ _
      have hi : (n : Int) < (C : Int) := by omega
      have HM3 := Lib.hid hm
      have HSRC : Hid (∀ j u, ((List.replicate m d).map (Value.int .i64))[j]? = some u → wr.drew.cell? ((⟨w.heap.size, 0, none⟩ : Addr).add j) = some u) := Lib.hid (news_blk (W := wr.drew) HR.out fun j hj => by
        simp at hj
        rw [List.getElem?_append_left (by simp; omega), List.getElem?_replicate, List.getElem?_replicate, if_pos (by omega), if_pos hj])
      have hwr : IntKind.i64.wrap ((n : Int) + (m : Int)) = (n : Int) + (m : Int) := IntWalk.i64_in _ (by omega)
      clear hm hn1
      go_wp2_with fail
      go_region_law (refine step_copy_splice rfl (.tmp 41) (.tmp 44) 30 30 rfl 3 Try.underlying30 hinfo (some ⟨w.heap.size, n, none⟩) (some ⟨w.heap.size, 0, none⟩) (C - n) (C - n) n C (by simp [Act.eval, Act.put]; omega) (by simp [Act.eval, Act.put]) w.heap.size n _ 3 HR.out ((List.replicate m d).map (Value.int .i64)) (by rw [HM3.out]; simp) (fun _ => ⟨rfl, _, rfl, HSRC.out⟩) (by simp; omega) (by simp [Value.oneCell']) w.heap.size w hbw.drew (Nat.le_refl _) ?_; intro w2 hw2 hb2)
      have HRN : Hid (Blk w2 w.heap.size (List.replicate (n + m) d ++ List.replicate (C - (n + m)) 0)) := Lib.hid (by
        have h1 := hw2.out
        rw [repeat_step] at h1
        exact h1)
      clear hw2
      go_wp2_with fail
      go_roundw
      case rel =>
        exact ⟨n + m, fun _ => by omega, by omega, by simp, HRN.out⟩
      case measure => simp [intOf]; omega
    · obtain rfl : n = C := by omega
      have hi : ¬ (n : Int) < (n : Int) := by omega
      go_wp2_with fail
      go_ret
      refine ⟨_, rfl, ?_, hbw⟩
      have := HR.out
      rw [Nat.sub_self, List.replicate_zero, List.append_nil] at this
      exact this.row (by simp) (Nat.le_refl _) (by unfold maxLen; omega)

end Go.Proofs.Ytepkneeedkmaoaa
