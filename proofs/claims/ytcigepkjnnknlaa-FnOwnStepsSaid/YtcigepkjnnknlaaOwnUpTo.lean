/-
  impl.OwnUpTo, spec.OwnUpTo: all own numbers up to a number, in new memory; the exact law.
-/
import Derived.Test.YtcigepkjnnknlaaOwnSum
import Derived.Test.YtcigepkjnnknlaaMark
import Derived.Test.YtcigepkjnnknlaaWDigitsOf
namespace Go.Proofs.Ytcigepkjnnknlaa
open Go.RowKit Go.Shelf

set_option maxRecDepth 100000 in
set_option maxHeartbeats 2000000 in
theorem ownUpYes (M : Nat) (r b : Int) (h : Pl.ownB M r b = true) (w : World) :
    Calls Try.prog 20 #[.int .i64 M, .int .i64 r, .int .i64 b] w (ListPost w (Pl.ownPart r b (M + 1))) := by
  obtain ⟨i0, hi0, hz0, hz1, hz2⟩ := info_parts info_int
  have hM := ((Pl.ownB_iff M r b).1 h).2.1
  go_enter Try.func20, Try.ntmps20
  go_wp2_with (go_at_call 32; refine (ownTold _ _ _ _).mono ?_; rintro e w' ⟨rfl, rfl⟩; rw [h])
  go_loopw [7, 16] (fun v i wr => ∃ (k : Nat) (vv : Value), vv = v ∧ k ≤ M + 1 ∧ i = .int .i64 k ∧ Row w.heap.size wr vv (Pl.ownPart r b k) ∧ Below w.heap.size w wr) (fun _ i _ => M + 1 - (intOf i).toNat)
  case atStart => exact ⟨0, _, rfl, by omega, rfl, World.ownsRow_nil _ _ _ _, Below.refl _ _⟩
  case round =>
    obtain ⟨k, vv, rfl, hk, rfl, hr, hbw⟩ := hrel
    by_cases hlt : k < M + 1
    · have hi : (k : Int) < (M : Int) + 1 := by omega
      have hlen := Pl.ownPart_len r b k
      cases hok : Pl.ownOkB (k : Int) r b with
      | false =>
        have HS := Lib.hid (Pl.ownPart_not hok)
        generalize Pl.ownPart r b k = L at *
        go_wp2_with fail
        refine (implOwnOk _ _ _ _).mono ?_
        rintro e w2 ⟨rfl, b2⟩
        rw [hok]
        go_wp2_with fail
        go_roundw
        case rel => exact ⟨k + 1, _, rfl, by omega, by simp, by rw [HS.out]; exact hr.below b2, hbw.trans (b2.mono hbw.size)⟩
        case measure => simp [intOf]; omega
      | true =>
        have HS := Lib.hid (Pl.ownPart_yes hok)
        generalize Pl.ownPart r b k = L at *
        go_wp2_with fail
        refine (implOwnOk _ _ _ _).mono ?_
        rintro e w2 ⟨rfl, b2⟩
        rw [hok]
        have hr2 : w2.ownsRow w.heap.size 3 1 vv L.length (L.map (Value.int .i64)) := hr.below b2
        have hsz := hbw.size
        have hsz2 := b2.size
        clear hr
        go_wp2_with (at_builtin; refine wpList_append_own _ rfl _ _ 30 rfl w.heap.size 3 i0 (.int .i64 0) 1 8 Try.underlying30 hi0 hz0 hz1 hz2 rfl (by decide) _ _ _ rfl (hr2.alloc _) ⟨w2.heap.size, 0, none⟩ 1 1 [.int .i64 (k : Int)] rfl rfl (cell_one_new _ _ _) (by simp [Value.oneCell']) (by unfold maxLen; omega) (by omega) (by simp; omega) ?_; intro v6 w6 hown6 hgrow6 _)
        have hb6 : Below w.heap.size w w6 := below_append ((hbw.trans (b2.mono hsz)).alloc (by omega) _) (hr2.alloc _) hgrow6
        go_roundw
        case rel => exact ⟨k + 1, _, rfl, by omega, by simp, by rw [HS.out]; exact row_snoc hown6, hb6⟩
        case measure => simp [intOf]; omega
    · obtain rfl : k = M + 1 := by omega
      have hi : ¬ ((M + 1 : Nat) : Int) < (M : Int) + 1 := by omega
      obtain ⟨a', cap', rfl⟩ := hr.shape
      have HR := Lib.hid hr
      clear hr
      go_wp2_with fail
      go_ret
      exact ⟨_, rfl, HR.out, hbw⟩

set_option maxHeartbeats 400000 in
theorem implOwnUpTo (most r b : Int) (w : World) : Calls Try.prog 20 #[.int .i64 most, .int .i64 r, .int .i64 b] w (ListPost w (Pl.ownA most r b)) := by
  by_cases h : Pl.ownB most r b = true
  · obtain ⟨m, rfl⟩ := Int.eq_ofNat_of_zero_le ((Pl.ownB_iff most r b).1 h).1
    rw [Pl.ownA_yes m r b h]
    exact ownUpYes m r b h w
  · rw [Pl.ownA_no h]
    have h' : Pl.ownB most r b = false := by simpa using h
    clear h
    go_enter Try.func20, Try.ntmps20
    go_wp2_with (go_at_call 32; refine (ownTold _ _ _ _).mono ?_; rintro e w' ⟨rfl, rfl⟩; rw [h'])
    go_ret
    exact ⟨_, rfl, World.ownsRow_nil _ _ _ _, Below.refl _ _⟩

set_option maxRecDepth 100000 in
set_option maxHeartbeats 2000000 in
theorem specOwnUpTo (most r b : Int) (w : World) : Calls Try.prog 22 #[.int .i64 most, .int .i64 r, .int .i64 b] w (ListPost w (Pl.ownA most r b)) := by
  obtain ⟨i0, hi0, hz0, hz1, hz2⟩ := info_parts info_int
  have b0 : Below w.heap.size w (w.alloc (.cells #[] 3)) := (Below.refl _ _).alloc (Nat.le_refl _) _
  have r0 := row_empty w
  by_cases h : 0 ≤ most ∧ most ≤ 2000
  · obtain ⟨M, rfl⟩ := Int.eq_ofNat_of_zero_le h.1
    have hM : M ≤ 2000 := by omega
    rw [← Pl.ownA_part r b hM]
    have hM2 : (M : Int) ≤ 2000 := by omega
    clear h
    go_enter Try.func22, Try.ntmps22
    go_wp2_with fail
    go_loopw [7, 8] (fun v i wr => ∃ (k : Nat) (vv : Value), vv = v ∧ k ≤ M + 1 ∧ i = .int .i64 k ∧ Row w.heap.size wr vv (Pl.ownPart r b k) ∧ Below w.heap.size w wr) (fun _ i _ => M + 1 - (intOf i).toNat)
    case atStart => exact ⟨0, _, rfl, by omega, rfl, r0, b0⟩
    case round =>
      clear b0 r0
      obtain ⟨k, vv, rfl, hk, rfl, hr, hbw⟩ := hrel
      by_cases hlt : k < M + 1
      · have hi : (k : Int) ≤ (M : Int) := by omega
        have hlen := Pl.ownPart_len r b k
        cases hok : Pl.ownOkB (k : Int) r b with
        | false =>
          have HS := Lib.hid (Pl.ownPart_not hok)
          generalize Pl.ownPart r b k = L at *
          go_wp2_with fail
          refine (specOwnOk _ _ _ _).mono ?_
          rintro e w2 ⟨rfl, b2⟩
          rw [hok]
          go_wp2_with fail
          go_roundw
          case rel => exact ⟨k + 1, _, rfl, by omega, by simp, by rw [HS.out]; exact hr.below b2, hbw.trans (b2.mono hbw.size)⟩
          case measure => simp [intOf]; omega
        | true =>
          have HS := Lib.hid (Pl.ownPart_yes hok)
          generalize Pl.ownPart r b k = L at *
          go_wp2_with fail
          refine (specOwnOk _ _ _ _).mono ?_
          rintro e w2 ⟨rfl, b2⟩
          rw [hok]
          have hr2 : w2.ownsRow w.heap.size 3 1 vv L.length (L.map (Value.int .i64)) := hr.below b2
          have hsz := hbw.size
          have hsz2 := b2.size
          clear hr
          go_wp2_with (at_builtin; refine wpList_append_own _ rfl _ _ 30 rfl w.heap.size 3 i0 (.int .i64 0) 1 8 Try.underlying30 hi0 hz0 hz1 hz2 rfl (by decide) _ _ _ rfl (hr2.alloc _) ⟨w2.heap.size, 0, none⟩ 1 1 [.int .i64 (k : Int)] rfl rfl (cell_one_new _ _ _) (by simp [Value.oneCell']) (by unfold maxLen; omega) (by omega) (by simp; omega) ?_; intro v6 w6 hown6 hgrow6 _)
          have hb6 : Below w.heap.size w w6 := below_append ((hbw.trans (b2.mono hsz)).alloc (by omega) _) (hr2.alloc _) hgrow6
          go_roundw
          case rel => exact ⟨k + 1, _, rfl, by omega, by simp, by rw [HS.out]; exact row_snoc hown6, hb6⟩
          case measure => simp [intOf]; omega
      · obtain rfl : k = M + 1 := by omega
        have hi : ¬ ((M + 1 : Nat) : Int) ≤ (M : Int) := by omega
        obtain ⟨a', cap', rfl⟩ := hr.shape
        have HR := Lib.hid hr
        clear hr
        go_wp2_with fail
        go_ret
        exact ⟨_, rfl, HR.out, hbw⟩
  · have hno : ¬ Pl.ownB most r b = true := fun hh => h (by rw [Pl.ownB_iff] at hh; omega)
    rw [Pl.ownA_no hno]
    clear hno
    by_cases h0 : 0 ≤ most
    · have h1 : ¬ most ≤ 2000 := by omega
      clear h
      go_enter Try.func22, Try.ntmps22
      go_wp2_with fail
      go_loopw [7, 8] (fun v i wr => v = .slice (some ⟨w.heap.size, 0, none⟩) 0 0 ∧ i = .int .i64 0 ∧ wr = w.alloc (.cells #[] 3)) (fun _ _ _ => 0)
      case atStart => exact ⟨rfl, rfl, rfl⟩
      case round =>
        obtain ⟨rfl, rfl, rfl⟩ := hrel
        go_wp2_with fail
        go_ret
        exact ⟨_, rfl, r0, b0⟩
    · clear h
      go_enter Try.func22, Try.ntmps22
      go_wp2_with fail
      go_loopw [7, 8] (fun v i wr => v = .slice (some ⟨w.heap.size, 0, none⟩) 0 0 ∧ i = .int .i64 0 ∧ wr = w.alloc (.cells #[] 3)) (fun _ _ _ => 0)
      case atStart => exact ⟨rfl, rfl, rfl⟩
      case round =>
        obtain ⟨rfl, rfl, rfl⟩ := hrel
        go_wp2_with fail
        go_ret
        exact ⟨_, rfl, r0, b0⟩

set_option maxHeartbeats 1000000 in
theorem FnExactOwnUpTo_walk (a0 : Int) (a1 : Int) (a2 : Int) (w : World) (_w0 : (Lit.int .i64 a0).wf = true) (_w1 : (Lit.int .i64 a1).wf = true) (_w2 : (Lit.int .i64 a2).wf = true) :
    Calls Try.prog 9 #[.int .i64 a0, .int .i64 a1, .int .i64 a2] w fun e w' => e = .returned (.bool true) ∧ Below w.heap.size w w' := by
  have HS := Lib.hid (specOwnUpTo a0 a1 a2)
  have HI := Lib.hid (implOwnUpTo a0 a1 a2)
  have hlen := Pl.ownA_len a0 a1 a2
  generalize Pl.ownA a0 a1 a2 = L at *
  go_enter Try.func9, Try.ntmps9
  go_wp2_with fail
  refine (HS.out _).mono ?_
  rintro e w1 ⟨v0, rfl, r0, b0⟩
  go_wp2_with fail
  refine (HI.out _).mono ?_
  rintro e w2 ⟨v1, rfl, r1, b1⟩
  have i0 := r0.ints.below b1
  go_wp2_with fail
  refine (eqIntS _ _ L L w2 r1.ints i0 (by omega)).mono ?_
  rintro e w3 ⟨rfl, b2⟩
  rw [eqL_self]
  go_wp2_with fail
  refine (markIntS w1.heap.size _ L 1 w3 (r1.below b2) (by omega) (by omega) (by omega)).mono ?_
  rintro e w4 ⟨rfl, r4, b4⟩
  go_wp2_with fail
  refine (heldIntS _ 1 L.length w4 r4.ints (by omega) (by omega) (by omega)).mono ?_
  rintro e w5 ⟨rfl, rfl⟩
  go_wp2_with fail
  refine (HI.out _).mono ?_
  rintro e w6 ⟨v2, rfl, r6, b6⟩
  have c2 : Below w1.heap.size w1 w4 := (b1.trans (b2.mono b1.size)).trans b4
  have c6 : Below w1.heap.size w1 w6 := c2.trans (b6.mono c2.size)
  go_wp2_with fail
  refine (eqIntS _ _ L L w6 r6.ints (r0.ints.kept (Nat.le_refl _) c6) (by omega)).mono ?_
  rintro e w7 ⟨rfl, b7⟩
  rw [eqL_self]
  go_wp2_with fail
  refine (heldIntS _ 1 L.length w7 ((r4.ints.below b6).below b7) (by omega) (by omega) (by omega)).mono ?_
  rintro e w8 ⟨rfl, rfl⟩
  go_wp2
  go_ret
  exact ⟨rfl, (b0.trans (c6.mono b0.size)).trans (b7.mono (Nat.le_trans b0.size c6.size))⟩

end Go.Proofs.Ytcigepkjnnknlaa
