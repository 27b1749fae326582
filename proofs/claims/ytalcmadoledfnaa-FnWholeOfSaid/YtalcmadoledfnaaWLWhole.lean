/-
  The walk of the law of WholeOf: numbers tell their digits.
-/
import Derived.Test.YtalcmadoledfnaaDrawWhole
import Derived.Test.YtalcmadoledfnaaBehind
import Derived.Test.YtalcmadoledfnaaMathRow
import Derived.Test.YtalcmadoledfnaaWLDigits
import Derived.Test.YtalcmadoledfnaaMark
namespace Go.Proofs.Ytalcmadoledfnaa
open Go.RowKit

theorem whole_none_or (xs : List Int) (b : Int) : Pl.whole xs b = none ∨ ∃ y, Pl.whole xs b = some y := by
  cases Pl.whole xs b with
  | none => exact .inl rfl
  | some y => exact .inr ⟨y, rfl⟩

theorem ok_of_le' {y k : Nat} (h1 : 2 ≤ k) (h2 : k ≤ 16) (h : y ≤ 1000000000) : Pl.okB (y : Int) (k : Int) = true := by rw [Pl.okB_iff]; omega

set_option maxHeartbeats 2000000 in
theorem FnWholeOf_walk (a0 : Option Addr) (len0 cap0 : Nat) (z0 : List Int) (w : World) (w0 : IsRow .u8 w a0 len0 cap0 z0) :
    Calls Try.prog 5 #[.slice a0 len0 cap0] w fun e w' => e = .returned (.bool true) ∧ Below w.heap.size w w' := by
  by_cases hl : 1048576 < len0
  · go_enter Try.func5, Try.ntmps5
    go_wp2
    go_ret
    exact ⟨rfl, Below.refl _ _⟩
  · obtain ⟨i0, hi0, hz0, hz1, hz2⟩ := info_parts info_int
    go_enter Try.func5, Try.ntmps5
    go_wp2_with fail
    refine (drawWholeOf _ _ _ _ _ w0).mono ?_
    rintro e w1 ⟨v, xs, b, rfl, r1, hlen, ⟨b1, b2⟩, hb1⟩
    clear w0
    obtain ⟨a1, cap1, rfl⟩ := r1.shape
    go_wp2_with fail
    refine (implWholeOf _ xs b w1 r1.ints (by omega)).mono ?_
    rintro e w' ⟨rfl, rfl⟩
    go_wp2_with fail
    refine (specWholeOf _ xs b w1 r1.ints (by omega)).mono ?_
    rintro e w' ⟨rfl, rfl⟩
    rcases whole_none_or xs b with hR | ⟨y, hR⟩
    · rw [hR, show Pl.wV none = -1 from rfl, show Pl.wB none = false from rfl]
      clear hR
      go_wp2_with (go_at_call 22; refine (alive _).mono ?_; rintro e w' ⟨rfl, rfl⟩)
      go_ret
      exact ⟨rfl, hb1⟩
    · obtain ⟨k, rfl, k1, k2, hne, hwh, hy⟩ := Pl.whole_some hR
      have hzero := Pl.whole_zero hR
      rw [hR, show Pl.wV (some y) = (y : Int) from rfl, show Pl.wB (some y) = true from rfl]
      have hpos : 0 < xs.length := List.length_pos_iff.2 hne
      obtain ⟨g1, cap1', hv, hg1, hlt1⟩ := World.ownsRow.form r1 hpos
      obtain ⟨rfl, rfl⟩ : a1 = some ⟨g1, 0, none⟩ ∧ cap1 = cap1' := by simpa using hv
      have hnews := row_news r1
      have hrow : xs[0]?.getD 0 = 0 → 1 < xs.length ∨ xs.length = 1 := fun _ => by omega
      have hdig : ¬ (xs[0]?.getD 0 = 0 ∧ 1 < xs.length) → Pl.digA (y : Int) k = xs := fun h => by
        rw [Pl.digA_yes y k (ok_of_le' k1 k2 hy)]
        exact Pl.row_of_whole k1 hwh hne fun h0 => by
          by_cases h1 : 1 < xs.length
          · exact absurd ⟨h0, h1⟩ h
          · omega
      have hc0 := (Row.cellAt r1 rfl 0 hpos).1
      have HI := Lib.hid r1.ints
      have HD := Lib.hid (implDigitsOf (y : Int) k)
      have HDig := Lib.hid hdig
      have HZ := Lib.hid hzero
      have HNews := Lib.hid hnews
      have hown0 := row_one w1 0
      clear hR hzero hwh hdig hrow hnews hv hne r1 hl
      go_wp2_with (at_builtin; refine wpList_append_own _ rfl _ _ 28 rfl w1.heap.size 3 i0 (.int .i64 0) 1 8 Try.underlying28 hi0 hz0 hz1 hz2 rfl (by decide) _ 1 [.int .i64 0] rfl hown0 ⟨g1, 0, none⟩ xs.length cap1 (xs.map (Value.int .i64)) rfl (by simp) (fun j u hu => cell_alloc_l _ (HNews.out j u hu)) (by simp [Value.oneCell']) (by unfold maxLen; omega) (by omega) (by simp) ?_; intro v3 w3 hown3 hgrow3 _)
      have hb3 : Below w1.heap.size w1 w3 := below_append ((Below.refl _ w1).alloc (Nat.le_refl _) _) hown0 hgrow3
      have r3 : Row w1.heap.size w3 v3 ([0] ++ xs) := row_app (by simpa using hown3)
      have c3 : Below w.heap.size w w3 := hb1.trans (hb3.mono hb1.size)
      refine (implWholeOf _ ([0] ++ xs) k w3 r3.ints (by simp; omega)).mono ?_
      rintro e w' ⟨rfl, rfl⟩
      rw [show [0] ++ xs = 0 :: xs from rfl, HZ.out, show Pl.wV (some y) = (y : Int) from rfl, show Pl.wB (some y) = true from rfl]
      have hc3 : w3.cell? ⟨g1, 0, none⟩ = some (.int .i64 (xs[0]?.getD 0)) := (hb3.cell (p := ⟨g1, 0, none⟩) hlt1).trans hc0
      have I3 := Lib.hid (HI.out.below hb3)
      clear hown3 hgrow3 hc0 hown0 r3 HNews HI HZ
      obtain ⟨n, hn⟩ : ∃ n, xs.length = n := ⟨_, rfl⟩
      rw [hn] at hpos hlen I3 HDig ⊢
      have HN := Lib.hid hn
      clear hn
      generalize hd : xs[0]?.getD 0 = d at *
      have Hd := Lib.hid hd
      clear hd
      have hn0 : (0 : Int) < (n : Int) := by omega
      by_cases hdz : d = 0
      · subst hdz
        by_cases h1 : 1 < n
        · go_wp2
          go_ret
          exact ⟨rfl, c3⟩
        · have hD := HDig.out (fun h => h1 h.2)
          rw [hD] at HD
          have hlen1 : decide ((1 : Int) < (n : Int)) = false := decide_eq_false (by omega)
          clear HDig hD
          go_wp2_with fail
          refine (HD.out _).mono ?_
          rintro e w4 ⟨v4, rfl, r4, hb4⟩
          go_wp2_with fail
          refine (sameInts_same _ _ xs w4 r4.ints (I3.out.below hb4) (by have := HN.out; omega)).mono ?_
          rintro e w5 ⟨rfl, hb5⟩
          have c4 := c3.trans (hb4.mono c3.size)
          go_wp2
          go_ret
          exact ⟨rfl, c4.trans (hb5.mono c4.size)⟩
      · have hD := HDig.out (fun h => hdz h.1)
        rw [hD] at HD
        have hde : (d == 0) = false := by simpa using hdz
        clear HDig hD hdz
        go_wp2_with fail
        refine (HD.out _).mono ?_
        rintro e w4 ⟨v4, rfl, r4, hb4⟩
        go_wp2_with fail
        refine (sameInts_same _ _ xs w4 r4.ints (I3.out.below hb4) (by have := HN.out; omega)).mono ?_
        rintro e w5 ⟨rfl, hb5⟩
        have c4 := c3.trans (hb4.mono c3.size)
        go_wp2
        go_ret
        exact ⟨rfl, c4.trans (hb5.mono c4.size)⟩

end Go.Proofs.Ytalcmadoledfnaa
