/-
  Chapter 12: the walk of the law of DeedText, its inputs drawn.
-/
import Derived.Test.YtdkgabdhodddkaaDoorDeedI
import Derived.Test.YtdkgabdhodddkaaDoorSpecDeed
import Derived.Test.YtdkgabdhodddkaaDoorDrawDeed
import Derived.Test.YtdkgabdhodddkaaDoorArgs
namespace Go.Proofs.YtdkgabdhodddkaaDoor
open Go.RowKit Go.Shelf

theorem FnDeedText_lib {W : World} (h : laidMetH Tryd.prog Rows.fnDeedTextRow.laid W) : LibOk W := by
  rw [MakeChecks.laidMetH_plain _ _ _ (by kernel_rfl)] at h
  exact lib_of_laid h

/-- A deed. -/
def DeedPost (w : World) (e : Ending) (w' : World) : Prop := ∃ k n : Int, e = .returned (.agg #[.int .i64 k, .int .i64 n]) ∧ Below w.heap.size w w'

set_option maxHeartbeats 400000 in
theorem drawDeedText (a : Option Addr) (len cap : Nat) (z : List Int) (w : World) (h : IsRow .u8 w a len cap z) :
    Calls Tryd.prog 6 #[.slice a len cap] w (DeedPost w) := by
  have h1 : IsRow .u8 (w.alloc (.cells #[.int .i64 0, .int .i64 0] 24)) a len cap z := h.stay ((Below.refl _ _).alloc (Nat.le_refl _) _)
  have R1 := SBox.new w 24 #[.int .i64 0, .int .i64 0]
  have b1 : Below w.heap.size w (w.alloc (.cells #[.int .i64 0, .int .i64 0] 24)) := (Below.refl _ _).alloc (Nat.le_refl _) _
  have z1 : w.heap.size < (w.alloc (.cells #[.int .i64 0, .int .i64 0] 24)).heap.size := by simp
  clear h
  go_enter Tryd.func6, Tryd.ntmps6
  go_upto_region 1 with (fail)
  generalize w.alloc (.cells #[.int .i64 0, .int .i64 0] 24) = W at *
  go_wp2_with fail
  refine (l20Open _ _ _ _ _ h1).mono ?_
  rintro e w1 ⟨r, rfl, hr⟩
  have hlt := hr.lt
  have R2 := R1.kept hr.below
  go_wp2_with fail
  refine (l20Deed W r 0 w1 hr (by omega)).mono ?_
  rintro e w2 ⟨k, n, rfl, hr2, hO⟩
  have R3 := R2.only hO (by omega)
  have b3 := b1.trans (hr2.below.mono b1.size)
  go_wp2_with (first | (refine deed_store rfl _ _ rfl rfl rfl R3 ?_; intro w9 hS9 hbl9 hsz9 hO9))
  refine bodyPost_ret (results_one rfl _ _ w.heap.size _ _ rfl hS9 rfl Tryd.underlying24 (by rw [size_deed]; rfl)) rfl ?_
  exact ⟨k, n, rfl, b3.trans (hbl9 w.heap.size (Nat.le_refl _))⟩

set_option maxRecDepth 100000 in
set_option maxHeartbeats 2000000 in
theorem FnDeedText_walk (a0 : Option Addr) (len0 cap0 : Nat) (z0 : List Int) (w : World) (w0 : IsRow .u8 w a0 len0 cap0 z0) (hL : LibOk w) :
    Calls Tryd.prog 3 #[.slice a0 len0 cap0] w fun e w' => e = .returned (.bool true) ∧ Below w.heap.size w w' := by
  by_cases hl : 1048576 < len0
  · go_enter Tryd.func3, Tryd.ntmps3
    go_wp2
    go_ret
    exact ⟨rfl, Below.refl _ _⟩
  · have HL := Lib.hid hL
    clear hL
    go_enter Tryd.func3, Tryd.ntmps3
    go_wp2_with fail
    refine (drawDeedText _ _ _ _ _ w0).mono ?_
    rintro e w1 ⟨k, n, rfl, hb1⟩
    clear w0
    have c1 := hb1.alloc hb1.size (.cells #[.int .i64 k, .int .i64 n] 24)
    have S1 := SBox.new w1 24 #[.int .i64 k, .int .i64 n]
    have HI := Lib.hid (fun W (h : TabOk W) => implDeedText k n W h)
    have HS := Lib.hid (fun W => specDeedText k n W)
    clear hb1
    go_wp2_with (first | (refine deed_load rfl _ rfl rfl S1 ?_))
    refine (HI.out _ (HL.out.below c1).tab).mono ?_
    rintro e w2 ⟨rfl, b2⟩
    have S2 := S1.kept b2
    have c2 := c1.trans (b2.mono c1.size)
    clear S1 c1 b2
    by_cases h0 : Pl.deedL k n = []
    · rw [h0] at HS
      rw [h0]
      have e0 : Pl.str [] = ⟨#[]⟩ := rfl
      rw [e0] at HS
      rw [e0]
      go_wp2_with (first | (refine deed_load rfl _ rfl rfl S2 ?_))
      refine (HS.out _).mono ?_
      rintro e w3 ⟨rfl, b3⟩
      have c3 := c2.trans (b3.mono c2.size)
      clear b3 c2 S2
      go_wp2_with (go_at_call 9; refine (alive _).mono ?_; rintro e w' ⟨rfl, rfl⟩)
      go_ret
      exact ⟨rfl, c3⟩
    · have hlen := Pl.deedL_len k n
      have HR := Lib.hid (fun W (h : LibOk W) => implReadDeed (Pl.str (Pl.deedL k n)) (by rw [Pl.str_size]; omega) W h)
      rw [show (Pl.str (Pl.deedL k n)).data.toList = Pl.deedL k n from rfl, Pl.readL_deed h0] at HR
      simp only [Pl.rdK, Pl.rdN, Pl.rdB] at HR
      have hne : (Pl.str (Pl.deedL k n)).toList.isEmpty = false := by
        rw [Lib.toList_data, Pl.str_data, Bool.eq_false_iff]
        intro h; exact h0 (List.isEmpty_iff.1 h)
      have hne2 : ¬ (Pl.str (Pl.deedL k n)).toList = [] := by
        rw [Lib.toList_data, Pl.str_data]; exact h0
      clear h0 hlen
      generalize Pl.str (Pl.deedL k n) = A at *
      go_wp2_with (first | (refine deed_load rfl _ rfl rfl S2 ?_))
      refine (HS.out _).mono ?_
      rintro e w3 ⟨rfl, b3⟩
      have S3 := S2.kept b3
      have c3 := c2.trans (b3.mono c2.size)
      clear b3 c2 S2
      go_wp2_with fail
      refine (HR.out _ (HL.out.below c3)).mono ?_
      rintro e w4 ⟨rfl, b4⟩
      have S4 := (S3.kept b4).alloc (.cells #[.int .i64 k, .int .i64 n] 24)
      have T4 := SBox.new w4 24 #[.int .i64 k, .int .i64 n]
      have c4' := c3.trans (b4.mono c3.size)
      have c4 := c4'.alloc c4'.size (.cells #[.int .i64 k, .int .i64 n] 24)
      have d0 := S4.cell 0
      have d1 := S4.cell 1
      have f0 := T4.cell 0
      have f1 := T4.cell 1
      clear b4 c3 S3 c4'
      go_wp2
      go_ret
      exact ⟨rfl, c4⟩

end Go.Proofs.YtdkgabdhodddkaaDoor
