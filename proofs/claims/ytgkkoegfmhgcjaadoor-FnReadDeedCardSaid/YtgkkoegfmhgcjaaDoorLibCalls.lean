/-
  The library's functions that texts call, at this program: numbers in decimal, texts cut.
-/
import Derived.Shelf.Strconv.Itoa3
import Derived.Shelf.Strings.Search2
import Derived.Test.YtgkkoegfmhgcjaaDoorShelf
import Derived.Test.YtgkkoegfmhgcjaaDoorLibOk
import Derived.Test.YtgkkoegfmhgcjaaDoorMathRead
import Derived.Test.YtgkkoegfmhgcjaaDoorSpecCut
namespace Go.Proofs.YtgkkoegfmhgcjaaDoor
open Go.RowKit Go.Shelf

theorem below_grown (w : World) (k : Nat) (os : Array Obj) : Below w.heap.size w (Go.Sort.grow (w.drewN k) os) :=
  ⟨rfl, rfl, rfl, by simp, fun _ hk => Go.Sort.heap_grow_old (w.drewN k) os hk⟩
theorem libItoa (u : Nat) (hu : u ≤ 1000000000000) (w : World) (h : TabOk w) :
    Calls Tryd.prog 21 #[.int .i64 u] w fun e w' => e = .returned (.string (Pl.str (Pl.decL u))) ∧ Below w.heap.size w w' := by
  refine (Any.strconv_Itoa Tryd.laysM171 u (by omega) (by omega) w h).mono ?_
  rintro e w' ⟨rfl, k, os, rfl⟩
  refine ⟨ret_str ?_, below_grown w k os⟩
  rw [Pl.itoa_dec]; rfl

set_option maxRecDepth 100000 in
set_option maxHeartbeats 1000000 in
theorem libCutIn (s : ByteArray) (c : UInt8) (hs : s.size ≤ 1000000000) (w : World) :
    Calls Tryd.prog 26 #[.string s, .string ⟨#[c]⟩] w fun e w' => e = .returned (.tuple #[.string (Pl.str (Pl.cut1 c s.data.toList).1), .string (Pl.str (Pl.cut1 c s.data.toList).2.1), .bool (Pl.cut1 c s.data.toList).2.2]) ∧ Below w.heap.size w w' := by
  have HI := Lib.hid (fun W => Any.stringslite_Index_one Tryd.lays219 s c W)
  rcases Pl.cut1_index c s with ⟨e1, e2⟩ | ⟨i, e1, hi, e2⟩
  · rw [e1] at HI
    have HE : Hid (Pl.cut1 c s.data.toList = (s.data.toList, [], false)) := Lib.hid e2
    clear e1 e2
    go_enter Tryd.func26, Tryd.ntmps26
    go_wp2_with fail
    refine (HI.out _).mono ?_
    rintro e w' ⟨rfl, rfl⟩
    go_wp2
    go_ret3
    rw [HE.out]
    exact ⟨rfl, Below.refl _ _⟩
  · rw [e1] at HI
    have h1 : s.extract 0 i = Pl.str (s.data.toList.take i) := by rw [Pl.extract_piece]; unfold Pl.pieceL; simp
    have h2 : s.extract (i + 1) s.size = Pl.str (s.data.toList.drop (i + 1)) := by
      rw [Pl.extract_piece, Pl.piece_rest _ _ (Pl.data_len s)]
    have HE : Hid (Pl.cut1 c s.data.toList = (s.data.toList.take i, s.data.toList.drop (i + 1), true)) := Lib.hid e2
    have H1 := Lib.hid h1
    have H2 := Lib.hid h2
    have i1 : (0 : Int) ≤ (i : Int) := by omega
    have i2 : (i : Int) ≤ (s.size : Int) := by omega
    have i3 : (0 : Int) ≤ (i : Int) + 1 := by omega
    have i4 : (i : Int) + 1 ≤ (s.size : Int) := by omega
    clear e1 e2 h1 h2 hi
    go_enter Tryd.func26, Tryd.ntmps26
    go_wp2_with fail
    refine (HI.out _).mono ?_
    rintro e w' ⟨rfl, rfl⟩
    go_wp2
    go_region
    go_wp2
    go_ret3
    rw [HE.out, ← H1.out, ← H2.out]
    exact ⟨rfl, (Below.refl _ _).drew⟩

theorem libCut (s : ByteArray) (c : UInt8) (hs : s.size ≤ 1000000000) (w : World) :
    Calls Tryd.prog 14 #[.string s, .string ⟨#[c]⟩] w fun e w' => e = .returned (.tuple #[.string (Pl.str (Pl.cut1 c s.data.toList).1), .string (Pl.str (Pl.cut1 c s.data.toList).2.1), .bool (Pl.cut1 c s.data.toList).2.2]) ∧ Below w.heap.size w w' := by
  have HC := Lib.hid (fun W => libCutIn s c hs W)
  generalize Pl.cut1 c s.data.toList = R at *
  go_enter Tryd.func14, Tryd.ntmps14
  go_wp2_with fail
  refine (HC.out _).mono ?_
  rintro e w' ⟨rfl, b'⟩
  go_wp2
  go_ret3
  exact ⟨rfl, b'⟩

/-- The words of the deeds, as the program lays them. -/
def wordCells : Array Value := #[.string ⟨#[116, 111]⟩, .string ⟨#[115, 117, 109]⟩, .string ⟨#[112, 114, 111, 100, 117, 99, 116]⟩, .string ⟨#[115, 113, 117, 97, 114, 101, 115]⟩, .string ⟨#[116, 117, 114, 110]⟩, .string ⟨#[97, 100, 100]⟩, .string ⟨#[109, 97, 107, 101]⟩, .string ⟨#[98, 97, 99, 107]⟩]
theorem implDeedWords (w : World) : Calls Tryd.prog 17 #[] w fun e w' => e = .returned (.slice (some ⟨w.heap.size, 0, none⟩) 8 8) ∧ w.alloc (.cells wordCells 9) = w' := by
  go_enter Tryd.func17, Tryd.ntmps17
  go_wp2
  go_ret
  exact ⟨rfl, rfl⟩

end Go.Proofs.YtgkkoegfmhgcjaaDoor
