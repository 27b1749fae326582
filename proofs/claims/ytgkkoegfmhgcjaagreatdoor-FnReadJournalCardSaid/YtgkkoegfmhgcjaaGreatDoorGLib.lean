/-
  What the library's variables hold where a call begins: the table of powers of ten, and the two errors.
-/
import Derived.MakeChecks
import Derived.Lib.LaidTab
import Derived.Lib.ItoaNum
import Derived.Lib.SmallJoins
import Derived.LaidLaws
import Derived.Stop.LaidErr
import Derived.Test.YtgkkoegfmhgcjaaGreatDoorRows
import Derived.Shelf.Strconv.Itoa3
import Derived.Shelf.Strings.Search2
import Derived.Test.YtgkkoegfmhgcjaaGreatDoorShelf
import Derived.Test.YtgkkoegfmhgcjaaGreatDoorGPlain
import Derived.Test.YtgkkoegfmhgcjaaGreatDoorGText
import Derived.Deep.RegionHeld3
import Derived.Deep.DeepCutAuto
import Derived.Shelf.Slices.Turned
import Derived.Shelf.Strconv.ErrVarAll
import Derived.Shelf.Strings.BuilderK
namespace Go.Proofs.YtgkkoegfmhgcjaaGreatDoor
open Go.RowKit

def TabOk (w : World) : Prop := Lib.TabIs Tryz.prog w "internal/strconv.uint64pow10" .u64 Lib.pow10Tab
def SynOk (w : World) : Prop := ∃ tp p, w.var? Tryz.prog "strconv.ErrSyntax" = some #[.iface tp p]
def RanOk (w : World) : Prop := ∃ tp p, w.var? Tryz.prog "strconv.ErrRange" = some #[.iface tp p]
/-- What reads of texts ask of the library's variables. -/
structure LibOk (w : World) : Prop where
  tab : TabOk w
  syn : SynOk w
  ran : RanOk w

theorem var_keep {n : String} {w w' : World} {cs : Array Value} (h : w.var? Tryz.prog n = some cs) (hb : Below w.heap.size w w') : w'.var? Tryz.prog n = some cs := by
  cases hg : Tryz.prog.globalNamed n with
  | none => unfold World.var? at h; rw [hg] at h; cases h
  | some g => exact Go.Joins.var_stays hg h hb (Nat.le_refl _)
theorem TabOk.below {w w' : World} (h : TabOk w) (hb : Below w.heap.size w w') : TabOk w' := var_keep h hb
theorem LibOk.below {w w' : World} (h : LibOk w) (hb : Below w.heap.size w w') : LibOk w' :=
  ⟨h.tab.below hb, (let ⟨t, p, e⟩ := h.syn; ⟨t, p, var_keep e hb⟩), (let ⟨t, p, e⟩ := h.ran; ⟨t, p, var_keep e hb⟩)⟩

theorem gTab : Tryz.prog.globalNamed "internal/strconv.uint64pow10" = some 1 := by kernel_rfl
theorem gTabType : (Tryz.prog.globals[1]?).map (·.type) = some 160 := by kernel_rfl
theorem cellsTab : Tryz.prog.cellsOf 160 = 20 := by kernel_rfl
theorem cellsU64 : Tryz.prog.cellsOf 138 = 1 := by kernel_rfl
theorem tab_of_laid {W : World} {x y : String × DataW Unit} {r : List (String × DataW Unit)} (h : laidMet Tryz.prog (x :: y :: ("internal/strconv.uint64pow10", Lib.tabData .u64 Lib.pow10Tab) :: r) W) : TabOk W :=
  Lib.tabIs_of_head gTab gTabType Tryz.underlying160 Tryz.underlying138 cellsU64 cellsTab h.tail.tail

theorem gSyn : Tryz.prog.globalNamed "strconv.ErrSyntax" = some 2 := by kernel_rfl
theorem gSynType : (Tryz.prog.globals[2]?).map (·.type) = some 82 := by kernel_rfl
theorem gRan : Tryz.prog.globalNamed "strconv.ErrRange" = some 3 := by kernel_rfl
theorem gRanType : (Tryz.prog.globals[3]?).map (·.type) = some 82 := by kernel_rfl
theorem cellsErr : Tryz.prog.cellsOf 174 = 1 := by kernel_rfl
theorem cellsStr : Tryz.prog.cellsOf 9 = 1 := by kernel_rfl
theorem starErr : "*" ++ "errors.errorString" = "*errors.errorString" := by decide
theorem rowErr (u : TypeId) (h : Tryz.prog.typeName? 3 u = some "*errors.errorString") : u = 172 :=
  typeName_ptr_named (nm := "errors.errorString") (by rw [starErr]; kernel_rfl) (by kernel_rfl) (by decide) u (by rw [starErr]; exact h)
theorem lib_of_laid {W : World} {x y : String × DataW Unit} {t1 t2 : List UInt8} {r : List (String × DataW Unit)}
    (h : laidMet Tryz.prog (x :: y :: ("internal/strconv.uint64pow10", Lib.tabData .u64 Lib.pow10Tab) :: ("strconv.ErrRange", .iface "*errors.errorString" (.ptr (.agg [.lit (.string t1)]))) :: ("strconv.ErrSyntax", .iface "*errors.errorString" (.ptr (.agg [.lit (.string t2)]))) :: r) W) : LibOk W := by
  obtain ⟨a1, s1, h1, _, _, _⟩ := laid_sentinel h.tail.tail.tail gRan gRanType Tryz.underlying82 rowErr Tryz.underlying172 Tryz.underlying174 rfl rfl Tryz.underlying9 cellsErr cellsStr
  obtain ⟨a2, s2, h2, _, _, _⟩ := laid_sentinel h.tail.tail.tail.tail gSyn gSynType Tryz.underlying82 rowErr Tryz.underlying172 Tryz.underlying174 rfl rfl Tryz.underlying9 cellsErr cellsStr
  exact ⟨tab_of_laid h, ⟨_, _, h2⟩, ⟨_, _, h1⟩⟩

end Go.Proofs.YtgkkoegfmhgcjaaGreatDoor

namespace Go.Proofs.YtgkkoegfmhgcjaaGreatDoor
open Go.RowKit Go.Shelf

theorem below_grown (w : World) (k : Nat) (os : Array Obj) : Below w.heap.size w (Go.Sort.grow (w.drewN k) os) :=
  ⟨rfl, rfl, rfl, by simp, fun _ hk => Go.Sort.heap_grow_old (w.drewN k) os hk⟩
theorem libItoa (u : Nat) (hu : u ≤ 1000000000000) (w : World) (h : TabOk w) :
    Calls Tryz.prog 55 #[.int .i64 u] w fun e w' => e = .returned (.string (Pl.str (Pl.decL u))) ∧ Below w.heap.size w w' := by
  refine (Any.strconv_Itoa Tryz.laysM171 u (by omega) (by omega) w h).mono ?_
  rintro e w' ⟨rfl, k, os, rfl⟩
  refine ⟨ret_str ?_, below_grown w k os⟩
  rw [Pl.itoa_dec]; rfl

set_option maxRecDepth 100000 in
set_option maxHeartbeats 1000000 in
theorem libCutIn (s : ByteArray) (c : UInt8) (hs : s.size ≤ 1000000000) (w : World) :
    Calls Tryz.prog 87 #[.string s, .string ⟨#[c]⟩] w fun e w' => e = .returned (.tuple #[.string (Pl.str (Pl.cut1 c s.data.toList).1), .string (Pl.str (Pl.cut1 c s.data.toList).2.1), .bool (Pl.cut1 c s.data.toList).2.2]) ∧ Below w.heap.size w w' := by
  have HI := Lib.hid (fun W => Any.stringslite_Index_one Tryz.lays219 s c W)
  rcases Pl.cut1_index c s with ⟨e1, e2⟩ | ⟨i, e1, hi, e2⟩
  · rw [e1] at HI
    have HE : Hid (Pl.cut1 c s.data.toList = (s.data.toList, [], false)) := Lib.hid e2
    clear e1 e2
    go_enter Tryz.func87, Tryz.ntmps87
    go_wp2_with fail
    refine (HI.out _).mono ?_
    rintro e w' ⟨rfl, rfl⟩
    go_wp2
    go_ret3
    rw [HE.out]
    exact ⟨rfl, Below.refl _ _⟩
  · rw [e1] at HI
    have h1 : s.extract 0 i = Pl.str (s.data.toList.take i) := by rw [Pl.extract_piece]; unfold Pl.pieceL; simp
    have h2 : s.extract (i + 1) s.size = Pl.str (s.data.toList.drop (i + 1)) := by
      rw [Pl.extract_piece, Pl.piece_rest _ _ (Pl.data_len s)]
    have HE : Hid (Pl.cut1 c s.data.toList = (s.data.toList.take i, s.data.toList.drop (i + 1), true)) := Lib.hid e2
    have H1 := Lib.hid h1
    have H2 := Lib.hid h2
    have i1 : (0 : Int) ≤ (i : Int) := by omega
    have i2 : (i : Int) ≤ (s.size : Int) := by omega
    have i3 : (0 : Int) ≤ (i : Int) + 1 := by omega
    have i4 : (i : Int) + 1 ≤ (s.size : Int) := by omega
    clear e1 e2 h1 h2 hi
    go_enter Tryz.func87, Tryz.ntmps87
    go_wp2_with fail
    refine (HI.out _).mono ?_
    rintro e w' ⟨rfl, rfl⟩
    go_wp2
    go_region
    go_wp2
    go_ret3
    rw [HE.out, ← H1.out, ← H2.out]
    exact ⟨rfl, (Below.refl _ _).drew⟩

theorem libCut (s : ByteArray) (c : UInt8) (hs : s.size ≤ 1000000000) (w : World) :
    Calls Tryz.prog 43 #[.string s, .string ⟨#[c]⟩] w fun e w' => e = .returned (.tuple #[.string (Pl.str (Pl.cut1 c s.data.toList).1), .string (Pl.str (Pl.cut1 c s.data.toList).2.1), .bool (Pl.cut1 c s.data.toList).2.2]) ∧ Below w.heap.size w w' := by
  have HC := Lib.hid (fun W => libCutIn s c hs W)
  generalize Pl.cut1 c s.data.toList = R at *
  go_enter Tryz.func43, Tryz.ntmps43
  go_wp2_with fail
  refine (HC.out _).mono ?_
  rintro e w' ⟨rfl, b'⟩
  go_wp2
  go_ret3
  exact ⟨rfl, b'⟩

/-- The words of the deeds, as the program lays them. -/
def wordCells : Array Value := #[.string ⟨#[116, 111]⟩, .string ⟨#[115, 117, 109]⟩, .string ⟨#[112, 114, 111, 100, 117, 99, 116]⟩, .string ⟨#[115, 113, 117, 97, 114, 101, 115]⟩, .string ⟨#[116, 117, 114, 110]⟩, .string ⟨#[97, 100, 100]⟩, .string ⟨#[109, 97, 107, 101]⟩, .string ⟨#[98, 97, 99, 107]⟩]
theorem implDeedWords (w : World) : Calls Tryz.prog 54 #[] w fun e w' => e = .returned (.slice (some ⟨w.heap.size, 0, none⟩) 8 8) ∧ w.alloc (.cells wordCells 9) = w' := by
  go_enter Tryz.func54, Tryz.ntmps54
  go_wp2
  go_ret
  exact ⟨rfl, rfl⟩

end Go.Proofs.YtgkkoegfmhgcjaaGreatDoor

namespace Go.Proofs.YtgkkoegfmhgcjaaGreatDoor
open Go.RowKit Go.Shelf

theorem wordCells_at : ∀ j : Fin 8, wordCells[j.val]? = some (.string (Pl.str (Pl.wordsL[j.val]?.getD []))) := by
  intro j
  match j with
  | ⟨0, _⟩ => rfl
  | ⟨1, _⟩ => rfl
  | ⟨2, _⟩ => rfl
  | ⟨3, _⟩ => rfl
  | ⟨4, _⟩ => rfl
  | ⟨5, _⟩ => rfl
  | ⟨6, _⟩ => rfl
  | ⟨7, _⟩ => rfl

set_option maxRecDepth 100000 in
set_option maxHeartbeats 2000000 in
theorem implDeedText (k n : Int) (w : World) (hT : TabOk w) :
    Calls Tryz.prog 15 #[.agg #[.int .i64 k, .int .i64 n]] w fun e w' => e = .returned (.string (Pl.str (Pl.deedL k n))) ∧ Below w.heap.size w w' := by
  have b0 : Below w.heap.size w (w.alloc (.cells #[.int .i64 k, .int .i64 n] 38)) := (Below.refl _ _).alloc (Nat.le_refl _) _
  have b1 : Below w.heap.size w ((w.alloc (.cells #[.int .i64 k, .int .i64 n] 38)).alloc (.cells wordCells 9)) := b0.alloc b0.size _
  by_cases h1 : k = 0 ∧ 0 ≤ n ∧ n ≤ 1000000000
  · obtain ⟨rfl, h2, h3⟩ := h1
    obtain ⟨m, rfl⟩ := Int.eq_ofNat_of_zero_le h2
    have hm : m ≤ 1000000000 := by omega
    have hD : ((⟨#[116, 111]⟩ : ByteArray) ++ ⟨#[32]⟩) ++ Pl.str (Pl.decL m) = Pl.str (Pl.deedL 0 m) := by
      rw [Pl.deedL_to hm, ← Pl.str_add]; rfl
    have hl := Pl.decL_len13 (u := m) (by omega)
    have HI := Lib.hid (fun W (h : TabOk W) => libItoa m (by omega) W h)
    have HD := Lib.hid hD
    have hs := Pl.str_size (Pl.decL m)
    have hsz : (Pl.str (Pl.decL m)).size ≤ 13 := by omega
    clear hD hs hl
    generalize Pl.str (Pl.decL m) = A at *
    generalize Pl.str (Pl.deedL 0 m) = C at *
    have HT1 := Lib.hid (hT.below b1)
    go_enter Tryz.func15, Tryz.ntmps15
    go_wp2_with (go_at_call 54; refine (implDeedWords _).mono ?_; rintro e w' ⟨rfl, rfl⟩)
    have k0 : ((w.alloc (.cells #[.int .i64 0, .int .i64 m] 38)).alloc (.cells wordCells 9)).cell? ⟨w.heap.size + 1, 0, none⟩ = some (.string ⟨#[116, 111]⟩) ∧ ((w.alloc (.cells #[.int .i64 0, .int .i64 m] 38)).alloc (.cells wordCells 9)).cell? ⟨w.heap.size, 1, none⟩ = some (.int .i64 m) :=
      ⟨by have := (SBox.new (w.alloc (.cells #[.int .i64 0, .int .i64 m] 38)) 9 wordCells).cell 0
          rwa [World.size_alloc] at this, ((SBox.new w 38 #[.int .i64 0, .int .i64 m]).alloc _).cell 1⟩
    have hfit : ¬ 9223372036854775807 < 3 + A.size := by omega
    generalize ((w.alloc (.cells #[.int .i64 0, .int .i64 m] 38)).alloc (.cells wordCells 9)) = w1 at *
    have hz : w.heap.size + 1 < w1.heap.size := World.block_lt_of_cell? _ _ k0.1
    have HTd : Hid (TabOk w1.drew) := Lib.hid (HT1.out.below ((Below.refl _ _).drew))
    go_region_held3 (fun w' => w'.cell? ⟨w.heap.size + 1, 0, none⟩ = some (.string ⟨#[116, 111]⟩) ∧ w'.cell? ⟨w.heap.size, 1, none⟩ = some (.int .i64 m))
      (first
        | with_reducible exact k0
        | with_reducible exact k1
        | assumption)
      (first
        | (go_at_call 55; ((with_reducible refine (HI.out w1.drew HTd.out).mono ?_); rintro e w2 ⟨rfl, b2⟩; have bb : Below w1.heap.size w1 w2 := ((Below.refl _ w1).drew).trans b2; have k1 : w2.cell? ⟨w.heap.size + 1, 0, none⟩ = some (.string ⟨#[116, 111]⟩) ∧ w2.cell? ⟨w.heap.size, 1, none⟩ = some (.int .i64 m) := ⟨(bb.cell (p := ⟨w.heap.size + 1, 0, none⟩) hz).trans k0.1, (bb.cell (p := ⟨w.heap.size, 1, none⟩) (by show w.heap.size < _; omega)).trans k0.2⟩)))
    go_wp2
    go_ret
    exact ⟨ret_str HD.out, b1.trans (bb.mono b1.size)⟩
  · by_cases h2 : 1 ≤ k ∧ k ≤ 7 ∧ n = 0
    · obtain ⟨h2, h3, rfl⟩ := h2
      have h7 : k = 1 ∨ k = 2 ∨ k = 3 ∨ k = 4 ∨ k = 5 ∨ k = 6 ∨ k = 7 := by omega
      clear h1 h2 h3
      rcases h7 with rfl | rfl | rfl | rfl | rfl | rfl | rfl
      · have HD : Hid (Pl.str (Pl.deedL 1 0) = ⟨#[115, 117, 109]⟩) := Lib.hid (by rw [show (1 : Int) = ((1 : Nat) : Int) from rfl, Pl.deedL_word (by omega) (by omega)]; rfl)
        have kj : ((w.alloc (.cells #[.int .i64 1, .int .i64 0] 38)).alloc (.cells wordCells 9)).cell? ⟨w.heap.size + 1, 1, none⟩ = some (.string ⟨#[115, 117, 109]⟩) := by
          have := (SBox.new (w.alloc (.cells #[.int .i64 1, .int .i64 0] 38)) 9 wordCells).cell 1
          rw [World.size_alloc] at this
          exact this
        go_enter Tryz.func15, Tryz.ntmps15
        go_wp2_with (go_at_call 54; refine (implDeedWords _).mono ?_; rintro e w' ⟨rfl, rfl⟩)
        go_ret
        exact ⟨ret_str HD.out.symm, b1⟩
      · have HD : Hid (Pl.str (Pl.deedL 2 0) = ⟨#[112, 114, 111, 100, 117, 99, 116]⟩) := Lib.hid (by rw [show (2 : Int) = ((2 : Nat) : Int) from rfl, Pl.deedL_word (by omega) (by omega)]; rfl)
        have kj : ((w.alloc (.cells #[.int .i64 2, .int .i64 0] 38)).alloc (.cells wordCells 9)).cell? ⟨w.heap.size + 1, 2, none⟩ = some (.string ⟨#[112, 114, 111, 100, 117, 99, 116]⟩) := by
          have := (SBox.new (w.alloc (.cells #[.int .i64 2, .int .i64 0] 38)) 9 wordCells).cell 2
          rw [World.size_alloc] at this
          exact this
        go_enter Tryz.func15, Tryz.ntmps15
        go_wp2_with (go_at_call 54; refine (implDeedWords _).mono ?_; rintro e w' ⟨rfl, rfl⟩)
        go_ret
        exact ⟨ret_str HD.out.symm, b1⟩
      · have HD : Hid (Pl.str (Pl.deedL 3 0) = ⟨#[115, 113, 117, 97, 114, 101, 115]⟩) := Lib.hid (by rw [show (3 : Int) = ((3 : Nat) : Int) from rfl, Pl.deedL_word (by omega) (by omega)]; rfl)
        have kj : ((w.alloc (.cells #[.int .i64 3, .int .i64 0] 38)).alloc (.cells wordCells 9)).cell? ⟨w.heap.size + 1, 3, none⟩ = some (.string ⟨#[115, 113, 117, 97, 114, 101, 115]⟩) := by
          have := (SBox.new (w.alloc (.cells #[.int .i64 3, .int .i64 0] 38)) 9 wordCells).cell 3
          rw [World.size_alloc] at this
          exact this
        go_enter Tryz.func15, Tryz.ntmps15
        go_wp2_with (go_at_call 54; refine (implDeedWords _).mono ?_; rintro e w' ⟨rfl, rfl⟩)
        go_ret
        exact ⟨ret_str HD.out.symm, b1⟩
      · have HD : Hid (Pl.str (Pl.deedL 4 0) = ⟨#[116, 117, 114, 110]⟩) := Lib.hid (by rw [show (4 : Int) = ((4 : Nat) : Int) from rfl, Pl.deedL_word (by omega) (by omega)]; rfl)
        have kj : ((w.alloc (.cells #[.int .i64 4, .int .i64 0] 38)).alloc (.cells wordCells 9)).cell? ⟨w.heap.size + 1, 4, none⟩ = some (.string ⟨#[116, 117, 114, 110]⟩) := by
          have := (SBox.new (w.alloc (.cells #[.int .i64 4, .int .i64 0] 38)) 9 wordCells).cell 4
          rw [World.size_alloc] at this
          exact this
        go_enter Tryz.func15, Tryz.ntmps15
        go_wp2_with (go_at_call 54; refine (implDeedWords _).mono ?_; rintro e w' ⟨rfl, rfl⟩)
        go_ret
        exact ⟨ret_str HD.out.symm, b1⟩
      · have HD : Hid (Pl.str (Pl.deedL 5 0) = ⟨#[97, 100, 100]⟩) := Lib.hid (by rw [show (5 : Int) = ((5 : Nat) : Int) from rfl, Pl.deedL_word (by omega) (by omega)]; rfl)
        have kj : ((w.alloc (.cells #[.int .i64 5, .int .i64 0] 38)).alloc (.cells wordCells 9)).cell? ⟨w.heap.size + 1, 5, none⟩ = some (.string ⟨#[97, 100, 100]⟩) := by
          have := (SBox.new (w.alloc (.cells #[.int .i64 5, .int .i64 0] 38)) 9 wordCells).cell 5
          rw [World.size_alloc] at this
          exact this
        go_enter Tryz.func15, Tryz.ntmps15
        go_wp2_with (go_at_call 54; refine (implDeedWords _).mono ?_; rintro e w' ⟨rfl, rfl⟩)
        go_ret
        exact ⟨ret_str HD.out.symm, b1⟩
      · have HD : Hid (Pl.str (Pl.deedL 6 0) = ⟨#[109, 97, 107, 101]⟩) := Lib.hid (by rw [show (6 : Int) = ((6 : Nat) : Int) from rfl, Pl.deedL_word (by omega) (by omega)]; rfl)
        have kj : ((w.alloc (.cells #[.int .i64 6, .int .i64 0] 38)).alloc (.cells wordCells 9)).cell? ⟨w.heap.size + 1, 6, none⟩ = some (.string ⟨#[109, 97, 107, 101]⟩) := by
          have := (SBox.new (w.alloc (.cells #[.int .i64 6, .int .i64 0] 38)) 9 wordCells).cell 6
          rw [World.size_alloc] at this
          exact this
        go_enter Tryz.func15, Tryz.ntmps15
        go_wp2_with (go_at_call 54; refine (implDeedWords _).mono ?_; rintro e w' ⟨rfl, rfl⟩)
        go_ret
        exact ⟨ret_str HD.out.symm, b1⟩
      · have HD : Hid (Pl.str (Pl.deedL 7 0) = ⟨#[98, 97, 99, 107]⟩) := Lib.hid (by rw [show (7 : Int) = ((7 : Nat) : Int) from rfl, Pl.deedL_word (by omega) (by omega)]; rfl)
        have kj : ((w.alloc (.cells #[.int .i64 7, .int .i64 0] 38)).alloc (.cells wordCells 9)).cell? ⟨w.heap.size + 1, 7, none⟩ = some (.string ⟨#[98, 97, 99, 107]⟩) := by
          have := (SBox.new (w.alloc (.cells #[.int .i64 7, .int .i64 0] 38)) 9 wordCells).cell 7
          rw [World.size_alloc] at this
          exact this
        go_enter Tryz.func15, Tryz.ntmps15
        go_wp2_with (go_at_call 54; refine (implDeedWords _).mono ?_; rintro e w' ⟨rfl, rfl⟩)
        go_ret
        exact ⟨ret_str HD.out.symm, b1⟩
    · have HD : Hid (Pl.str (Pl.deedL k n) = ⟨#[]⟩) := Lib.hid (by rw [Pl.deedL_no h1 h2]; rfl)
      by_cases hk : k = 0
      · subst hk
        by_cases hn : 0 ≤ n
        · have hn2 : ¬ n ≤ 1000000000 := fun h => h1 ⟨rfl, hn, h⟩
          clear h1 h2
          go_enter Tryz.func15, Tryz.ntmps15
          go_wp2_with (go_at_call 54; refine (implDeedWords _).mono ?_; rintro e w' ⟨rfl, rfl⟩)
          go_ret
          exact ⟨ret_str HD.out.symm, b1⟩
        · clear h1 h2
          go_enter Tryz.func15, Tryz.ntmps15
          go_wp2_with (go_at_call 54; refine (implDeedWords _).mono ?_; rintro e w' ⟨rfl, rfl⟩)
          go_ret
          exact ⟨ret_str HD.out.symm, b1⟩
      · have e0 : (k == 0) = false := by rw [beq_eq_false_iff_ne]; exact hk
        by_cases hp : 0 < k
        · by_cases h8 : k < 8
          · have hn : (n == 0) = false := by rw [beq_eq_false_iff_ne]; exact fun h => h2 ⟨by omega, by omega, h⟩
            clear h1 h2 hk
            go_enter Tryz.func15, Tryz.ntmps15
            go_wp2_with (go_at_call 54; refine (implDeedWords _).mono ?_; rintro e w' ⟨rfl, rfl⟩)
            go_ret
            exact ⟨ret_str HD.out.symm, b1⟩
          · clear h1 h2 hk
            go_enter Tryz.func15, Tryz.ntmps15
            go_wp2_with (go_at_call 54; refine (implDeedWords _).mono ?_; rintro e w' ⟨rfl, rfl⟩)
            go_ret
            exact ⟨ret_str HD.out.symm, b1⟩
        · clear h1 h2 hk
          go_enter Tryz.func15, Tryz.ntmps15
          go_wp2_with (go_at_call 54; refine (implDeedWords _).mono ?_; rintro e w' ⟨rfl, rfl⟩)
          go_ret
          exact ⟨ret_str HD.out.symm, b1⟩

/-- How the library reads a text as a number, as far as the program asks. -/
def AtoiPost (s : ByteArray) (w : World) (e : Ending) (w' : World) : Prop :=
  (∃ v : Int, Lib.atoiAll s.data.toList = .ok v ∧ e = .returned (.tuple #[.int .i64 v, .nilIface]) ∧ Below w.heap.size w w') ∨
  ((∀ v, Lib.atoiAll s.data.toList ≠ .ok v) ∧ ∃ (x : Int) (t : TypeId) (p : Value), e = .returned (.tuple #[.int .i64 x, .iface t p]) ∧ Below w.heap.size w w')
theorem libAtoi (s : ByteArray) (hs : s.size ≤ 1000000000) (w : World) (h : LibOk w) : Calls Tryz.prog 113 #[.string s] w (AtoiPost s w) := by
  cases hr : Lib.atoiAll s.data.toList with
  | ok v =>
    refine (Any.strconv_Atoi_ok Tryz.laysC172 s (by omega) v hr w).mono ?_
    rintro e w' ⟨rfl, h⟩
    refine .inl ⟨v, hr, rfl, ?_⟩
    rcases h with rfl | ⟨t, rfl⟩
    · exact Below.refl _ _
    · exact Lib.bytesWorld_below _ _ _
  | «syntax» =>
    obtain ⟨t, p, hv⟩ := h.syn
    refine (Any.strconv_Atoi_syntax_var Tryz.laysC172 s (by omega) hr t p w hv).mono ?_
    rintro e w' ⟨N, rfl, _, _, hb⟩
    exact .inr ⟨(fun v hv => by rw [hr] at hv; cases hv), 0, _, _, rfl, hb⟩
  | range =>
    obtain ⟨t, p, hv⟩ := h.ran
    refine (Any.strconv_Atoi_range_var Tryz.laysC172 s (by omega) hr t p w hv).mono ?_
    rintro e w' ⟨N, rfl, _, _, hb⟩
    exact .inr ⟨(fun v hv => by rw [hr] at hv; cases hv), _, _, _, rfl, hb⟩

theorem bytes_same {a b : List UInt8} : ((Pl.str a).toList == (Pl.str b).toList) = decide (a = b) := by
  by_cases h : a = b
  · subst h; simp
  · rw [decide_eq_false h, Lib.bytes_beq_false_iff]
    exact fun e => h (Pl.str_inj e)

set_option maxRecDepth 100000 in
set_option maxHeartbeats 2000000 in
theorem implReadWhole (s : List UInt8) (hs : s.length ≤ 1000000000) (w : World) (hL : LibOk w) :
    Calls Tryz.prog 88 #[.string (Pl.str s)] w fun e w' => e = .returned (.tuple #[.int .i64 (Pl.whI s), .bool (Pl.whB s)]) ∧ Below w.heap.size w w' := by
  have HA := Lib.hid (libAtoi (Pl.str s) (by rw [Pl.str_size]; exact hs) w hL)
  have hd : (Pl.str s).data.toList = s := rfl
  obtain ⟨R, hR⟩ : ∃ R : Int × Bool, (Pl.whI s, Pl.whB s) = R := ⟨_, rfl⟩
  have HR1 : Hid (Pl.whI s = R.1) := Lib.hid (by rw [← hR])
  have HR2 : Hid (Pl.whB s = R.2) := Lib.hid (by rw [← hR])
  rw [HR1.out, HR2.out]
  clear hR
  go_enter Tryz.func88, Tryz.ntmps88
  go_wp2_with fail
  refine HA.out.mono ?_
  rintro e w1 (⟨v, hv, rfl, b1⟩ | ⟨hno, x, t, p, rfl, b1⟩)
  · rw [hd] at hv
    by_cases h0 : v < 0 ∨ 1000000000 < v
    · have hn : ¬ 0 ≤ Pl.readN s := fun h => by
        obtain ⟨u, hu, _, rfl⟩ := Pl.readN_yes h
        rw [Pl.atoi_dec hu] at hv
        injection hv with hv
        omega
      obtain ⟨g1, g2⟩ := Pl.whI_none hn
      have H1 := Lib.hid (HR1.out.symm.trans g1)
      have H2 := Lib.hid (HR2.out.symm.trans g2)
      clear hv hn g1 g2 HR1 HR2 HA hd
      by_cases h1 : v < 0
      · clear h0
        go_wp2
        go_ret2
        rw [H1.out, H2.out]
        exact ⟨rfl, b1⟩
      · have h2 : 1000000000 < v := by omega
        clear h0
        go_wp2
        go_ret2
        rw [H1.out, H2.out]
        exact ⟨rfl, b1⟩
    · obtain ⟨u, rfl⟩ := Int.eq_ofNat_of_zero_le (show 0 ≤ v by omega)
      have hu : u ≤ 1000000000 := by omega
      have HI := Lib.hid (libItoa u (by omega) w1 (hL.tab.below b1))
      have h1 : ¬ (u : Int) < 0 := by omega
      have h2 : ¬ (1000000000 : Int) < (u : Int) := by omega
      by_cases hs2 : Pl.decL u = s
      · have hb : ((Pl.str (Pl.decL u)).toList == (Pl.str s).toList) = true := by rw [bytes_same]; exact decide_eq_true hs2
        have hb2 : ((Pl.str (Pl.decL u)).toList != (Pl.str s).toList) = false := by rw [bne, hb]; rfl
        obtain ⟨g1, g2⟩ := Pl.whI_dec hu
        rw [hs2] at g1 g2
        have H1 := Lib.hid (HR1.out.symm.trans g1)
        have H2 := Lib.hid (HR2.out.symm.trans g2)
        clear hv h0 hs2 g1 g2 HR1 HR2 HA hd
        generalize Pl.str (Pl.decL u) = A at *
        generalize Pl.str s = C at *
        go_wp2_with fail
        refine HI.out.mono ?_
        rintro e w2 ⟨rfl, b2⟩
        go_wp2
        go_ret2
        rw [H1.out, H2.out]
        exact ⟨rfl, b1.trans (b2.mono b1.size)⟩
      · have hb : ((Pl.str (Pl.decL u)).toList == (Pl.str s).toList) = false := by rw [bytes_same]; exact decide_eq_false hs2
        have hb2 : ((Pl.str (Pl.decL u)).toList != (Pl.str s).toList) = true := by rw [bne, hb]; rfl
        have hn : ¬ 0 ≤ Pl.readN s := fun h => by
          obtain ⟨u', hu', _, rfl⟩ := Pl.readN_yes h
          rw [Pl.atoi_dec hu'] at hv
          injection hv with hv
          exact hs2 (by rw [show u' = u by omega])
        obtain ⟨g1, g2⟩ := Pl.whI_none hn
        have H1 := Lib.hid (HR1.out.symm.trans g1)
        have H2 := Lib.hid (HR2.out.symm.trans g2)
        clear hv h0 hs2 hn g1 g2 HR1 HR2 HA hd
        generalize Pl.str (Pl.decL u) = A at *
        generalize Pl.str s = C at *
        go_wp2_with fail
        refine HI.out.mono ?_
        rintro e w2 ⟨rfl, b2⟩
        go_wp2
        go_ret2
        rw [H1.out, H2.out]
        exact ⟨rfl, b1.trans (b2.mono b1.size)⟩
  · rw [hd] at hno
    have hn : ¬ 0 ≤ Pl.readN s := fun h => by
      obtain ⟨u', hu', _, rfl⟩ := Pl.readN_yes h
      exact hno _ (Pl.atoi_dec hu')
    obtain ⟨g1, g2⟩ := Pl.whI_none hn
    have H1 := Lib.hid (HR1.out.symm.trans g1)
    have H2 := Lib.hid (HR2.out.symm.trans g2)
    clear hno hn g1 g2 HR1 HR2 HA hd
    go_wp2
    go_ret2
    rw [H1.out, H2.out]
    exact ⟨rfl, b1⟩

theorem idxWords (b : Nat) (x : List UInt8) (w : World) (h : SBox w b 9 wordCells) :
    Calls Tryz.prog 89 #[.slice (some ⟨b, 0, none⟩) 8 8, .string (Pl.str x)] w fun e w' => e = .returned (.int .i64 (Pl.wIdx x)) ∧ w = w' := by
  refine (Any.slices_Index_string Tryz.lays109 b 0 8 8 (Pl.wordsL.map Pl.str) (Pl.str x) w (by decide) (by decide) ?_).mono ?_
  · intro j hj
    have hj8 : j < 8 := hj
    rw [Nat.zero_add, h.cell j, wordCells_at ⟨j, hj8⟩]
    have : j = 0 ∨ j = 1 ∨ j = 2 ∨ j = 3 ∨ j = 4 ∨ j = 5 ∨ j = 6 ∨ j = 7 := by omega
    rcases this with rfl | rfl | rfl | rfl | rfl | rfl | rfl | rfl <;> rfl
  · rintro e w' ⟨rfl, rfl⟩
    exact ⟨rfl, rfl⟩

set_option maxRecDepth 100000 in
set_option maxHeartbeats 2000000 in
theorem implReadDeed (s : ByteArray) (hs : s.size ≤ 1000000000) (w : World) (hL : LibOk w) :
    Calls Tryz.prog 44 #[.string s] w fun e w' => e = .returned (.tuple #[.agg #[.int .i64 (Pl.rdK (Pl.readL s.data.toList)), .int .i64 (Pl.rdN (Pl.readL s.data.toList))], .bool (Pl.rdB (Pl.readL s.data.toList))]) ∧ Below w.heap.size w w' := by
  have hlen := Pl.data_len s
  have hb0 : Below w.heap.size w (w.alloc (.cells #[.int .i64 0, .int .i64 0] 38)) := (Below.refl _ _).alloc (Nat.le_refl _) _
  have hR0 : SBox (w.alloc (.cells #[.int .i64 0, .int .i64 0] 38)) w.heap.size 38 #[.int .i64 0, .int .i64 0] := SBox.new _ _ _
  have HC := Lib.hid (fun W => libCut s 32 hs W)
  have h2 : (Pl.cut1 32 s.data.toList).2.1.length ≤ 1000000000 := by
    rcases Pl.cut1_cases 32 s.data.toList with ⟨_, e⟩ | ⟨l, r, _, hs', e⟩
    · rw [e]; simp
    · rw [e]
      have : s.data.toList.length = (l ++ 32 :: r).length := by rw [← hs']
      simp at this ⊢; omega
  have HW := Lib.hid (fun W (h : LibOk W) => implReadWhole (Pl.cut1 32 s.data.toList).2.1 h2 W h)
  have HI := Lib.hid (fun b W (h : SBox W b 9 wordCells) => idxWords b (Pl.cut1 32 s.data.toList).1 W h)
  have HT := Lib.hid (fun W (h : TabOk W) => implDeedText (Pl.candK s.data.toList) (Pl.candN s.data.toList) W h)
  have hk : Pl.wIdx (Pl.cut1 32 s.data.toList).1 = Pl.candK s.data.toList := rfl
  have hn : Pl.whI (Pl.cut1 32 s.data.toList).2.1 = Pl.candN s.data.toList := rfl
  rw [hk] at HI
  rw [hn] at HW
  obtain ⟨R, hR⟩ : ∃ R, Pl.readL s.data.toList = R := ⟨_, rfl⟩
  rw [hR]
  have HRR := Lib.hid hR
  have HY : Hid (s.data.toList ≠ [] → Pl.deedL (Pl.candK s.data.toList) (Pl.candN s.data.toList) = s.data.toList → R = some (Pl.candK s.data.toList, Pl.candN s.data.toList)) := Lib.hid fun h0 h => by rw [← hR]; exact Pl.read_yes h0 h
  have HN : Hid (Pl.deedL (Pl.candK s.data.toList) (Pl.candN s.data.toList) ≠ s.data.toList → R = none) := Lib.hid fun h => by rw [← hR]; exact Pl.read_no h
  have HE : Hid (s.data.toList = [] → R = none) := Lib.hid fun h => by rw [← hR, h]; exact Pl.read_nil
  obtain ⟨L, hLd⟩ : ∃ L, s.data.toList = L := ⟨_, rfl⟩
  obtain rfl : s = Pl.str L := by rw [← hLd]; rfl
  rw [show (Pl.str L).data.toList = L from rfl] at *
  have HT1 := Lib.hid (hL.below hb0)
  have HR0 := Lib.hid hR0
  clear h2 hk hn hR hLd hlen hR0
  generalize Pl.candK L = K at *
  generalize Pl.candN L = N at *
  generalize Pl.whB (Pl.cut1 32 L).2.1 = B at *
  generalize (Pl.cut1 32 L).1 = X at *
  generalize (Pl.cut1 32 L).2.1 = Y at *
  generalize (Pl.cut1 32 L).2.2 = Z at *
  go_enter Tryz.func44, Tryz.ntmps44
  go_wp2_with fail
  generalize w.alloc (.cells #[.int .i64 0, .int .i64 0] 38) = w0 at *
  refine (HC.out _).mono ?_
  rintro e w1 ⟨rfl, b1⟩
  have hR1 := HR0.out.kept b1
  have hL1 := HT1.out.below b1
  have hb1 := hb0.trans (b1.mono hb0.size)
  clear b1 HR0 HT1 hb0 HC
  go_wp2_with fail
  refine (HW.out _ hL1).mono ?_
  rintro e w2 ⟨rfl, b2⟩
  have hR2 := hR1.kept b2
  have hL2 := hL1.below b2
  have hb2 := hb1.trans (b2.mono hb1.size)
  clear b2 hR1 hL1 hb1 HW
  have hW2 := SBox.new w2 9 wordCells
  have hR3 := hR2.alloc (.cells wordCells 9)
  have hL3 := hL2.below ((Below.refl _ _).alloc (Nat.le_refl _) (.cells wordCells 9))
  have hb3 := hb2.alloc hb2.size (.cells wordCells 9)
  go_wp2_with (go_at_call 54; refine (implDeedWords _).mono ?_; rintro e w' ⟨rfl, rfl⟩)
  refine (HI.out _ _ hW2).mono ?_
  rintro e w' ⟨rfl, rfl⟩
  generalize w2.alloc (.cells wordCells 9) = w3 at *
  have HE4 := Lib.hid (SBox.new w3 38 #[.int .i64 K, .int .i64 N])
  have HR4 := Lib.hid (hR3.alloc (.cells #[.int .i64 K, .int .i64 N] 38))
  have HL4 := Lib.hid (hL3.below ((Below.refl _ _).alloc (Nat.le_refl _) (.cells #[.int .i64 K, .int .i64 N] 38)))
  have hb4 := hb3.alloc hb3.size (.cells #[.int .i64 K, .int .i64 N] 38)
  clear hW2 hR2 hR3 hL2 hL3 hb2 hb3 HI
  by_cases h0 : L = []
  · have HRE := Lib.hid (HE.out h0)
    have hb : ((Pl.str L).toList == (⟨#[]⟩ : ByteArray).toList) = true := by rw [h0, show Pl.str [] = (⟨#[]⟩ : ByteArray) from rfl]; exact beq_self_eq_true _
    have hbe : (Pl.str L).toList = [] := by rw [h0, ByteArray.toList_eq]; rfl
    clear h0 HE HY HN HT
    go_upto_region 4 with (fail)
    generalize w3.alloc (.cells #[.int .i64 K, .int .i64 N] 38) = w4 at *
    go_wp2_with (refine deed_store rfl _ _ rfl rfl rfl HR4.out ?_; intro w5 hS5 hbl5 hsz5 _)
    refine bodyPost_ret (results_cell_tmp rfl _ _ w.heap.size #[.int .i64 0, .int .i64 0] _ (.bool false) rfl rfl hS5 rfl Tryz.underlying38 (by rw [size_deed]; rfl)) rfl ?_
    rw [HRE.out]
    exact ⟨rfl, hb4.trans (hbl5 w.heap.size (by omega))⟩
  · have hne : ((Pl.str L).toList == (⟨#[]⟩ : ByteArray).toList) = false := by
      rw [show (⟨#[]⟩ : ByteArray) = Pl.str [] from rfl, bytes_same]; exact decide_eq_false h0
    have hne3 : ¬ (Pl.str L).toList = [] := by rw [ByteArray.toList_eq]; exact h0
    have hne2 : (Pl.str L).toList.isEmpty = false := by
      rw [ByteArray.toList_eq]
      cases L with
      | nil => exact absurd rfl h0
      | cons a t => rfl
    have HNE : Hid (L ≠ []) := Lib.hid h0
    clear h0 HE hne
    have HL4b := Lib.hid HL4.out.tab
    by_cases hm : Pl.deedL K N = L
    · have HRE := Lib.hid (HY.out HNE.out hm)
      have hb : ((Pl.str (Pl.deedL K N)).toList == (Pl.str L).toList) = true := by rw [bytes_same]; exact decide_eq_true hm
      have hb2 : ((Pl.str (Pl.deedL K N)).toList != (Pl.str L).toList) = false := by rw [bne, hb]; rfl
      clear hm HY HN
      generalize Pl.str (Pl.deedL K N) = A at *
      generalize hS : Pl.str L = S at *
      clear hS
      go_upto_region 4 with (fail)
      generalize w3.alloc (.cells #[.int .i64 K, .int .i64 N] 38) = w4 at *
      have ek := HE4.out.cell 0
      have en := HE4.out.cell 1
      go_wp2_with fail
      refine (HT.out _ HL4b.out).mono ?_
      rintro e w5 ⟨rfl, b5⟩
      clear ek en
      have HR5 := Lib.hid (HR4.out.kept b5)
      have HE5 := Lib.hid (HE4.out.kept b5)
      have hb5 := hb4.trans (b5.mono hb4.size)
      clear b5 HR4 HE4 HT
      go_wp2_with (first | (refine deed_load rfl _ rfl rfl HE5.out ?_) | (refine deed_store rfl _ _ rfl rfl rfl HR5.out ?_; intro w6 hS6 hbl6 hsz6 _))
      refine bodyPost_ret (results_cell_tmp rfl _ _ w.heap.size #[.int .i64 K, .int .i64 N] _ (.bool true) rfl rfl hS6 rfl Tryz.underlying38 (by rw [size_deed]; rfl)) rfl ?_
      rw [HRE.out]
      exact ⟨rfl, hb5.trans (hbl6 w.heap.size (by omega))⟩
    · have HRE := Lib.hid (HN.out hm)
      have hb : ((Pl.str (Pl.deedL K N)).toList == (Pl.str L).toList) = false := by rw [bytes_same]; exact decide_eq_false hm
      have hb2 : ((Pl.str (Pl.deedL K N)).toList != (Pl.str L).toList) = true := by rw [bne, hb]; rfl
      clear hm HY HN
      generalize Pl.str (Pl.deedL K N) = A at *
      generalize hS : Pl.str L = S at *
      clear hS
      go_upto_region 4 with (fail)
      generalize w3.alloc (.cells #[.int .i64 K, .int .i64 N] 38) = w4 at *
      have ek := HE4.out.cell 0
      have en := HE4.out.cell 1
      go_wp2_with fail
      refine (HT.out _ HL4b.out).mono ?_
      rintro e w5 ⟨rfl, b5⟩
      clear ek en
      have HR5 := Lib.hid (HR4.out.kept b5)
      have hb5 := hb4.trans (b5.mono hb4.size)
      clear b5 HR4 HE4 HT
      go_wp2_with (refine deed_store rfl _ _ rfl rfl rfl HR5.out ?_; intro w6 hS6 hbl6 hsz6 _)
      refine bodyPost_ret (results_cell_tmp rfl _ _ w.heap.size #[.int .i64 0, .int .i64 0] _ (.bool false) rfl rfl hS6 rfl Tryz.underlying38 (by rw [size_deed]; rfl)) rfl ?_
      rw [HRE.out]
      exact ⟨rfl, hb5.trans (hbl6 w.heap.size (by omega))⟩

end Go.Proofs.YtgkkoegfmhgcjaaGreatDoor

namespace Go.Proofs.YtgkkoegfmhgcjaaGreatDoor
open Go.RowKit Go.Shelf

/-- Up to a place: what was read, and what the rest gives. -/
def RJUp (S : List UInt8) (ds : List (Int × Int)) (f : Nat) : Prop := Pl.rjA [] S = (ds ++ (Pl.rjA [] (S.drop f)).1, f + (Pl.rjA [] (S.drop f)).2) ∧ ds.length ≤ f
theorem rjUp_start (S : List UInt8) : RJUp S [] 0 := ⟨by simp, Nat.le_refl _⟩
theorem rjUp_stop {S : List UInt8} {ds : List (Int × Int)} {f : Nat} (h : RJUp S ds f) (h2 : (10 : UInt8) ∉ S.drop f) : Pl.rjA [] S = (ds, f) := by
  rw [h.1, Pl.rj_stop h2]; simp
theorem rjUp_none {S l r : List UInt8} {ds : List (Int × Int)} {f : Nat} (h : RJUp S ds f) (hl : (10 : UInt8) ∉ l) (h2 : S.drop f = l ++ 10 :: r) (h3 : Pl.readL l = none) : Pl.rjA [] S = (ds, f) := by
  rw [h.1, h2, Pl.rj_line hl, h3]; simp
theorem rjUp_next {S l r : List UInt8} {ds : List (Int × Int)} {f : Nat} {d : Int × Int} (h : RJUp S ds f) (hl : (10 : UInt8) ∉ l) (h2 : S.drop f = l ++ 10 :: r) (h3 : Pl.readL l = some d) : RJUp S (ds ++ [d]) (f + (l.length + 1)) := by
  have hr : S.drop (f + (l.length + 1)) = r := by
    rw [← List.drop_drop, h2]
    rw [show l ++ 10 :: r = (l ++ [10]) ++ r by simp, show l.length + 1 = (l ++ [(10 : UInt8)]).length by simp, List.drop_left]
  refine ⟨?_, by have := h.2; simp; omega⟩
  rw [h.1, h2, Pl.rj_line hl, h3, hr]
  simp
  omega

set_option maxRecDepth 100000 in
set_option maxHeartbeats 4000000 in
theorem implReadJournal (s : ByteArray) (hs : s.size ≤ 1000000000) (w : World) (hL : LibOk w) :
    Calls Tryz.prog 9 #[.string s] w (JPost w (Pl.rjA [] s.data.toList)) := by
  have hlen := Pl.data_len s
  obtain ⟨i0, hi0, hz0, hz1, hz2⟩ := info_parts info_deed
  obtain ⟨R, hR⟩ : ∃ R, Pl.rjA [] s.data.toList = R := ⟨_, rfl⟩
  rw [hR]
  have HRR := Lib.hid hR
  have HLn := Lib.hid hlen
  have HS0 := Lib.hid (rjUp_start s.data.toList)
  have HL := Lib.hid hL
  clear hR hlen hL
  go_enter Tryz.func9, Tryz.ntmps9
  go_wp2_with fail
  go_loopw [4, 5] (fun v fv wr => ∃ (ds : List (Int × Int)) (f : Nat), fv = .int .i64 f ∧ f ≤ s.size ∧ DRow w.heap.size wr v ds ∧ Below w.heap.size w wr ∧ RJUp s.data.toList ds f) (fun _ fv _ => s.size + 1 - (intOf fv).toNat)
  case atStart => exact ⟨[], 0, rfl, Nat.zero_le _, World.ownsRow_nil _ _ _ _, Below.refl _ _, HS0.out⟩
  case round =>
    clear HS0
    obtain ⟨ds, f, rfl, hf, hr, hbw, hup⟩ := hrel
    have hD := hup.2
    have HU := Lib.hid hup
    have hsz := hbw.size
    have HR := Lib.hid hr
    have hLr := HL.out.below hbw
    obtain ⟨av, cv, rfl⟩ := hr.shape
    clear hup hr
    have hex : s.extract f s.size = Pl.str (s.data.toList.drop f) := by rw [Pl.extract_piece, Pl.piece_rest _ _ HLn.out]
    have hpl : (s.extract f s.size).size ≤ 1000000000 := by
      rw [hex, Pl.str_size, List.length_drop, HLn.out]; omega
    have HC := Lib.hid (fun W => libCut (s.extract f s.size) 10 hpl W)
    have hdat : (s.extract f s.size).data.toList = s.data.toList.drop f := by rw [hex]; rfl
    rw [hdat] at HC
    have i1 : (0 : Int) ≤ (f : Int) := by omega
    have i2 : (f : Int) ≤ (s.size : Int) := by omega
    have hdl : (s.data.toList.drop f).length = s.size - f := by rw [List.length_drop, HLn.out]
    rcases Pl.cut1_cases 10 (s.data.toList.drop f) with ⟨hno, e⟩ | ⟨l, r, hl, hsp, e⟩
    · rw [e] at HC
      have HST := Lib.hid (rjUp_stop HU.out hno)
      have hll : (Pl.str (s.data.toList.drop f)).size ≤ 1000000000 := by rw [Pl.str_size, hdl]; omega
      have HRD := Lib.hid (fun W (h : LibOk W) => implReadDeed (Pl.str (s.data.toList.drop f)) hll W h)
      clear e hno hdat hex hpl hdl hll HU
      generalize Pl.readL (Pl.str (s.data.toList.drop f)).data.toList = RR at *
      go_wp2_with fail
      refine (HC.out _).mono ?_
      rintro e w5 ⟨rfl, b5⟩
      have hL5 := hLr.below b5
      have hr5 := HR.out.below b5
      have hb5 := hbw.trans (b5.mono hsz)
      clear HC b5
      go_wp2_with fail
      refine (HRD.out _ hL5).mono ?_
      rintro e w6 ⟨rfl, b6⟩
      have hr6 := hr5.below b6
      have hb6 := hb5.trans (b6.mono hb5.size)
      clear hL5 hr5 hb5 b6
      go_wp2_with fail
      go_ret2
      rw [← HRR.out, HST.out]
      exact ⟨_, rfl, World.ownsRow.alloc hr6 _, hb6.alloc hb6.size _⟩
    · rw [e] at HC
      have hll : l.length + 1 ≤ s.size - f := by rw [← hdl, hsp]; simp
      have HRD := Lib.hid (fun W (h : LibOk W) => implReadDeed (Pl.str l) (by rw [Pl.str_size]; omega) W h)
      rw [show (Pl.str l).data.toList = l from rfl] at HRD
      have hls := Pl.str_size l
      cases hd : Pl.readL l with
      | none =>
        have HST := Lib.hid (rjUp_none HU.out hl hsp hd)
        rw [hd] at HRD
        clear e hl hsp hdat hex hpl hdl hll HU hd hls
        go_wp2_with fail
        refine (HC.out _).mono ?_
        rintro e w5 ⟨rfl, b5⟩
        have hL5 := hLr.below b5
        have hr5 := HR.out.below b5
        have hb5 := hbw.trans (b5.mono hsz)
        clear HC b5
        go_wp2_with fail
        refine (HRD.out _ hL5).mono ?_
        rintro e w6 ⟨rfl, b6⟩
        simp only [Pl.rdK, Pl.rdN, Pl.rdB]
        have hr6 := hr5.below b6
        have hb6 := hb5.trans (b6.mono hb5.size)
        clear hL5 hr5 hb5 b6
        go_wp2_with fail
        go_ret2
        rw [← HRR.out, HST.out]
        exact ⟨_, rfl, World.ownsRow.alloc hr6 _, hb6.alloc hb6.size _⟩
      | some d =>
        have HN := Lib.hid (rjUp_next HU.out hl hsp hd)
        rw [hd] at HRD
        obtain ⟨dk, dn⟩ := d
        have hsl : ((Pl.str l).size : Int) = (l.length : Int) := by rw [hls]
        clear e hl hsp hdat hex hpl hdl HU hd hls
        go_wp2_with fail
        refine (HC.out _).mono ?_
        rintro e w5 ⟨rfl, b5⟩
        have hL5 := hLr.below b5
        have hr5 := HR.out.below b5
        have hb5 := hbw.trans (b5.mono hsz)
        clear HC b5
        go_wp2_with fail
        refine (HRD.out _ hL5).mono ?_
        rintro e w7 ⟨rfl, b7⟩
        simp only [Pl.rdK, Pl.rdN, Pl.rdB]
        have H7 := hr5.below b7
        have hr2 : w7.ownsRow w.heap.size 38 2 (.slice av ds.length cv) ds.length (Pl.deedCells ds) := H7
        have c7 := hb5.trans (b7.mono hb5.size)
        have hsz7 := c7.size
        have hnews : ∀ j u, [Value.int .i64 dk, Value.int .i64 dn][j]? = some u → ((w7.alloc (.cells #[.int .i64 dk, .int .i64 dn] 38)).alloc (.cells #[.int .i64 dk, .int .i64 dn] 38)).cell? ((⟨w7.heap.size + 1, 0, none⟩ : Addr).add j) = some u := by
          have := cell_deed_new (w7.alloc (.cells #[.int .i64 dk, .int .i64 dn] 38)) dk dn 38
          rwa [World.size_alloc] at this
        have HNW := Lib.hid hnews
        clear b7 H7 HR hnews hL5 hr5 hb5
        go_wp2_with (at_builtin; refine wpList_append_own _ rfl _ _ 24 rfl w.heap.size 38 i0 (.agg #[.int .i64 0, .int .i64 0]) 2 16 Tryz.underlying24 hi0 hz0 hz1 hz2 rfl (by decide) _ _ _ rfl ((hr2.alloc _).alloc _) ⟨w7.heap.size + 1, 0, none⟩ 1 1 [.int .i64 dk, .int .i64 dn] rfl rfl HNW.out (by simp [Value.oneCell']) (by unfold maxLen; omega) (by omega) (by simp; omega) ?_; intro v8 w8 hown8 hgrow8 _)
        have hb8 : Below w.heap.size w w8 := below_append ((c7.alloc (by omega) _).alloc (by simp; omega) _) ((hr2.alloc _).alloc _) hgrow8
        have H8 := Lib.hid (drow_snoc hown8)
        clear hown8 hgrow8 hr2 HNW
        go_wp2_with fail
        go_roundw
        case rel => exact ⟨_, f + (l.length + 1), by go_num, by omega, H8.out, hb8, HN.out⟩
        case measure => simp [intOf]; omega

end Go.Proofs.YtgkkoegfmhgcjaaGreatDoor

namespace Go.Proofs.YtgkkoegfmhgcjaaGreatDoor
open Go.RowKit Go.Shelf

def wren : Go.Shelf.Ren := ⟨fun | 166 => 56 | 240 => 100 | 276 => 133 | 169 => 57 | n => n, fun | 0 => 0 | 3 => 3 | 4 => 4 | 5 => 5 | 9 => 9 | 20 => 20 | 37 => 22 | 70 => 78 | 72 => 80 | 75 => 82 | 80 => 85 | 127 => 121 | 164 => 126 | n => n, fun | n => n⟩
theorem laysW : Go.Proofs.Lays.n166 Tryz.prog wren := {
  mixed := by kernel_rfl
  f166 := Tryz.func56.trans (congrArg some (by kernel_rfl))
  f240 := Tryz.func100.trans (congrArg some (by kernel_rfl))
  f276 := Tryz.func133.trans (congrArg some (by kernel_rfl))
  t0 := Tryz.underlying0
  a0 := Tryz.isAgg0
  z0 := Tryz.sizeOf0
  v0 := Tryz.zeroValue0
  t3 := Tryz.underlying3
  a3 := Tryz.isAgg3
  z3 := Tryz.sizeOf3
  v3 := Tryz.zeroValue3
  t4 := Tryz.underlying4
  a4 := Tryz.isAgg4
  z4 := Tryz.sizeOf4
  v4 := Tryz.zeroValue4
  t9 := Tryz.underlying9
  a9 := Tryz.isAgg9
  z9 := Tryz.sizeOf9
  v9 := Tryz.zeroValue9
  t20 := Tryz.underlying20
  a20 := Tryz.isAgg20
  z20 := Tryz.sizeOf20
  v20 := Tryz.zeroValue20
  t37 := Tryz.underlying22
  a37 := Tryz.isAgg22
  z37 := Tryz.sizeOf22
  v37 := Tryz.zeroValue22
  t70 := Tryz.underlying78
  a70 := Tryz.isAgg78
  z70 := Tryz.sizeOf78
  v70 := Tryz.zeroValue78
  t72 := Tryz.underlying80
  a72 := Tryz.isAgg80
  z72 := Tryz.sizeOf80
  v72 := Tryz.zeroValue80
  t75 := Tryz.underlying82
  a75 := Tryz.isAgg82
  z75 := Tryz.sizeOf82
  v75 := Tryz.zeroValue82
  t164 := Tryz.underlying126
  a164 := Tryz.isAgg126
  z164 := Tryz.sizeOf126
  v164 := Tryz.zeroValue126
}
theorem extraOf (ρ : Ren) (h72 : ρ.t 72 = 80) (h5 : ρ.t 5 = 5) : Builder.Extra Tryz.prog ρ where
  sizeBuilder := by rw [h72]; kernel_rfl
  liesBuilder := by rw [h72]; kernel_rfl
  t5 := by rw [h5]; exact Tryz.underlying5
  a5 := by rw [h5]; exact Tryz.isAgg5
  z5 := by rw [h5]; exact Tryz.sizeOf5
  v5 := by rw [h5]; exact Tryz.zeroValue5
  infoByte := by rw [h5]; kernel_rfl
  cellsByte := by rw [h5]; kernel_rfl
  sizeByte := by rw [h5]; kernel_rfl
  neB5 := by rw [h72, h5]; decide

/-- A builder of the call's own, and the bytes it holds. -/
def Bld (w : World) (B b : Nat) (l : List UInt8) : Prop := Lib.IsBuilderF 80 5 B b (Lib.byteCells l) w
theorem Bld.fresh (w : World) : Bld (w.alloc (.cells #[.pointer none, .slice none 0 0] 80)) w.heap.size w.heap.size [] :=
  Lib.IsBuilderF.of (Lib.fresh_isBuilder _ _ w)
theorem bldAt_kept {T e : TypeId} {B b : Nat} {p : Value} {bs : List Value} {w w' : World} (h : Lib.BuilderAtF T e B b p bs w) (hb : Below w.heap.size w w') : Lib.BuilderAtF T e B b p bs w' := by
  have hlt := h.lt
  obtain ⟨h1, v, h2, h3, h4⟩ := h
  refine ⟨h1, v, (hb.block b hlt).trans h2, ?_, h4⟩
  exact h3.kept (row := none) ⟨hb.os, hb.tape, hb.output, hb.size, fun k hk _ => hb.block k hk⟩ (Classical.em _)
theorem Bld.below {w w' : World} {B b : Nat} {l : List UInt8} (h : Bld w B b l) (hb : Below w.heap.size w w') : Bld w' B b l :=
  h.elim (fun x => .inl (bldAt_kept x hb)) (fun x => .inr (bldAt_kept x hb))

theorem libWrite (B b : Nat) (l : List UInt8) (s : ByteArray) (w : World) (h : Bld w B b l) (hl : l.length + s.size ≤ 1000000000) (hB : B ≤ w.heap.size) :
    Calls Tryz.prog 56 #[.pointer (some ⟨b, 0, none⟩), .string s] w fun e w' => e = .returned (.tuple #[.int .i64 s.size, .nilIface]) ∧ Bld w' B b (l ++ s.data.toList) ∧ Below B w w' := by
  refine (Any.Builder_WriteString_k laysW (extraOf wren rfl rfl) B b (Lib.byteCells l) s w h (by rw [Lib.byteCells_length]; omega) hB).mono ?_
  rintro e w' ⟨rfl, h1, h2, _⟩
  refine ⟨rfl, Or.inr ?_, h2⟩
  rw [Lib.byteCells_append, ← Lib.strCells_eq]
  exact h1
theorem libBuilt (B b : Nat) (l : List UInt8) (w : World) (h : Bld w B b l) (hB : B ≤ w.heap.size) :
    Calls Tryz.prog 57 #[.pointer (some ⟨b, 0, none⟩)] w fun e w' => e = .returned (.string (Pl.str l)) ∧ Below B w w' := by
  refine (Any.Builder_String_any_k Tryz.lays169 (extraOf _ rfl rfl) B b l w h hB).mono ?_
  rintro e w' ⟨rfl, _, h2, _⟩
  exact ⟨rfl, h2⟩

set_option maxRecDepth 100000 in
set_option maxHeartbeats 4000000 in
theorem implJournalText (v : Value) (ds : List (Int × Int)) (w : World) (hv : Deeds w v ds) (hx : ds.length ≤ 10000000) (hT : TabOk w) :
    Calls Tryz.prog 17 #[v] w fun e w' => e = .returned (.string (Pl.str (Pl.journalL ds))) ∧ Below w.heap.size w w' := by
  obtain ⟨a, cap, rfl, hc⟩ := hv
  have HC := Lib.hid hc
  have HTab := Lib.hid hT
  clear hc hT
  obtain ⟨R, hR⟩ : ∃ R, Pl.str (Pl.journalL ds) = R := ⟨_, rfl⟩
  rw [hR]
  have HRR := Lib.hid hR
  have B0 := Lib.hid (Bld.fresh w)
  have b0 : Below w.heap.size w (w.alloc (.cells #[.pointer none, .slice none 0 0] 80)) := (Below.refl _ _).alloc (Nat.le_refl _) _
  clear hR
  go_enter Tryz.func17, Tryz.ntmps17
  go_wp2_with fail
  go_loopw [9] (fun kv wr => ∃ k : Nat, k ≤ ds.length ∧ kv = .int .i64 k ∧ Pl.toldB (ds.take k) = true ∧ Below w.heap.size w wr ∧ Bld wr w.heap.size w.heap.size (Pl.textL (ds.take k))) (fun kv _ => ds.length - (intOf kv).toNat)
  case atStart => exact ⟨0, Nat.zero_le _, rfl, rfl, b0, B0.out⟩
  case round =>
    clear b0 B0
    obtain ⟨k, hk, rfl, ht, hbw, hbl⟩ := hrel
    have hsz := hbw.size
    have HB := Lib.hid hbl
    have hT5 := Lib.hid (fun o => HTab.out.below (hbw.alloc hsz o))
    clear hbl
    by_cases hlt : k < ds.length
    · obtain ⟨b, off, rfl, ck, cn⟩ := HC.out k hlt
      have hbb : b < w.heap.size := World.block_lt_of_cell? _ _ ck
      have dk := (hbw.cell (p := ⟨b, off + k * 2, none⟩) hbb).trans ck
      have dn := (hbw.cell (p := ⟨b, off + (k * 2 + 1), none⟩) hbb).trans cn
      have dn' : wr.cell? ⟨b, off + k * 2 + 1, none⟩ = some (.int .i64 (ds[k]?.getD (0, 0)).2) := dn
      have hi : (k : Int) < (ds.length : Int) := by omega
      have HDT := Lib.hid (fun W (h : TabOk W) => implDeedText (ds[k]?.getD (0, 0)).1 (ds[k]?.getD (0, 0)).2 W h)
      clear ck cn
      by_cases h0 : Pl.deedL (ds[k]?.getD (0, 0)).1 (ds[k]?.getD (0, 0)).2 = []
      · have HR : Hid (R = ⟨#[]⟩) := Lib.hid (by rw [← HRR.out, Pl.journal_not hlt h0]; rfl)
        have hA : Pl.str (Pl.deedL (ds[k]?.getD (0, 0)).1 (ds[k]?.getD (0, 0)).2) = ⟨#[]⟩ := by rw [h0]; rfl
        rw [hA] at HDT
        clear h0 hA ht HB
        generalize (ds[k]?.getD (0, 0)).1 = ka at *
        generalize (ds[k]?.getD (0, 0)).2 = kb at *
        go_wp2_with fail
        refine (HDT.out _ (hT5.out _)).mono ?_
        rintro e w7 ⟨rfl, b7⟩
        have c7 := (hbw.alloc hsz (.cells #[.int .i64 ka, .int .i64 kb] 38)).trans (b7.mono (by simp; omega))
        clear b7 dk dn dn' hT5 HDT
        go_wp2_with fail
        go_ret
        exact ⟨ret_str HR.out.symm, c7⟩
      · obtain ⟨j1, j2⟩ := Pl.journal_take hlt ht h0
        have J1 := Lib.hid j1
        have hle : (Pl.textL (ds.take k)).length ≤ 14 * ds.length := by
          have h1 := Pl.textL_len (ds.take k)
          rw [List.length_take] at h1; omega
        have hld : (Pl.str (Pl.deedL (ds[k]?.getD (0, 0)).1 (ds[k]?.getD (0, 0)).2)).size ≤ 100 := by
          have h2 := Pl.deedL_len (ds[k]?.getD (0, 0)).1 (ds[k]?.getD (0, 0)).2
          rw [Pl.str_size]; omega
        have hfit : ¬ 9223372036854775807 < (Pl.str (Pl.deedL (ds[k]?.getD (0, 0)).1 (ds[k]?.getD (0, 0)).2)).size + 1 := by omega
        have J2 : Hid (Pl.textL (ds.take k) ++ (Pl.str (Pl.deedL (ds[k]?.getD (0, 0)).1 (ds[k]?.getD (0, 0)).2) ++ ⟨#[10]⟩).data.toList = Pl.textL (ds.take (k + 1))) := Lib.hid (by
          rw [j2, show (⟨#[10]⟩ : ByteArray) = Pl.str [10] from rfl, Pl.str_add, Pl.str_data])
        have hsz2 : (Pl.str (Pl.deedL (ds[k]?.getD (0, 0)).1 (ds[k]?.getD (0, 0)).2) ++ ⟨#[10]⟩).size ≤ 101 := by
          rw [ByteArray.size_append]; exact Nat.add_le_add hld (Nat.le_refl _)
        have hne : (Pl.str (Pl.deedL (ds[k]?.getD (0, 0)).1 (ds[k]?.getD (0, 0)).2)).toList.isEmpty = false := by
          rw [Lib.toList_data, Pl.str_data, Bool.eq_false_iff]
          intro h; exact h0 (List.isEmpty_iff.1 h)
        have hne2 : ¬ (Pl.str (Pl.deedL (ds[k]?.getD (0, 0)).1 (ds[k]?.getD (0, 0)).2)).toList = [] := by
          rw [Lib.toList_data, Pl.str_data]; exact h0
        clear h0 j1 j2 ht
        generalize Pl.str (Pl.deedL (ds[k]?.getD (0, 0)).1 (ds[k]?.getD (0, 0)).2) = A at *
        generalize (ds[k]?.getD (0, 0)).1 = ka at *
        generalize (ds[k]?.getD (0, 0)).2 = kb at *
        generalize Pl.textL (ds.take k) = X at *
        have HWR := Lib.hid (fun W (h : Bld W w.heap.size w.heap.size X) (h2 : w.heap.size ≤ W.heap.size) => libWrite w.heap.size w.heap.size X (A ++ ⟨#[10]⟩) W h (by omega) h2)
        have HJ := J2.out
        go_wp2_with fail
        refine (HDT.out _ (hT5.out _)).mono ?_
        rintro e w7 ⟨rfl, b7⟩
        have d7 : Below wr.heap.size wr w7 := ((Below.refl _ wr).alloc (Nat.le_refl _) (.cells #[.int .i64 ka, .int .i64 kb] 38)).trans (b7.mono (by simp))
        have HB7 := Lib.hid (HB.out.below d7)
        have c7 : Below w.heap.size w w7 := hbw.trans (d7.mono hsz)
        have hs7 := c7.size
        clear b7 dk dn dn' hT5 HDT d7 HB
        go_wp2_with fail
        refine (HWR.out _ HB7.out hs7).mono ?_
        rintro e w8 ⟨rfl, h8, b8⟩
        have c8 := c7.trans b8
        rw [HJ] at h8
        have H8 := Lib.hid h8
        clear b8 h8 HB7 HWR
        go_wp2_with fail
        go_roundw
        case rel => exact ⟨k + 1, by omega, by go_num, J1.out, c8, H8.out⟩
        case measure => simp [intOf]; omega
    · obtain rfl : k = ds.length := by omega
      have hi : ¬ (ds.length : Int) < (ds.length : Int) := by omega
      have ht2 := ht
      have hb2 := HB.out
      rw [List.take_of_length_le (Nat.le_refl _)] at ht2 hb2
      have HR : Hid (Pl.str (Pl.textL ds) = R) := Lib.hid (by rw [← HRR.out, Pl.journalL, if_pos ht2])
      clear ht ht2 HB hT5
      have HS := Lib.hid (libBuilt w.heap.size w.heap.size (Pl.textL ds) wr hb2 hsz)
      clear hb2
      generalize Pl.str (Pl.textL ds) = X at *
      go_wp2_with fail
      refine HS.out.mono ?_
      rintro e w9 ⟨rfl, b9⟩
      have c9 := hbw.trans b9
      clear HS b9
      go_wp2_with fail
      go_ret
      exact ⟨ret_str HR.out, c9⟩

end Go.Proofs.YtgkkoegfmhgcjaaGreatDoor
