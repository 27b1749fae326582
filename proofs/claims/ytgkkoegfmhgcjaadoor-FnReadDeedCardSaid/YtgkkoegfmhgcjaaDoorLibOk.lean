/-
  What the library's variables hold where a call begins: the table of powers of ten, and the two errors.
-/
import Derived.MakeChecks
import Derived.Lib.LaidTab
import Derived.Lib.ItoaNum
import Derived.Lib.SmallJoins
import Derived.LaidLaws
import Derived.Stop.LaidErr
import Derived.Test.YtgkkoegfmhgcjaaDoorRows
namespace Go.Proofs.YtgkkoegfmhgcjaaDoor
open Go.RowKit

def TabOk (w : World) : Prop := Lib.TabIs Tryd.prog w "internal/strconv.uint64pow10" .u64 Lib.pow10Tab
def SynOk (w : World) : Prop := ∃ tp p, w.var? Tryd.prog "strconv.ErrSyntax" = some #[.iface tp p]
def RanOk (w : World) : Prop := ∃ tp p, w.var? Tryd.prog "strconv.ErrRange" = some #[.iface tp p]
/-- What reads of texts ask of the library's variables. -/
structure LibOk (w : World) : Prop where
  tab : TabOk w
  syn : SynOk w
  ran : RanOk w

theorem var_keep {n : String} {w w' : World} {cs : Array Value} (h : w.var? Tryd.prog n = some cs) (hb : Below w.heap.size w w') : w'.var? Tryd.prog n = some cs := by
  cases hg : Tryd.prog.globalNamed n with
  | none => unfold World.var? at h; rw [hg] at h; cases h
  | some g => exact Go.Joins.var_stays hg h hb (Nat.le_refl _)
theorem TabOk.below {w w' : World} (h : TabOk w) (hb : Below w.heap.size w w') : TabOk w' := var_keep h hb
theorem LibOk.below {w w' : World} (h : LibOk w) (hb : Below w.heap.size w w') : LibOk w' :=
  ⟨h.tab.below hb, (let ⟨t, p, e⟩ := h.syn; ⟨t, p, var_keep e hb⟩), (let ⟨t, p, e⟩ := h.ran; ⟨t, p, var_keep e hb⟩)⟩

theorem gTab : Tryd.prog.globalNamed "internal/strconv.uint64pow10" = some 3 := by kernel_rfl
theorem gTabType : (Tryd.prog.globals[3]?).map (·.type) = some 84 := by kernel_rfl
theorem cellsTab : Tryd.prog.cellsOf 84 = 20 := by kernel_rfl
theorem cellsU64 : Tryd.prog.cellsOf 69 = 1 := by kernel_rfl
theorem tab_of_laid {W : World} {x y : String × DataW Unit} {r : List (String × DataW Unit)} (h : laidMet Tryd.prog (x :: y :: ("internal/strconv.uint64pow10", Lib.tabData .u64 Lib.pow10Tab) :: r) W) : TabOk W :=
  Lib.tabIs_of_head gTab gTabType Tryd.underlying84 Tryd.underlying69 cellsU64 cellsTab h.tail.tail

theorem gSyn : Tryd.prog.globalNamed "strconv.ErrSyntax" = some 1 := by kernel_rfl
theorem gSynType : (Tryd.prog.globals[1]?).map (·.type) = some 54 := by kernel_rfl
theorem gRan : Tryd.prog.globalNamed "strconv.ErrRange" = some 2 := by kernel_rfl
theorem gRanType : (Tryd.prog.globals[2]?).map (·.type) = some 54 := by kernel_rfl
theorem cellsErr : Tryd.prog.cellsOf 92 = 1 := by kernel_rfl
theorem cellsStr : Tryd.prog.cellsOf 9 = 1 := by kernel_rfl
theorem starErr : "*" ++ "errors.errorString" = "*errors.errorString" := by decide
theorem rowErr (u : TypeId) (h : Tryd.prog.typeName? 3 u = some "*errors.errorString") : u = 90 :=
  typeName_ptr_named (nm := "errors.errorString") (by rw [starErr]; kernel_rfl) (by kernel_rfl) (by decide) u (by rw [starErr]; exact h)
theorem lib_of_laid {W : World} {x y : String × DataW Unit} {t1 t2 : List UInt8} {r : List (String × DataW Unit)}
    (h : laidMet Tryd.prog (x :: y :: ("internal/strconv.uint64pow10", Lib.tabData .u64 Lib.pow10Tab) :: ("strconv.ErrRange", .iface "*errors.errorString" (.ptr (.agg [.lit (.string t1)]))) :: ("strconv.ErrSyntax", .iface "*errors.errorString" (.ptr (.agg [.lit (.string t2)]))) :: r) W) : LibOk W := by
  obtain ⟨a1, s1, h1, _, _, _⟩ := laid_sentinel h.tail.tail.tail gRan gRanType Tryd.underlying54 rowErr Tryd.underlying90 Tryd.underlying92 rfl rfl Tryd.underlying9 cellsErr cellsStr
  obtain ⟨a2, s2, h2, _, _, _⟩ := laid_sentinel h.tail.tail.tail.tail gSyn gSynType Tryd.underlying54 rowErr Tryd.underlying90 Tryd.underlying92 rfl rfl Tryd.underlying9 cellsErr cellsStr
  exact ⟨tab_of_laid h, ⟨_, _, h2⟩, ⟨_, _, h1⟩⟩

end Go.Proofs.YtgkkoegfmhgcjaaDoor
