/-
  The walk of the exact law of DeskOk.
-/
import Derived.Test.YtgkkoegfmhgcjaaGreatDoorGDeskI
import Derived.Test.YtgkkoegfmhgcjaaGreatDoorGDeskX
import Derived.Deep.RegionHeld3
namespace Go.Proofs.YtgkkoegfmhgcjaaGreatDoor
open Go.RowKit Go.Shelf


theorem IsRow.len_le {k : IntKind} {w : World} {a : Option Addr} {len cap : Nat} {zs : List Int} (h : IsRow k w a len cap zs) : len ≤ maxLen := by
  rcases h with ⟨_, h, _, _⟩ | ⟨_, _, h1, h2, _⟩
  · omega
  · omega

end Go.Proofs.YtgkkoegfmhgcjaaGreatDoor
