/-
  impl.powersRule's method firstAgain: the first number of a way that comes again.
-/
import Derived.Test.YtepkneeedkmaoaaNextOf
import Derived.Test.YtepkneeedkmaoaaMathFloyd
import Derived.Test.YtepkneeedkmaoaaDraws
import Derived.Deep.LoopGhost
namespace Go.Proofs.Ytepkneeedkmaoaa
open Go.RowKit Go.Shelf

end Go.Proofs.Ytepkneeedkmaoaa
