/-
  impl.powersRule's method firstAgain: the first number of a way that comes again.
-/
import Derived.Test.YtcigepkjnnknlaaNextOf
import Derived.Test.YtcigepkjnnknlaaMathFloyd
import Derived.Test.YtcigepkjnnknlaaDraws
import Derived.Deep.LoopGhost
namespace Go.Proofs.Ytcigepkjnnknlaa
open Go.RowKit Go.Shelf

end Go.Proofs.Ytcigepkjnnknlaa
