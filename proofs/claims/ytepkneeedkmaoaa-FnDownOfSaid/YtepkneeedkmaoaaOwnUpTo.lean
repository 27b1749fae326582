/-
  impl.OwnUpTo, spec.OwnUpTo: all own numbers up to a number, in new memory; the exact law.
-/
import Derived.Test.YtepkneeedkmaoaaOwnSum
import Derived.Test.YtepkneeedkmaoaaMark
import Derived.Test.YtepkneeedkmaoaaWDigitsOf
namespace Go.Proofs.Ytepkneeedkmaoaa
open Go.RowKit Go.Shelf

end Go.Proofs.Ytepkneeedkmaoaa
