/-
  What the reference's Frame and Unframe answer.
-/
import Derived.Test.YtkphfacodacpkabO
namespace Go.Proofs.Ytkphfacodacpkab
open Go.ChangeShapes Go.WideShapes Go.ChangeAt Go.RowKit

end Go.Proofs.Ytkphfacodacpkab
