/-
  What bytes.Clone answers, and bytes at a place.
-/
import Derived.Test.YtplghoibadmdjaaDoorAp
namespace Go.Proofs.YtplghoibadmdjaaDoor
open Go.ChangeShapes Go.WideShapes Go.ChangeAt Go.RowKit

end Go.Proofs.YtplghoibadmdjaaDoor
