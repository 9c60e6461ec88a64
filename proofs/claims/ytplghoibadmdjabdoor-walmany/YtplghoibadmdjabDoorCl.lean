/-
  What bytes.Clone answers, and bytes at a place.
-/
import Derived.Test.YtplghoibadmdjabDoorAp
namespace Go.Proofs.YtplghoibadmdjabDoor
open Go.ChangeShapes Go.WideShapes Go.ChangeAt Go.RowKit

end Go.Proofs.YtplghoibadmdjabDoor
