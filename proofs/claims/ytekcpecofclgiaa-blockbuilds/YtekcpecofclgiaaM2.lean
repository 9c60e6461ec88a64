/-
  What the reference's Key answers.
-/
import Derived.Test.YtekcpecofclgiaaJ
namespace Go.Proofs.Ytekcpecofclgiaa
open Go.ChangeShapes Go.WideShapes Go.ChangeAt Go.RowKit

end Go.Proofs.Ytekcpecofclgiaa
