/-
  The law FnExactFind, over what impl.Find keeps to.
-/
import Derived.Test.YtepagknkhlpicaaWCounts
namespace Go.Proofs.Ytepagknkhlpicaa
open Go.ChangeShapes Go.WideShapes Go.ChangeAt Go.RowKit Go.Deep
set_option linter.unusedVariables false
set_option linter.unusedSimpArgs false

end Go.Proofs.Ytepagknkhlpicaa
