/-
  The law FnExactNoteOk.
-/
import Derived.Test.YtepagknkhlpicabRRRRNotes
namespace Go.Proofs.YtepagknkhlpicabRRRR
open Go.ChangeShapes Go.WideShapes Go.ChangeAt Go.RowKit
open Go.ChangeMaps (open_string shut_string)
set_option linter.unusedVariables false
set_option linter.unusedSimpArgs false

end Go.Proofs.YtepagknkhlpicabRRRR
