/-
  The law FnExactNoteOk.
-/
import Derived.Test.YtjfdimpceefipabRRRRNotes
namespace Go.Proofs.YtjfdimpceefipabRRRR
open Go.ChangeShapes Go.WideShapes Go.ChangeAt Go.RowKit
open Go.ChangeMaps (open_string shut_string)
set_option linter.unusedVariables false
set_option linter.unusedSimpArgs false

end Go.Proofs.YtjfdimpceefipabRRRR
