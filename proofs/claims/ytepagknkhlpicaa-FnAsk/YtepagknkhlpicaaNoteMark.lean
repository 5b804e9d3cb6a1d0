/-
  The marks of notes: markText, markNoteS.
-/
import Derived.Test.YtepagknkhlpicaaIntS
namespace Go.Proofs.Ytepagknkhlpicaa
open Go.ChangeShapes Go.WideShapes Go.ChangeAt Go.RowKit Go.Deep
set_option linter.unusedVariables false
set_option linter.unusedSimpArgs false

end Go.Proofs.Ytepagknkhlpicaa
