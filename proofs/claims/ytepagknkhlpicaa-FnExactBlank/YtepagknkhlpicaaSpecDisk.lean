/-
  spec.DiskOk.
-/
import Derived.Test.YtepagknkhlpicaaDiskOpen
namespace Go.Proofs.Ytepagknkhlpicaa
open Go.ChangeShapes Go.WideShapes Go.ChangeAt Go.RowKit
set_option linter.unusedVariables false
set_option linter.unusedSimpArgs false

/-- A write is right. -/
def WD.okB (d : WD) : Bool := inB d.blk 0 127 && d.bs.length == 64
/-- A disk is right. -/
def DD.okB (D : DD) : Bool := D.bb.length == 128 && decide (D.ws.length ≤ 200) && D.bb.all (fun b => b.length == 64) && D.ws.all WD.okB

end Go.Proofs.Ytepagknkhlpicaa
