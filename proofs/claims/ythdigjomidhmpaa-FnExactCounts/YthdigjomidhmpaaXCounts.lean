/-
  FnExactCounts.
-/
import Derived.Test.YthdigjomidhmpaaImplCounts
namespace Go.Proofs.Ythdigjomidhmpaa
theorem counts_holds : Rows.FnExactCountsSaid := counts_of implCounts
#print axioms counts_holds
end Go.Proofs.Ythdigjomidhmpaa
