/-
  FnExactCounts.
-/
import Derived.Test.YtepagknkhlpicacImplCounts
namespace Go.Proofs.Ytepagknkhlpicac
theorem counts_holds : Rows.FnExactCountsSaid := counts_of implCounts
#print axioms counts_holds
end Go.Proofs.Ytepagknkhlpicac
