/-
  FnAsk.
-/
import Derived.Test.YtepagknkhlpicaaImplFind3
import Derived.Test.YtepagknkhlpicaaImplCounts
import Derived.Test.YtepagknkhlpicaaWAsk
namespace Go.Proofs.Ytepagknkhlpicaa
theorem ask_holds : Rows.FnAskSaid := ask_of implFind implCounts
#print axioms ask_holds
end Go.Proofs.Ytepagknkhlpicaa
