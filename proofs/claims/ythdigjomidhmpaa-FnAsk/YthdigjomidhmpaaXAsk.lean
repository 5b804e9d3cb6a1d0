/-
  FnAsk.
-/
import Derived.Test.YthdigjomidhmpaaImplFind3
import Derived.Test.YthdigjomidhmpaaImplCounts
import Derived.Test.YthdigjomidhmpaaWAsk
namespace Go.Proofs.Ythdigjomidhmpaa
theorem ask_holds : Rows.FnAskSaid := ask_of implFind implCounts
#print axioms ask_holds
end Go.Proofs.Ythdigjomidhmpaa
