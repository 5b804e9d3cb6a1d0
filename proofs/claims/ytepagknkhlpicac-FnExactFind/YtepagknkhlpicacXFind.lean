/-
  FnExactFind.
-/
import Derived.Test.YtepagknkhlpicacImplFind3
namespace Go.Proofs.Ytepagknkhlpicac
theorem find_holds : Rows.FnExactFindSaid := find_of implFind
#print axioms find_holds
end Go.Proofs.Ytepagknkhlpicac
