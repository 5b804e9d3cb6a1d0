/-
  FnExactFind.
-/
import Derived.Test.YthdigjomidhmpaaImplFind3
namespace Go.Proofs.Ythdigjomidhmpaa
theorem find_holds : Rows.FnExactFindSaid := find_of implFind
#print axioms find_holds
end Go.Proofs.Ythdigjomidhmpaa
