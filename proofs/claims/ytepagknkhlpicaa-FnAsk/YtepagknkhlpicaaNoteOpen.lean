/-
  Arguments of notes and questions, opened.
-/
import Derived.Test.YtepagknkhlpicaaSpecFind
import Derived.Test.YtepagknkhlpicaaSpecCounts
import Derived.HandedShaped
namespace Go.Proofs.Ytepagknkhlpicaa
open Go.ChangeShapes Go.WideShapes Go.ChangeAt Go.RowKit Go.Deep
set_option linter.unusedVariables false
set_option linter.unusedSimpArgs false

/-- A world behind a start: the program's own variables are there. -/
def Grd (W : World) : Prop := ∃ W0 : World, W0.ShapedOpen Try.prog ∧ Below W0.heap.size W0 W
theorem Grd.below {W W' : World} (h : Grd W) (hb : Below W.heap.size W W') : Grd W' := by
  obtain ⟨W0, h1, h2⟩ := h
  exact ⟨W0, h1, h2.trans (hb.mono h2.size)⟩
/-- What a function that finds, and one that counts, keeps to. -/
def FindC (F : Nat) : Prop := ∀ (N : Nat) (v : Value) (ns : List ND) (a : AD) (w : World), Grd w → RNS N w v ns → N ≤ w.heap.size → ns.length ≤ 100000000 → (∀ d ∈ ns, d.s.size ≤ 1000000000) → a.part.size ≤ 1000000000 →
  Calls Try.prog F #[v, a.val] w fun e w' => ∃ vo, e = .returned vo ∧ w'.ownsRow w.heap.size 3 1 vo (findL ns a).length ((findL ns a).map (Value.int .i64)) ∧ Below w.heap.size w w'
def CountsC (F : Nat) : Prop := ∀ (N : Nat) (v : Value) (ns : List ND) (w : World), Grd w → RNS N w v ns → N ≤ w.heap.size → ns.length ≤ 100000000 →
  Calls Try.prog F #[v] w fun e w' => ∃ vo, e = .returned vo ∧ w'.ownsRow w.heap.size 46 3 vo (countsL ns).length (cCells (countsL ns)) ∧ Below w.heap.size w w'
theorem specFindC : FindC 23 := fun N v ns a w _ h1 h2 h3 h4 h5 => specFind_any N v ns a w h1 h2 h3 h4 h5
end Go.Proofs.Ytepagknkhlpicaa
