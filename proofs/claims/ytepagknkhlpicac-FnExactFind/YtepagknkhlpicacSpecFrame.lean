/-
  spec.Frame.
-/
import Derived.Test.YtepagknkhlpicacFrame
import Derived.Lib.AppendStr
namespace Go.Proofs.Ytepagknkhlpicac
open Go.ChangeShapes Go.WideShapes Go.ChangeAt Go.RowKit
set_option linter.unusedVariables false
set_option linter.unusedSimpArgs false

theorem strCells_txt (s : ByteArray) : Lib.strCells s = (txt s).map (Value.int .u8) := by simp [Lib.strCells, txt]

theorem NoteAt.below {w w' : World} {B b : Nat} {t k p n : Int} {s : ByteArray} (h : NoteAt w b t k p n s) (hb : Below B w w') (hS : b < B) : NoteAt w' b t k p n s := by
  obtain ⟨h0, h1, h2, h3, h4⟩ := h
  exact ⟨by rw [hb.cell hS]; exact h0, by rw [hb.cell hS]; exact h1, by rw [hb.cell hS]; exact h2, by rw [hb.cell hS]; exact h3, by rw [hb.cell hS]; exact h4⟩

end Go.Proofs.Ytepagknkhlpicac
