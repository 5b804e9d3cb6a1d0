/-
  The law FnExactFrame.
-/
import Derived.Test.YtepagknkhlpicabRRRRBytes
import Derived.Test.YtepagknkhlpicabRRRRXNoteOk
import Derived.WalkSmall
namespace Go.Proofs.YtepagknkhlpicabRRRR
open Go.ChangeShapes Go.WideShapes Go.ChangeAt Go.RowKit
open Go.ChangeMaps (open_string shut_string)
set_option linter.unusedVariables false
set_option linter.unusedSimpArgs false

/-- The frame of a note, or nothing. -/
def frameOf (t k p n : Int) (s : ByteArray) : List Int := if noteOkB t k p s.size then frameL t k p n s else []

theorem frameOf_length (t k p n : Int) (s : ByteArray) : (frameOf t k p n s).length ≤ 217 := by
  unfold frameOf
  cases h : noteOkB t k p s.size with
  | true => have := (noteOk_parts h).2.2.2; simp [frameL_length]; omega
  | false => simp

theorem ownsRow_below {w w' : World} {base ety : Nat} {v : Value} {n : Nat} {xs : List Value} {B : Nat} (h : w.ownsRow base ety 1 v n xs) (hb : Below B w w') (hB : w.heap.size ≤ B) : w'.ownsRow base ety 1 v n xs := by
  obtain ⟨h1, h2⟩ := h
  refine ⟨h1, ?_⟩
  rcases h2 with h2 | ⟨g, cap, cur, hv, hg, hh, r⟩
  · exact .inl h2
  · exact .inr ⟨g, cap, cur, hv, hg, by rw [hb.block g (by have := lt_of_block hh; omega)]; exact hh, r⟩

end Go.Proofs.YtepagknkhlpicabRRRR
