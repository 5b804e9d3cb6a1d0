/-
  szByteS, szByteSS, szWrite, szWriteS, szDisk: how large an argument is.
-/
import Derived.Test.YtepagknkhlpicaaDiskHeld
namespace Go.Proofs.Ytepagknkhlpicaa
open Go.ChangeShapes Go.WideShapes Go.ChangeAt Go.RowKit
set_option linter.unusedVariables false
set_option linter.unusedSimpArgs false

theorem Reads.le {w : World} {v : Value} {bs : List Int} (h : Reads w v bs) : bs.length ≤ maxLen := by
  obtain ⟨a, cap, e, h1, h2, _⟩ := h
  omega

/-- What a size may answer: it did not fit, or what is left. -/
def Fits (left : Int) (n : Nat) (z : Int) : Prop := z = -1 ∨ (0 ≤ z ∧ z + n = left)

/-- How many places some writes have: each counts one, and its bytes. -/
theorem sumW_succ (L : List WD) (j : Nat) (hlt : j < L.length) : sumW (L.take (j + 1)) = sumW (L.take j) + (1 + L[j].bs.length) := by
  rw [List.take_succ_eq_append_getElem hlt, sumW_append]; simp [sumW]

theorem sum_mem : ∀ (L : List (List Int)), ∀ x ∈ L, x.length ≤ sumL L
  | [], _, h => by simp at h
  | b :: r, x, h => by
    rcases List.mem_cons.1 h with rfl | h
    · simp [sumL]
    · have := sum_mem r x h; simp [sumL]; omega
theorem sumW_mem : ∀ (L : List WD), (∀ x ∈ L, x.bs.length ≤ sumW L) ∧ L.length ≤ sumW L
  | [] => ⟨fun _ h => by simp at h, by simp [sumW]⟩
  | b :: r => by
    have ih := sumW_mem r
    refine ⟨fun x h => ?_, by simp [sumW]; omega⟩
    rcases List.mem_cons.1 h with rfl | h
    · simp [sumW]; omega
    · have := ih.1 x h; simp [sumW]; omega

end Go.Proofs.Ytepagknkhlpicaa
