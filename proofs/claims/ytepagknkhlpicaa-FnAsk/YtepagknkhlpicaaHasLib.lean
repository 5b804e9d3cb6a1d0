/-
  What the library's strings.Contains says is what hasB says.
-/
import Derived.Test.YtepagknkhlpicaaSpecFind
import Derived.Lib.IndexMore
namespace Go.Proofs.Ytepagknkhlpicaa
open Go.ChangeShapes Go.WideShapes Go.ChangeAt Go.RowKit Go.Deep
set_option linter.unusedVariables false
set_option linter.unusedSimpArgs false

theorem hasAt_occ (s p : ByteArray) (j : Nat) (hj : j ≤ s.size) : hasAt s p j = Lib.occAt s.data.toList p.data.toList j := by
  unfold hasAt Lib.occAt
  have e1 : (s.extract j (j + p.size)).toList = (s.data.toList.drop j).take p.size := by
    rw [ByteArray.toList_eq, ByteArray.data_extract, Array.toList_extract]
    simp
  have e2 : p.toList = p.data.toList := ByteArray.toList_eq p
  have e3 : p.size = p.data.toList.length := by simp
  have e4 : s.size = s.data.toList.length := by simp
  rw [e1, e2, Bool.eq_iff_iff]
  simp only [Bool.and_eq_true, decide_eq_true_eq, beq_iff_eq, List.isPrefixOf_iff_prefix]
  rw [List.prefix_iff_eq_take]
  constructor
  · rintro ⟨h1, h2⟩
    rw [← e3, h2]
  · intro h
    have hl := congrArg List.length h
    simp only [List.length_take, List.length_drop] at hl
    refine ⟨by omega, ?_⟩
    rw [e3]
    exact h.symm
theorem contains_hasB (s p : ByteArray) : Lib.contains s.data.toList p.data.toList = hasB s p := by
  have e4 : s.size = s.data.toList.length := by simp
  rw [Bool.eq_iff_iff]
  unfold Lib.contains hasB
  rw [decide_eq_true_eq, List.any_eq_true]
  rcases Lib.index_spec s.data.toList p.data.toList with ⟨h1, h2⟩ | ⟨i, h1, h2, h3, h4⟩
  · rw [h1]
    constructor
    · intro h; omega
    · rintro ⟨q, hq, h⟩
      have hq' : q ≤ s.size := by have := List.mem_range.1 hq; omega
      rw [hasAt_occ s p q hq', h2 q (by omega)] at h
      cases h
  · rw [h1]
    constructor
    · intro _
      exact ⟨i, List.mem_range.2 (by omega), by rw [hasAt_occ s p i (by omega)]; exact h3⟩
    · intro _; omega
end Go.Proofs.Ytepagknkhlpicaa
