/-
  Slices of whole numbers: eqIntS, markIntS, heldIntS.
-/
import Derived.Test.YtepagknkhlpicaaNoteS
namespace Go.Proofs.Ytepagknkhlpicaa
open Go.ChangeShapes Go.WideShapes Go.ChangeAt Go.RowKit Go.Deep
set_option linter.unusedVariables false
set_option linter.unusedSimpArgs false

/-- A slice of whole numbers that can be read. -/
def RdI (w : World) (v : Value) (xs : List Int) : Prop :=
  ∃ a cap, v = .slice a xs.length cap ∧ xs.length ≤ cap ∧ cap ≤ maxLen ∧ ∀ i, i < xs.length → ∃ b off, a = some ⟨b, off, none⟩ ∧ b < w.heap.size ∧ w.cell? ⟨b, off + i, none⟩ = some (.int .i64 (xs.getD i 0))
theorem own_rdi {w : World} {base e n : Nat} {v : Value} {xs : List Int} (h : w.ownsRow base e 1 v n (xs.map (Value.int .i64))) : RdI w v xs ∧ xs.length = n := by
  obtain ⟨h1, h2⟩ := h
  have hl : xs.length = n := by simpa using h1
  refine ⟨?_, hl⟩
  rcases h2 with ⟨rfl, rfl⟩ | ⟨g, cap, cur, rfl, hg, hh, hn, hm, hs, ht⟩
  · exact ⟨none, 0, by rw [hl], by omega, by unfold maxLen; omega, fun i hi => by omega⟩
  · refine ⟨_, cap, by rw [hl], by omega, hm, fun i hi => ⟨g, 0, rfl, lt_of_block hh, ?_⟩⟩
    have e : cur[i]? = some (.int .i64 (xs.getD i 0)) := by
      have : (cur.toList.take (n * 1))[i]? = (xs.map (Value.int .i64))[i]? := by rw [ht]
      rw [List.getElem?_take_of_lt (by omega)] at this
      simp only [Array.getElem?_toList, List.getElem?_map] at this
      rw [this, List.getD_eq_getElem?_getD, List.getElem?_eq_getElem hi]
      rfl
    rw [Nat.zero_add, Joins.cell_of_block hh]
    exact e

/-- The marks: the numbers from k on. -/
def marksI (k : Int) : Nat → List Int
  | 0 => []
  | n + 1 => marksI k n ++ [k + n]
theorem marksI_length (k : Int) (n : Nat) : (marksI k n).length = n := by
  induction n with
  | zero => rfl
  | succ n ih => simp [marksI, ih]
theorem marksI_getD (k : Int) : ∀ {n j : Nat}, j < n → (marksI k n).getD j 0 = k + j
  | 0, _, h => by omega
  | n + 1, j, h => by
    rw [marksI, List.getD_eq_getElem?_getD]
    by_cases e : j < n
    · rw [List.getElem?_append_left (by rw [marksI_length]; exact e), ← List.getD_eq_getElem?_getD]
      exact marksI_getD k e
    · have : j = n := by omega
      subst this
      rw [List.getElem?_append_right (by rw [marksI_length]; exact Nat.le_refl _), marksI_length]
      simp

theorem Kp.setIn {S : Nat → Prop} {w w' : World} (h : Kp S w w') (a : Addr) (u : Value) (ha : S a.block) : Kp S w (w'.setCell a u) :=
  ⟨h.os, h.tape, h.output, by simpa [World.setCell] using h.size, fun k hk hs => by
    have hne : k ≠ a.block := fun e => hs (by rw [e]; exact ha)
    rw [Below.heap_setCell _ _ _ _ hne]; exact h.block k hk hs⟩

end Go.Proofs.Ytepagknkhlpicaa
