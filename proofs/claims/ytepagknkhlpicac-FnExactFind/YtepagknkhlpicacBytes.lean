/-
  The laws' helpers on byte slices: eqByteS, markByteS, heldByteS, toByteS.
-/
import Derived.Test.YtepagknkhlpicacSpecFrame
namespace Go.Proofs.Ytepagknkhlpicac
open Go.ChangeShapes Go.WideShapes Go.ChangeAt Go.RowKit
set_option linter.unusedVariables false
set_option linter.unusedSimpArgs false

/-- A slice of bytes that can be read: its numbers. -/
def Reads (w : World) (v : Value) (bs : List Int) : Prop :=
  ∃ a cap, v = .slice a bs.length cap ∧ bs.length ≤ cap ∧ cap ≤ maxLen ∧ ∀ i, i < bs.length → ∃ b off, a = some ⟨b, off, none⟩ ∧ w.cell? ⟨b, off + i, none⟩ = some (.int .u8 (bs.getD i 0))

theorem Reads.of_own {w : World} {base e : Nat} {v : Value} {n : Nat} {bs : List Int} (h : w.ownsRow base e 1 v n (bs.map (Value.int .u8))) : Reads w v bs ∧ bs.length = n := by
  obtain ⟨h1, h2⟩ := h
  have hl : bs.length = n := by simpa using h1
  refine ⟨?_, hl⟩
  rcases h2 with ⟨rfl, rfl⟩ | ⟨g, cap, cur, rfl, hg, hh, hn, hm, hs, ht⟩
  · exact ⟨none, 0, by rw [hl], by omega, by unfold maxLen; omega, fun i hi => by omega⟩
  · refine ⟨_, cap, by rw [hl], by omega, hm, fun i hi => ⟨g, 0, rfl, ?_⟩⟩
    have e : cur[i]? = some (.int .u8 (bs.getD i 0)) := by
      have : (cur.toList.take (n * 1))[i]? = (bs.map (Value.int .u8))[i]? := by rw [ht]
      rw [List.getElem?_take_of_lt (by omega)] at this
      simp only [Array.getElem?_toList, List.getElem?_map] at this
      rw [this, List.getD_eq_getElem?_getD, List.getElem?_eq_getElem hi]
      rfl
    rw [Nat.zero_add, Joins.cell_of_block hh]
    exact e

theorem Reads.below {w w' : World} {B : Nat} {v : Value} {bs : List Int} (h : Reads w v bs) (hb : Below B w w') (hv : ∀ k, v.ownBlock = some k → k < B) : Reads w' v bs := by
  obtain ⟨a, cap, rfl, h1, h2, h3⟩ := h
  refine ⟨a, cap, rfl, h1, h2, fun i hi => ?_⟩
  obtain ⟨b, off, rfl, hc⟩ := h3 i hi
  exact ⟨b, off, rfl, by rw [hb.cell (p := ⟨b, off + i, none⟩) (hv b rfl)]; exact hc⟩

theorem take_eq_succ {xs ys : List Int} {j : Nat} (h1 : j < xs.length) (h2 : j < ys.length) (h : xs.take j = ys.take j) : xs.take (j + 1) = ys.take (j + 1) ↔ xs.getD j 0 = ys.getD j 0 := by
  have e1 : xs.getD j 0 = xs[j] := by simp [List.getD_eq_getElem?_getD, List.getElem?_eq_getElem h1]
  have e2 : ys.getD j 0 = ys[j] := by simp [List.getD_eq_getElem?_getD, List.getElem?_eq_getElem h2]
  rw [List.take_succ_eq_append_getElem h1, List.take_succ_eq_append_getElem h2, h, List.append_right_inj, e1, e2]
  exact ⟨fun q => by injection q, fun q => by rw [q]⟩

/-- The marks: the numbers from k on, as bytes. -/
def marks (k : Int) : Nat → List Int
  | 0 => []
  | n + 1 => marks k n ++ [(k + n) % 256]
theorem marks_length (k : Int) (n : Nat) : (marks k n).length = n := by
  induction n with
  | zero => rfl
  | succ n ih => simp [marks, ih]

theorem marks_getD (k : Int) : ∀ {n j : Nat}, j < n → (marks k n).getD j 0 = (k + j) % 256
  | 0, _, h => by omega
  | n + 1, j, h => by
    rw [marks, List.getD_eq_getElem?_getD]
    by_cases e : j < n
    · rw [List.getElem?_append_left (by rw [marks_length]; exact e), ← List.getD_eq_getElem?_getD]
      exact marks_getD k e
    · have : j = n := by omega
      subst this
      rw [List.getElem?_append_right (by rw [marks_length]; exact Nat.le_refl _), marks_length]
      simp

end Go.Proofs.Ytepagknkhlpicac
