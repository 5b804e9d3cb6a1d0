/-
  Slices of counts: eqCountS, markCountS, heldCountS.
-/
import Derived.Test.YtepagknkhlpicaaNoteMark
namespace Go.Proofs.Ytepagknkhlpicaa
open Go.ChangeShapes Go.WideShapes Go.ChangeAt Go.RowKit Go.Deep
set_option linter.unusedVariables false
set_option linter.unusedSimpArgs false

/-- A count as data. -/
structure CD where
  k : Int
  n : Int
  s : Int
def CD.cells (d : CD) : List Value := [.int .i64 d.k, .int .i64 d.n, .int .i64 d.s]
def cCells : List CD → List Value
  | [] => []
  | d :: r => d.cells ++ cCells r
theorem cCells_length : ∀ l : List CD, (cCells l).length = l.length * 3
  | [] => rfl
  | d :: r => by simp [cCells, cCells_length r, CD.cells]; omega
theorem cCells_append : ∀ a b : List CD, cCells (a ++ b) = cCells a ++ cCells b
  | [], b => rfl
  | d :: r, b => by simp [cCells, cCells_append r b]
theorem cCells_at : ∀ (ns : List CD) (j : Nat) (hj : j < ns.length) (i : Nat), i < 3 → (cCells ns)[j * 3 + i]? = (ns[j].cells)[i]?
  | [], j, hj, _, _ => by simp at hj
  | d :: r, 0, _, i, hi => by
    simp only [cCells, Nat.zero_mul, Nat.zero_add, List.getElem_cons_zero]
    rw [List.getElem?_append_left (by simp [CD.cells]; exact hi)]
  | d :: r, j + 1, hj, i, hi => by
    have := cCells_at r j (by simpa using hj) i hi
    simp only [cCells, List.getElem_cons_succ]
    rw [List.getElem?_append_right (by simp [CD.cells]; omega), ← this]
    congr 1
    simp [CD.cells]
    omega
/-- Three cells hold a count. -/
structure CAt (w : World) (b o : Nat) (d : CD) : Prop where
  k : w.cell? ⟨b, o, none⟩ = some (.int .i64 d.k)
  n : w.cell? ⟨b, o + 1, none⟩ = some (.int .i64 d.n)
  s : w.cell? ⟨b, o + 2, none⟩ = some (.int .i64 d.s)
theorem CAt.below {w w' : World} {N b o : Nat} {d : CD} (h : CAt w b o d) (hb : Below N w w') (hN : b < N) : CAt w' b o d :=
  ⟨by rw [hb.cell (p := ⟨b, o, none⟩) hN]; exact h.k, by rw [hb.cell (p := ⟨b, o + 1, none⟩) hN]; exact h.n, by rw [hb.cell (p := ⟨b, o + 2, none⟩) hN]; exact h.s⟩
/-- A slice of counts that can be read. -/
def RdC (w : World) (v : Value) (xs : List CD) : Prop :=
  ∃ a cap, v = .slice a xs.length cap ∧ xs.length ≤ cap ∧ cap ≤ maxLen ∧ ∀ i (hi : i < xs.length), ∃ b off, a = some ⟨b, off, none⟩ ∧ b < w.heap.size ∧ CAt w b (off + i * 3) xs[i]
theorem own_rdc {w : World} {base T : Nat} {v : Value} {ns : List CD} (h : w.ownsRow base T 3 v ns.length (cCells ns)) : RdC w v ns := by
  obtain ⟨h1, h2⟩ := h
  rcases h2 with ⟨rfl, h0⟩ | ⟨g, cap, cur, rfl, hg, hh, hn, hm, hs, ht⟩
  · have : ns = [] := List.eq_nil_of_length_eq_zero h0
    subst this
    exact ⟨none, 0, rfl, Nat.le_refl _, by unfold maxLen; omega, fun i hi => by simp at hi⟩
  · refine ⟨_, cap, rfl, hn, hm, fun j hj => ⟨g, 0, rfl, lt_of_block hh, ?_⟩⟩
    have key : ∀ i, i < 3 → w.cell? ⟨g, j * 3 + i, none⟩ = (ns[j].cells)[i]? := by
      intro i hi
      rw [Joins.cell_of_block hh, ← cCells_at ns j hj i hi, ← ht, List.getElem?_take_of_lt (by omega)]
      simp
    rw [Nat.zero_add]
    exact ⟨key 0 (by omega), key 1 (by omega), key 2 (by omega)⟩

/-- The marks of counts. -/
def marksC (k : Int) : Nat → List CD
  | 0 => []
  | n + 1 => marksC k n ++ [⟨k + n * 3, k + n * 3 + 1, k + n * 3 + 1 + 1⟩]
theorem marksC_length (k : Int) (n : Nat) : (marksC k n).length = n := by
  induction n with
  | zero => rfl
  | succ n ih => simp [marksC, ih]
theorem marksC_get (k : Int) : ∀ {n j : Nat} (h : j < (marksC k n).length), (marksC k n)[j] = ⟨k + j * 3, k + j * 3 + 1, k + j * 3 + 1 + 1⟩
  | 0, _, h => by simp [marksC] at h
  | n + 1, j, h => by
    simp only [marksC]
    by_cases e : j < n
    · rw [List.getElem_append_left (by rw [marksC_length]; exact e)]
      exact marksC_get k _
    · have hl : (marksC k n).length = n := marksC_length k n
      have : j = n := by rw [marksC_length] at h; omega
      subst this
      rw [List.getElem_append_right (by omega)]
      simp [hl]
theorem take_set3 {c : Array Value} {j n : Nat} {rows : List Value} {v0 v1 v2 : Value} (hct : c.toList.take (j * 3) = rows) (hcs : c.size = n * 3) (hlt : j < n) : (((c.setIfInBounds (j * 3) v0).setIfInBounds (j * 3 + 1) v1).setIfInBounds (j * 3 + 2) v2).toList.take ((j + 1) * 3) = rows ++ [v0, v1, v2] := by
  have h1 := take_set (v := v0) hct rfl (by omega : j * 3 < c.size)
  have h2 := take_set (c := c.setIfInBounds (j * 3) v0) (v := v1) h1 rfl (by simp; omega)
  have h3 := take_set (c := (c.setIfInBounds (j * 3) v0).setIfInBounds (j * 3 + 1) v1) (v := v2) h2 rfl (by simp; omega)
  have e : (j + 1) * 3 = j * 3 + 1 + 1 + 1 := by omega
  rw [e, h3]
  simp

end Go.Proofs.Ytepagknkhlpicaa
