/-
  heldByteSS, markWriteS, heldWriteS, markDisk, heldDisk.
-/
import Derived.Test.YtepagknkhlpicabRRRRDiskMark
namespace Go.Proofs.YtepagknkhlpicabRRRR
open Go.ChangeShapes Go.WideShapes Go.ChangeAt Go.RowKit
set_option linter.unusedVariables false
set_option linter.unusedSimpArgs false

theorem mkBB_get : ∀ (L : List (List Int)) (k : Int) (i : Nat) (h1 : i < (mkBB k L).length) (h2 : i < L.length), (mkBB k L)[i] = marks (k + sumL (L.take i)) L[i].length
  | [], _, _, h1, _ => by simp [mkBB] at h1
  | b :: r, k, 0, _, _ => by simp [mkBB, sumL]
  | b :: r, k, i + 1, h1, h2 => by
    have := mkBB_get r (k + b.length) i (by simpa [mkBB] using h1) (by simpa using h2)
    simp only [mkBB, List.getElem_cons_succ, List.take_succ_cons, sumL]
    rw [this, Int.add_assoc]
    simp

/-- The marks of some writes. -/
def sumW : List WD → Nat
  | [] => 0
  | d :: r => 1 + d.bs.length + sumW r
def mkWW (k : Int) : List WD → List WD
  | [] => []
  | d :: r => ⟨k, marks (k + 1) d.bs.length⟩ :: mkWW (k + 1 + d.bs.length) r
theorem mkWW_length : ∀ (L : List WD) (k : Int), (mkWW k L).length = L.length
  | [], _ => rfl
  | b :: r, k => by simp [mkWW, mkWW_length r]
theorem sumW_append : ∀ A B : List WD, sumW (A ++ B) = sumW A + sumW B
  | [], B => by simp [sumW]
  | a :: A, B => by simp [sumW, sumW_append A B]; omega
theorem mkWW_append : ∀ (A B : List WD) (k : Int), mkWW k (A ++ B) = mkWW k A ++ mkWW (k + sumW A) B
  | [], B, k => by simp [mkWW, sumW]
  | a :: A, B, k => by
    simp only [List.cons_append, mkWW, mkWW_append A B, sumW]
    have : k + 1 + ↑a.bs.length + ↑(sumW A) = k + ↑(1 + a.bs.length + sumW A) := by omega
    rw [this]
theorem sumW_take_le (L : List WD) (j : Nat) : sumW (L.take j) ≤ sumW L := by
  have := sumW_append (L.take j) (L.drop j)
  rw [List.take_append_drop] at this
  omega
theorem mkWW_get : ∀ (L : List WD) (k : Int) (i : Nat) (h1 : i < (mkWW k L).length) (h2 : i < L.length), (mkWW k L)[i] = ⟨k + sumW (L.take i), marks (k + sumW (L.take i) + 1) L[i].bs.length⟩
  | [], _, _, h1, _ => by simp [mkWW] at h1
  | b :: r, k, 0, _, _ => by simp [mkWW, sumW]
  | b :: r, k, i + 1, h1, h2 => by
    have := mkWW_get r (k + 1 + b.bs.length) i (by simpa [mkWW] using h1) (by simpa using h2)
    simp only [mkWW, List.getElem_cons_succ, List.take_succ_cons, sumW]
    have e : k + 1 + ↑b.bs.length + ↑(sumW (r.take i)) = k + ↑(1 + b.bs.length + sumW (r.take i)) := by omega
    rw [this, e]

theorem wCells_set : ∀ (rows : List Value) (A C : List WD) (d d' : WD), rows.length = (A ++ d :: C).length → (wCells rows (A ++ d :: C)).set (A.length * 2) (.int .i64 d'.blk) = wCells rows (A ++ d' :: C)
  | [], [], _, _, _, h => by simp at h
  | [], _ :: _, _, _, _, h => by simp at h
  | v :: vs, [], C, d, d', _ => by simp [wCells]
  | v :: vs, a :: A, C, d, d', h => by
    have := wCells_set vs A C d d' (by simpa using h)
    have e : (a :: A).length * 2 = A.length * 2 + 1 + 1 := by simp; omega
    rw [e]
    simp [wCells, this]

/-- A disk's marks. -/
def mkD (k : Int) (D : DD) : DD := ⟨mkBB k D.bb, mkWW (k + sumL D.bb) D.ws⟩
def DD.sum (D : DD) : Nat := sumL D.bb + sumW D.ws

end Go.Proofs.YtepagknkhlpicabRRRR
