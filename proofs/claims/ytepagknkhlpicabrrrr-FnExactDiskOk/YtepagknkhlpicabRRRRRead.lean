/-
  impl.ReadFrame.
-/
import Derived.Test.YtepagknkhlpicabRRRRReader
namespace Go.Proofs.YtepagknkhlpicabRRRR
open Go.ChangeShapes Go.WideShapes Go.ChangeAt Go.RowKit
set_option linter.unusedVariables false
set_option linter.unusedSimpArgs false

/-- The answer of ReadFrame. -/
def frV (ok : Bool) (t k p n : Int) (s : ByteArray) (len : Int) : Value := .agg #[.bool ok, .int .i64 t, .int .i64 k, .int .i64 p, .int .i64 n, .string s, .int .i64 len]
def frNo : Value := frV false 0 0 0 0 ByteArray.empty 0

/-- What ReadFrame answers at some bytes. -/
def readV (bs : List Int) : Value :=
  if bs.getD 0 0 = 78 ∧ 17 + bs.getD 1 0 ≤ bs.length ∧ noteOkB (un (pad bs 2 4)) (bs.getD 6 0) (un (pad bs 7 2)) (bs.getD 1 0).toNat = true
  then frV true (un (pad bs 2 4)) (bs.getD 6 0) (un (pad bs 7 2)) (wrap64 (un (pad bs 9 8))) (mkS (pad bs 17 (bs.getD 1 0).toNat)) (17 + bs.getD 1 0)
  else frNo

theorem un_one (bs : List Int) (q : Nat) : un (pad bs q 1) = bs.getD q 0 := by simp [pad, un]
theorem wrap_un (bs : List Int) (hbs : Byt bs) (q k : Nat) (hk : k ≤ 4) : wrap64 (un (pad bs q k)) = un (pad bs q k) := by
  have h := un_bd _ (pad_byt hbs k q)
  rw [pad_length] at h
  have h1 : (2 : Nat) ^ (8 * k) ≤ 2 ^ 32 := Nat.pow_le_pow_right (by omega) (by omega)
  have h2 : ((2 : Int) ^ (8 * k)) = (((2 : Nat) ^ (8 * k) : Nat) : Int) := by simp
  exact IntWalk.wrap64_in _ (by omega)

/-- The answer's block. -/
theorem blk7 {w : World} {b : Nat} {x0 x1 x2 x3 x4 x5 x6 : Value} {T : TypeId} (h : w.heap[b]? = some (.cells #[x0, x1, x2, x3, x4, x5, x6] T (0, 0))) :
    (w.cell? ⟨b, 0, none⟩ = some x0 ∧ w.cell? ⟨b, 1, none⟩ = some x1 ∧ w.cell? ⟨b, 2, none⟩ = some x2 ∧ w.cell? ⟨b, 3, none⟩ = some x3 ∧ w.cell? ⟨b, 4, none⟩ = some x4 ∧ w.cell? ⟨b, 5, none⟩ = some x5 ∧ w.cell? ⟨b, 6, none⟩ = some x6) ∧ ∀ j, w.frozen? ⟨b, j, none⟩ = false := by
  refine ⟨⟨?_, ?_, ?_, ?_, ?_, ?_, ?_⟩, fun j => Joins.unfrozen_of_block h j⟩ <;> (rw [Joins.cell_of_block h]; rfl)
theorem blk5 {w : World} {b : Nat} {x0 x1 x2 x3 x4 : Value} {T : TypeId} (h : w.heap[b]? = some (.cells #[x0, x1, x2, x3, x4] T (0, 0))) :
    (w.cell? ⟨b, 0, none⟩ = some x0 ∧ w.cell? ⟨b, 1, none⟩ = some x1 ∧ w.cell? ⟨b, 2, none⟩ = some x2 ∧ w.cell? ⟨b, 3, none⟩ = some x3 ∧ w.cell? ⟨b, 4, none⟩ = some x4) ∧ ∀ j, w.frozen? ⟨b, j, none⟩ = false := by
  refine ⟨⟨?_, ?_, ?_, ?_, ?_⟩, fun j => Joins.unfrozen_of_block h j⟩ <;> (rw [Joins.cell_of_block h]; rfl)

end Go.Proofs.YtepagknkhlpicabRRRR
