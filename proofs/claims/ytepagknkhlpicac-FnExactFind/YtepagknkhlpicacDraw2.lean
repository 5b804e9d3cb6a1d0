/-
  What draws texts and notes: l5Cur's text, note; Notes.
-/
import Derived.Test.YtepagknkhlpicacDraw
namespace Go.Proofs.Ytepagknkhlpicac
open Go.ChangeShapes Go.WideShapes Go.ChangeAt Go.RowKit
set_option linter.unusedVariables false
set_option linter.unusedSimpArgs false

theorem str_one (w : World) (x : Int) : (convert 63 9 (.slice (some ⟨w.heap.size, 0, none⟩) 1 1)).run Try.prog (w.alloc (.cells #[.int .u8 x] 5)) = .ok (.string (mkS [x])) (w.alloc (.cells #[.int .u8 x] 5)) :=
  bytes_to_string _ ⟨w.heap.size, 0, none⟩ 1 1 [x] rfl (fun i hi => by
    obtain rfl : i = 0 := by omega
    simp [Addr.add])

/-- A note that may be drawn: it is one, and its number fits. -/
structure Good (t k p n : Int) (s : ByteArray) : Prop where
  t0 : 0 ≤ t
  t1 : t ≤ 1000000000
  k0 : 0 ≤ k
  k1 : k ≤ 100
  p0 : 0 ≤ p
  p1 : p ≤ 1000
  s1 : s.size ≤ 200
  wf : (Lit.int .i64 n).wf = true
theorem Good.ok {t k p n : Int} {s : ByteArray} (h : Good t k p n s) : noteOkB t k p s.size = true := by
  simp only [noteOkB, Bool.and_eq_true, inB_true, decide_eq_true_eq]
  exact ⟨⟨⟨⟨h.t0, h.t1⟩, h.k0, h.k1⟩, h.p0, h.p1⟩, h.s1⟩

theorem b5cells {w : World} {b : Nat} {x0 x1 x2 x3 x4 : Value} {T : TypeId} (h : w.heap[b]? = some (.cells #[x0, x1, x2, x3, x4] T (0, 0))) :
    (w.cell? ⟨b, 0, none⟩ = some x0 ∧ w.cell? ⟨b, 1, none⟩ = some x1 ∧ w.cell? ⟨b, 2, none⟩ = some x2 ∧ w.cell? ⟨b, 3, none⟩ = some x3 ∧ w.cell? ⟨b, 4, none⟩ = some x4) ∧ ∀ j, w.frozen? ⟨b, j, none⟩ = false := by
  refine ⟨⟨?_, ?_, ?_, ?_, ?_⟩, fun j => Joins.unfrozen_of_block h j⟩ <;> (rw [Joins.cell_of_block h]; rfl)

theorem Kp.setCell {S : Nat → Prop} {w w' : World} (h : Kp S w w') (a : Addr) (u : Value) (ha : w.heap.size ≤ a.block) : Kp S w (w'.setCell a u) :=
  ⟨h.os, h.tape, h.output, by simpa [World.setCell] using h.size, fun k hk hs => by rw [Below.heap_setCell _ _ _ _ (by omega)]; exact h.block k hk hs⟩

end Go.Proofs.Ytepagknkhlpicac
