/-
  impl.Frame and spec.Frame.
-/
import Derived.Test.YtepagknkhlpicabRRRRWriter
namespace Go.Proofs.YtepagknkhlpicabRRRR
open Go.ChangeShapes Go.WideShapes Go.ChangeAt Go.RowKit
set_option linter.unusedVariables false
set_option linter.unusedSimpArgs false

theorem But.cell {S : Nat → Prop} {w w' : World} (h : But S w w') {b : Nat} (hb : ¬ S b) (o : Nat) : w'.cell? ⟨b, o, none⟩ = w.cell? ⟨b, o, none⟩ := World.cell?_of_block (h.block b hb)

theorem info5 : (Try.prog.info? 5).map (fun i => (i.zero, i.size, i.bytes)) = some (some (.int .u8 0), 1, 1) := by kernel_rfl

theorem make_bytes (n : Nat) (z : Int) (hz : z = n) (hn : n ≤ 1000000000) (w : World) :
    (Instr.makeSlice 34 (.int .i64 z) (.int .i64 z)).run Try.prog w = .ok (.slice (some ⟨w.heap.size, 0, none⟩) n n) (w.alloc (.cells (Array.replicate n (Value.int .u8 0)) 5)) := by
  subst hz
  obtain ⟨i, hi, h1, h2, h3⟩ := info_parts info5
  rw [run_make w 34 5 i (.int .u8 0) Try.underlying34 hi h1 .i64 .i64 n n (by omega) (Int.le_refl _) (by rw [h3]; omega) (by omega)]
  have e : madeCells (Value.cells (.int .u8 0)) ((n : Int).toNat * i.size) = (Array.replicate n (Value.int .u8 0)) := by
    apply Array.ext'
    rw [h2]
    simp only [Value.cells, Int.toNat_natCast, Nat.mul_one, Array.toList_replicate]
    exact toList_madeCells_one _ _
  rw [e]
  simp

theorem Wr_new (w1 : World) (n : Nat) (hn : n ≤ 1000) : Wr ((w1.alloc (.cells (Array.replicate n (Value.int .u8 0)) 5)).alloc (.cells #[.slice (some ⟨w1.heap.size, 0, none⟩) n n, .int .i64 0] 78)) (w1.heap.size + 1) w1.heap.size n [] := by
  refine ⟨?_, by omega, Nat.zero_le _, hn, ?_⟩
  · have := heap_alloc_new (w1.alloc (.cells (Array.replicate n (Value.int .u8 0)) 5)) (.cells #[.slice (some ⟨w1.heap.size, 0, none⟩) n n, .int .i64 0] 78)
    simpa using this
  · rw [Below.heap_alloc _ _ _ (by simp)]
    simpa using heap_alloc_new w1 (.cells (Array.replicate n (Value.int .u8 0)) 5)

/-- The frame of a note. -/
def frameL (t k p n : Int) (s : ByteArray) : List Int := [78, (s.size : Int)] ++ le t 4 ++ [k] ++ le p 2 ++ le (IntKind.u64.wrap n) 8 ++ txt s
theorem frameL_length (t k p n : Int) (s : ByteArray) : (frameL t k p n s).length = 17 + s.size := by simp [frameL, le_length, txt_length]; omega

theorem noteOk_parts {t k p : Int} {len : Nat} (h : noteOkB t k p len = true) : (0 ≤ t ∧ t ≤ 1000000000) ∧ (0 ≤ k ∧ k ≤ 100) ∧ (0 ≤ p ∧ p ≤ 1000) ∧ len ≤ 200 := by
  simp only [noteOkB, Bool.and_eq_true, inB_true, decide_eq_true_eq] at h
  exact ⟨h.1.1.1, h.1.1.2, h.1.2, h.2⟩

/-- A note in a block. -/
def NoteAt (w : World) (b : Nat) (t k p n : Int) (s : ByteArray) : Prop :=
  w.cell? ⟨b, 0, none⟩ = some (.int .i64 t) ∧ w.cell? ⟨b, 1, none⟩ = some (.int .i64 k) ∧ w.cell? ⟨b, 2, none⟩ = some (.int .i64 p) ∧ w.cell? ⟨b, 3, none⟩ = some (.int .i64 n) ∧ w.cell? ⟨b, 4, none⟩ = some (.string s)
theorem NoteAt.but {S : Nat → Prop} {w w' : World} {b : Nat} {t k p n : Int} {s : ByteArray} (h : NoteAt w b t k p n s) (hb : But S w w') (hS : ¬ S b) : NoteAt w' b t k p n s := by
  obtain ⟨h0, h1, h2, h3, h4⟩ := h
  exact ⟨by rw [hb.cell hS]; exact h0, by rw [hb.cell hS]; exact h1, by rw [hb.cell hS]; exact h2, by rw [hb.cell hS]; exact h3, by rw [hb.cell hS]; exact h4⟩

end Go.Proofs.YtepagknkhlpicabRRRR
