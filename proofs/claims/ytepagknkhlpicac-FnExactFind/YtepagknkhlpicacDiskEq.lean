/-
  eqWrite, eqWriteS, eqDisk, of two disks that read the same.
-/
import Derived.Test.YtepagknkhlpicacDiskTo
namespace Go.Proofs.Ytepagknkhlpicac
open Go.ChangeShapes Go.WideShapes Go.ChangeAt Go.RowKit
set_option linter.unusedVariables false
set_option linter.unusedSimpArgs false
attribute [local go_sem ↓] Go.wp_at_zero Go.wp_at_succ

theorem own_rdb {w : World} {lo e : Nat} {v : Value} {bs : List Int} (h : w.ownsRow lo e 1 v bs.length (bs.map (Value.int .u8))) : RdB w.heap.size w v bs :=
  ⟨(Reads.of_own h).1, fun k hk => .inr (h.lt k hk).2⟩
theorem OBB.reads {lo : Nat} {w : World} {v : Value} {rows : List Value} {L : List (List Int)} (h : OBB lo w v rows L) : RBB w.heap.size w v L := by
  have hlen := h.inner.length
  obtain ⟨h1, h2⟩ := h.outer
  rcases h2 with ⟨rfl, h0⟩ | ⟨g, cap, cur, rfl, hg, hh, hn, hm, hs, ht⟩
  · exact ⟨none, 0, by rw [h0], by omega, by unfold maxLen; omega, fun i hi => by omega⟩
  · refine ⟨_, cap, rfl, hn, hm, fun i hi => ⟨g, 0, rows[i], rfl, lt_of_block hh, ?_, (h.inner.get i (by omega) hi).elim fun _ h1 => own_rdb h1⟩⟩
    rw [Nat.zero_add, Joins.cell_of_block hh]
    have : (cur.toList.take (L.length * 1))[i]? = rows[i]? := by rw [ht]
    rw [List.getElem?_take_of_lt (by omega)] at this
    simpa [List.getElem?_eq_getElem (show i < rows.length by omega)] using this
theorem wCells_get : ∀ (vs : List Value) (L : List WD), vs.length = L.length → ∀ (i : Nat) (h1 : i < vs.length) (h2 : i < L.length), (wCells vs L)[i * 2]? = some (.int .i64 L[i].blk) ∧ (wCells vs L)[i * 2 + 1]? = some vs[i]
  | [], [], _, i, h1, _ => by simp at h1
  | [], _ :: _, h, _, _, _ => by simp at h
  | _ :: _, [], h, _, _, _ => by simp at h
  | v :: vs, d :: L, h, 0, _, _ => by simp [wCells]
  | v :: vs, d :: L, h, i + 1, h1, h2 => by
    have := wCells_get vs L (by simpa using h) i (by simpa using h1) (by simpa using h2)
    have e : (i + 1) * 2 = i * 2 + 1 + 1 := by omega
    rw [e]
    simpa [wCells] using this
theorem undrew {B : Nat} {w w' : World} (h : Below B w.drew w') : Below B w w' := ⟨h.os, h.tape, h.output, h.size, h.block⟩

end Go.Proofs.Ytepagknkhlpicac
