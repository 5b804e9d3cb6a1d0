/-
  What draws choices from bytes: l5Cur's next, pick, whole, text, note.
-/
import Derived.Test.YtepagknkhlpicacReader
namespace Go.Proofs.Ytepagknkhlpicac
open Go.ChangeShapes Go.WideShapes Go.ChangeAt Go.RowKit
set_option linter.unusedVariables false
set_option linter.unusedSimpArgs false

theorem Reads.kp' {w w' : World} {S : Nat → Prop} {v : Value} {bs : List Int} (h : Reads w v bs) (hb : Kp S w w') (hv : ∀ k, v.ownBlock = some k → bs.length = 0 ∨ (k < w.heap.size ∧ ¬ S k)) : Reads w' v bs := by
  obtain ⟨a, cap, rfl, h1, h2, h3⟩ := h
  refine ⟨a, cap, rfl, h1, h2, fun i hi => ?_⟩
  obtain ⟨b, off, rfl, hc⟩ := h3 i hi
  have hb' : b < w.heap.size ∧ ¬ S b := by rcases hv b rfl with h | h; omega; exact h
  exact ⟨b, off, rfl, by rw [World.cell?_of_block (hb.block b hb'.1 hb'.2)]; exact hc⟩

theorem and255 (q : Int) : ∃ x : Nat, wrap64 (bits .and .u64 (IntKind.u64.wrap q / 1099511627776) 255) = x ∧ x ≤ 255 := by
  have h : 0 ≤ IntKind.u64.wrap q ∧ IntKind.u64.wrap q < 18446744073709551616 := by rw [IntKind.wrap_u64]; omega
  have e := u64_and (IntKind.u64.wrap q / 1099511627776) 255 (by omega) (by omega) (by omega) (by omega)
  have hle : ((IntKind.u64.wrap q / 1099511627776).toNat &&& (255 : Int).toNat) ≤ 255 := Nat.and_le_right
  refine ⟨(IntKind.u64.wrap q / 1099511627776).toNat &&& (255 : Int).toNat, ?_, hle⟩
  rw [e]
  exact IntWalk.wrap64_in _ (by omega)
theorem wf64 (x : Int) (h1 : -9223372036854775808 ≤ x) (h2 : x ≤ 9223372036854775807) : (Lit.int .i64 x).wf = true := by
  simp [Lit.wf, IntKind.min, IntKind.max, IntKind.signed, IntKind.bits]
  omega
theorem wf64_out {x : Int} (h : (Lit.int .i64 x).wf = true) : -9223372036854775808 ≤ x ∧ x ≤ 9223372036854775807 := by
  simp [Lit.wf, IntKind.min, IntKind.max, IntKind.signed, IntKind.bits] at h
  omega

end Go.Proofs.Ytepagknkhlpicac
