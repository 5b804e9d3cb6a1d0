/-
  The law FnExactNoteOk.
-/
import Derived.Test.YtepagknkhlpicacNotes
namespace Go.Proofs.Ytepagknkhlpicac
open Go.ChangeShapes Go.WideShapes Go.ChangeAt Go.RowKit
open Go.ChangeMaps (open_string shut_string)
set_option linter.unusedVariables false
set_option linter.unusedSimpArgs false

set_option maxRecDepth 100000 in
/-- A note that came in, opened. -/
theorem open_note {H : Type} {enc : TypeId × Value → H} {W : World} {b0 : Nat} {r : Reach} {v : Value} {d : DataW H} {ps : List MemPlace} {sp : Nat → Bool} {hd : Bool}
    (hv : Value.okWide Try.prog W r b0 45 v) (h : DataW.Trod enc Try.prog W 0 sp hd 45 v d ps) :
    ∃ (t k p n : Int) (s : ByteArray), v = .agg #[.int .i64 t, .int .i64 k, .int .i64 p, .int .i64 n, .string s] ∧ s.size ≤ maxLen ∧ (Lit.int .i64 n).wf = true := by
  obtain ⟨cs, rfl, hsz⟩ := okWide_struct Try.underlying45 hv
  obtain ⟨fuel, hf⟩ := h
  have hC : Try.prog.cellsOf 45 = 5 := by kernel_rfl
  rw [hC] at hsz
  obtain ⟨l⟩ := cs
  match l, hsz with
  | [c0, c1, c2, c3, c4], _ =>
    obtain ⟨xs, m, rfl, _, _, hl, hx⟩ := DataW.trod_struct Try.underlying45 hf
    have h0 := hx 0 _ rfl
    have h1 := hx 1 _ rfl
    have h2 := hx 2 _ rfl
    have h3 := hx 3 _ rfl
    have h4 := hx 4 _ rfl
    match xs, hl with
    | [x0, x1, x2, x3, x4], _ =>
      have c3' : Try.prog.cellsOf 3 = 1 := by kernel_rfl
      have c2' : Try.prog.cellsOf 2 = 1 := by kernel_rfl
      have c9' : Try.prog.cellsOf 9 = 1 := by kernel_rfl
      obtain ⟨t, e0, _, _⟩ := DataW.trod_int Try.underlying3 h0
      obtain ⟨k, e1, _, _⟩ := DataW.trod_int Try.underlying3 h1
      obtain ⟨p, e2, _, _⟩ := DataW.trod_int Try.underlying3 h2
      obtain ⟨n, e3, _, wn⟩ := DataW.trod_int Try.underlying2 h3
      obtain ⟨s, e4, _, hs⟩ := DataW.trod_string Try.underlying9 h4
      simp [Value.cells, c3', c2', c9'] at e0 e1 e2 e3 e4
      subst e0 e1 e2 e3 e4
      exact ⟨t, k, p, n, s, rfl, hs, wn⟩

end Go.Proofs.Ytepagknkhlpicac
