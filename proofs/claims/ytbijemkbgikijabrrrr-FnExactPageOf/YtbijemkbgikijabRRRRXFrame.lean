/-
  The law FnExactFrame.
-/
import Derived.Test.YtbijemkbgikijabRRRRBytes
import Derived.Test.YtbijemkbgikijabRRRRXNoteOk
import Derived.WalkSmall
namespace Go.Proofs.YtbijemkbgikijabRRRR
open Go.ChangeShapes Go.WideShapes Go.ChangeAt Go.RowKit
open Go.ChangeMaps (open_string shut_string)
set_option linter.unusedVariables false
set_option linter.unusedSimpArgs false

/-- The frame of a note, or nothing. -/
def frameOf (t k p n : Int) (s : ByteArray) : List Int := if noteOkB t k p s.size then frameL t k p n s else []

theorem specFrame_any (t k p n : Int) (s : ByteArray) (w : World) (hs : s.size ≤ maxLen) :
    Calls Try.prog 77 #[.agg #[.int .i64 t, .int .i64 k, .int .i64 p, .int .i64 n, .string s]] w fun e w' => ∃ v, e = .returned v ∧ w'.ownsRow w.heap.size 5 1 v (frameOf t k p n s).length ((frameOf t k p n s).map (Value.int .u8)) ∧ Below w.heap.size w w' := by
  unfold frameOf
  cases h : noteOkB t k p s.size with
  | true =>
    refine (specFrame_ok t k p n s w h).mono ?_
    rintro e w' ⟨v, rfl, h1, h2⟩
    exact ⟨v, rfl, by simpa [frameL_length] using h1, h2⟩
  | false =>
    refine (specFrame_no t k p n s w hs h).mono ?_
    rintro e w' ⟨rfl, h2⟩
    exact ⟨_, rfl, World.ownsRow_nil _ _ _ _, h2⟩

theorem frameOf_length (t k p n : Int) (s : ByteArray) : (frameOf t k p n s).length ≤ 217 := by
  unfold frameOf
  cases h : noteOkB t k p s.size with
  | true => have := (noteOk_parts h).2.2.2; simp [frameL_length]; omega
  | false => simp

theorem ownsRow_below {w w' : World} {base ety : Nat} {v : Value} {n : Nat} {xs : List Value} {B : Nat} (h : w.ownsRow base ety 1 v n xs) (hb : Below B w w') (hB : w.heap.size ≤ B) : w'.ownsRow base ety 1 v n xs := by
  obtain ⟨h1, h2⟩ := h
  refine ⟨h1, ?_⟩
  rcases h2 with h2 | ⟨g, cap, cur, hv, hg, hh, r⟩
  · exact .inl h2
  · exact .inr ⟨g, cap, cur, hv, hg, by rw [hb.block g (by have := lt_of_block hh; omega)]; exact hh, r⟩

end Go.Proofs.YtbijemkbgikijabRRRR
