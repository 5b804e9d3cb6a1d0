/-
  Contracts of chapter 1's small functions (l1in, upTo, both NoteOk, toNote, szNote), for all laws that reach them.
-/
import Derived.Test.YtepagknkhlpicaaRows
import Derived.WalkKit
import Derived.WalkSpells
import Derived.ProofKit
import Derived.OpenShut
import Derived.ShutString
import Derived.ChangeOld
import Derived.Below
import Derived.Outline
namespace Go.Proofs.Ytepagknkhlpicaa
open Go.ChangeShapes Go.WideShapes Go.ChangeAt Go.RowKit
open Go.ChangeMaps (open_string shut_string)
set_option linter.unusedVariables false
set_option linter.unusedSimpArgs false

theorem own : ownKnob Try.prog.godebug = none := by kernel_rfl
theorem laidOut : laidOutB Try.prog = true := by kernel_rfl

theorem bcell {W w1 : World} (hb : Below W.heap.size W w1) : (∀ b o, b < W.heap.size → w1.cell? ⟨b, o, none⟩ = W.cell? ⟨b, o, none⟩) ∧ (∀ b o, b < W.heap.size → w1.frozen? ⟨b, o, none⟩ = W.frozen? ⟨b, o, none⟩) :=
  ⟨fun b o h => hb.cell (p := ⟨b, o, none⟩) h, fun b o h => hb.frozen (p := ⟨b, o, none⟩) h⟩

/-- Within limits. -/
def inB (x a b : Int) : Bool := decide (a ≤ x) && decide (x ≤ b)
theorem inB_true {x a b : Int} : inB x a b = true ↔ a ≤ x ∧ x ≤ b := by simp [inB]
theorem inB_false {x a b : Int} : inB x a b = false ↔ x < a ∨ b < x := by simp [inB]; omega

theorem l1in_any (x a b : Int) (w : World) : Calls Try.prog 54 #[.int .i64 x, .int .i64 a, .int .i64 b] w fun e w' => e = .returned (.bool (inB x a b)) ∧ w' = w := by
  by_cases h1 : a ≤ x <;> by_cases h2 : x ≤ b
  all_goals
    go_enter Try.func54, Try.ntmps54
    go_wp2
    go_ret
    exact ⟨by simp [inB, h1, h2], rfl⟩

theorem upTo_any (x b : Int) (w : World) : Calls Try.prog 65 #[.int .i64 x, .int .i64 b] w fun e w' => e = .returned (.bool (inB x 0 b)) ∧ w' = w := by
  by_cases h1 : 0 ≤ x <;> by_cases h2 : x ≤ b
  all_goals
    go_enter Try.func65, Try.ntmps65
    go_wp2
    go_ret
    exact ⟨by simp [inB, h1, h2], rfl⟩

/-- A note is one. -/
def noteOkB (t k p : Int) (len : Nat) : Bool := inB t 0 1000000000 && inB k 0 100 && inB p 0 1000 && decide (len ≤ 200)

set_option maxHeartbeats 1000000 in
theorem specNoteOk_any (t k p n : Int) (s : ByteArray) (w : World) (hs : s.size ≤ maxLen) :
    Calls Try.prog 26 #[.agg #[.int .i64 t, .int .i64 k, .int .i64 p, .int .i64 n, .string s]] w fun e w' => e = .returned (.bool (noteOkB t k p s.size)) ∧ Below w.heap.size w w' := by
  unfold maxLen at hs
  cases h1 : inB t 0 1000000000
  all_goals
    try cases h2 : inB k 0 100
  all_goals
    try cases h3 : inB p 0 1000
  all_goals
    by_cases h4 : s.size ≤ 200
  all_goals
    go_enter Try.func26, Try.ntmps26
    go_wp2_with (go_at_call 54; refine (l1in_any _ _ _ _).mono ?_; rintro e w' ⟨rfl, rfl⟩)
    go_ret
    exact ⟨by simp [noteOkB, *] <;> omega, (Below.refl _ _).alloc (Nat.le_refl _) _⟩

set_option maxHeartbeats 1000000 in
theorem implNoteOk_any (t k p n : Int) (s : ByteArray) (w : World) (hs : s.size ≤ maxLen) :
    Calls Try.prog 28 #[.agg #[.int .i64 t, .int .i64 k, .int .i64 p, .int .i64 n, .string s]] w fun e w' => e = .returned (.bool (noteOkB t k p s.size)) ∧ Below w.heap.size w w' := by
  unfold maxLen at hs
  cases h1 : inB t 0 1000000000
  all_goals
    try cases h2 : inB k 0 100
  all_goals
    try cases h3 : inB p 0 1000
  all_goals
    by_cases h4 : s.size ≤ 200
  all_goals
    go_enter Try.func28, Try.ntmps28
    go_wp2_with (go_at_call 65; refine (upTo_any _ _ _).mono ?_; rintro e w' ⟨rfl, rfl⟩)
    go_ret
    exact ⟨by simp [noteOkB, *] <;> omega, (Below.refl _ _).alloc (Nat.le_refl _) _⟩

set_option maxHeartbeats 1000000 in
theorem toNote_any (t k p n : Int) (s : ByteArray) (w : World) :
    Calls Try.prog 27 #[.agg #[.int .i64 t, .int .i64 k, .int .i64 p, .int .i64 n, .string s]] w fun e w' => e = .returned (.agg #[.int .i64 t, .int .i64 k, .int .i64 p, .int .i64 n, .string s]) ∧ Below w.heap.size w w' := by
  go_enter Try.func27, Try.ntmps27
  go_wp2
  exact bodyPost_ret (v := .agg #[.int .i64 t, .int .i64 k, .int .i64 p, .int .i64 n, .string s]) (by simp [results, Try.results27, go_sem]) rfl ⟨rfl, (((Below.refl _ _).alloc (Nat.le_refl _) _).alloc (by simp) _).alloc (by simp; omega) _⟩

theorem szNote_any (t k p n : Int) (s : ByteArray) (left : Int) (w : World) (hs : s.size ≤ maxLen) (hl : 0 ≤ left) (hl' : left ≤ 1048576) :
    Calls Try.prog 25 #[.agg #[.int .i64 t, .int .i64 k, .int .i64 p, .int .i64 n, .string s], .int .i64 left] w fun e w' => e = .returned (.int .i64 (if (s.size : Int) ≤ left then left - s.size else -1)) ∧ Below w.heap.size w w' := by
  unfold maxLen at hs
  by_cases h : (s.size : Int) ≤ left
  all_goals
    go_enter Try.func25, Try.ntmps25
    go_wp2
    go_ret
    exact ⟨by simp [h], (Below.refl _ _).alloc (Nat.le_refl _) _⟩
end Go.Proofs.Ytepagknkhlpicaa
