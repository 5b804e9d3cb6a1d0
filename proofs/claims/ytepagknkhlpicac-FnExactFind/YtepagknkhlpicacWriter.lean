/-
  The cursor and the writer of chapter 1.
-/
import Derived.Test.YtepagknkhlpicacNotes
import Derived.Deep.QuietTactic
import Derived.BigQuiet
import Derived.Lib.SmallJoins
namespace Go.Proofs.Ytepagknkhlpicac
open Go.ChangeShapes Go.WideShapes Go.ChangeAt Go.RowKit
set_option linter.unusedVariables false
set_option linter.unusedSimpArgs false

/-- All blocks but those of S are as they were; the streams too. -/
structure But (S : Nat → Prop) (w w' : World) : Prop where
  os : w'.os = w.os
  tape : w'.tape = w.tape
  output : w'.output = w.output
  size : w'.heap.size = w.heap.size
  block : ∀ k, ¬ S k → w'.heap[k]? = w.heap[k]?

theorem But.refl (S : Nat → Prop) (w : World) : But S w w := ⟨rfl, rfl, rfl, rfl, fun _ _ => rfl⟩
theorem But.trans {S : Nat → Prop} {a b c : World} (h : But S a b) (k : But S b c) : But S a c :=
  ⟨k.os.trans h.os, k.tape.trans h.tape, k.output.trans h.output, k.size.trans h.size, fun i hi => (k.block i hi).trans (h.block i hi)⟩
theorem But.below {S : Nat → Prop} {w w' : World} {B : Nat} (h : But S w w') (hS : ∀ k, S k → B ≤ k) : Below B w w' :=
  ⟨h.os, h.tape, h.output, Nat.le_of_eq h.size.symm, fun k hk => h.block k (fun hs => by have := hS k hs; omega)⟩

theorem set_step (ds : List Int) (n : Nat) (b : Int) (h : ds.length < n) :
    ((ds.map (Value.int .u8) ++ List.replicate (n - ds.length) (Value.int .u8 0)).toArray).setIfInBounds ds.length (.int .u8 b) = ((ds ++ [b]).map (Value.int .u8) ++ List.replicate (n - (ds ++ [b]).length) (Value.int .u8 0)).toArray := by
  obtain ⟨m, rfl⟩ : ∃ m, n = ds.length + (m + 1) := ⟨n - ds.length - 1, by omega⟩
  have e1 : ds.length + (m + 1) - ds.length = m + 1 := by omega
  have e2 : ds.length + (m + 1) - (ds ++ [b]).length = m := by simp; omega
  rw [e1, e2]
  simp only [List.setIfInBounds_toArray, List.replicate_succ, List.map_append, List.map_cons, List.map_nil]
  congr 1
  rw [List.set_append_right _ _ (by simp)]
  simp

/-- The lowest k bytes of a number, the lowest first. -/
def le (v : Int) : Nat → List Int
  | 0 => []
  | k + 1 => v % 256 :: le (v / 256) k
theorem le_length (k : Nat) : ∀ v, (le v k).length = k := by
  induction k with
  | zero => intro v; rfl
  | succ k ih => intro v; simp [le, ih]

theorem le_step {di x : List Int} {u : Int} {j k : Nat} (h : j < k) (he : di ++ le u (k - j) = x) : (di ++ [u % 256]) ++ le (u / 256) (k - (j + 1)) = x := by
  obtain ⟨m, hm⟩ : ∃ m, k - j = m + 1 := ⟨k - j - 1, by omega⟩
  have : k - (j + 1) = m := by omega
  rw [hm] at he
  rw [this, ← he]
  simp [le]

/-- The bytes of a text. -/
def txt (s : ByteArray) : List Int := s.data.toList.map fun c => (c.toNat : Int)
theorem txt_length (s : ByteArray) : (txt s).length = s.size := by simp [txt]

end Go.Proofs.Ytepagknkhlpicac
