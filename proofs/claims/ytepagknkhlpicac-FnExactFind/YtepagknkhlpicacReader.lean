/-
  The reader of chapter 1.
-/
import Derived.Test.YtepagknkhlpicacNum
import Derived.WalkSmall
namespace Go.Proofs.Ytepagknkhlpicac
open Go.ChangeShapes Go.WideShapes Go.ChangeAt Go.RowKit
set_option linter.unusedVariables false
set_option linter.unusedSimpArgs false

theorem Reads.but {w w' : World} {S : Nat → Prop} {v : Value} {bs : List Int} (h : Reads w v bs) (hb : But S w w') (hv : ∀ k, v.ownBlock = some k → ¬ S k) : Reads w' v bs := by
  obtain ⟨a, cap, rfl, h1, h2, h3⟩ := h
  refine ⟨a, cap, rfl, h1, h2, fun i hi => ?_⟩
  obtain ⟨b, off, rfl, hc⟩ := h3 i hi
  exact ⟨b, off, rfl, by rw [World.cell?_of_block (hb.block b (hv b rfl))]; exact hc⟩

/-- A text of some bytes. -/
def mkS (l : List Int) : ByteArray := l.foldl (fun r n => r.push (UInt8.ofNat n.toNat)) ByteArray.empty
theorem foldl_push_size (l : List Int) : ∀ s : ByteArray, (l.foldl (fun r n => r.push (UInt8.ofNat n.toNat)) s).size = s.size + l.length := by
  induction l with
  | nil => intro s; simp
  | cons x l ih => intro s; simp only [List.foldl_cons, ih, ByteArray.size_push, List.length_cons]; omega
theorem mkS_size (l : List Int) : (mkS l).size = l.length := by
  rw [mkS, foldl_push_size]; simp

theorem bytes_to_string (w : World) (a : Addr) (len cap : Nat) (l : List Int) (hl : l.length = len) (hc : ∀ i, i < len → w.cell? (a.add i) = some (.int .u8 (l.getD i 0))) :
    (convert 63 9 (.slice (some a) len cap)).run Try.prog w = .ok (.string (mkS l)) w := by
  rw [run_convert_bytes_string w 63 9 5 (some a) len cap Try.underlying63 Try.underlying5 Try.underlying9]
  have h := run_loadCells (P := Try.prog) w a len (fun j => .int .u8 (l.getD j 0)) hc
  have e : ((List.range len).map fun j => Value.int .u8 (l.getD j 0)) = l.map (Value.int .u8) := by
    subst hl
    apply List.ext_getElem (by simp)
    intro i h1 h2
    simp at h1
    simp [List.getElem?_eq_getElem h1]
  rw [e] at h
  exact run_bytesToString w a len cap l h

/-- All old blocks but those of S are as they were; new ones may have come. -/
structure Kp (S : Nat → Prop) (w w' : World) : Prop where
  os : w'.os = w.os
  tape : w'.tape = w.tape
  output : w'.output = w.output
  size : w.heap.size ≤ w'.heap.size
  block : ∀ k, k < w.heap.size → ¬ S k → w'.heap[k]? = w.heap[k]?
theorem Kp.refl (S : Nat → Prop) (w : World) : Kp S w w := ⟨rfl, rfl, rfl, Nat.le_refl _, fun _ _ _ => rfl⟩
theorem Kp.trans {S : Nat → Prop} {a b c : World} (h : Kp S a b) (k : Kp S b c) : Kp S a c :=
  ⟨k.os.trans h.os, k.tape.trans h.tape, k.output.trans h.output, Nat.le_trans h.size k.size, fun i hi hs => (k.block i (Nat.lt_of_lt_of_le hi h.size) hs).trans (h.block i hi hs)⟩
theorem But.kp {S : Nat → Prop} {w w' : World} (h : But S w w') : Kp S w w' := ⟨h.os, h.tape, h.output, Nat.le_of_eq h.size.symm, fun k _ hs => h.block k hs⟩
theorem Below.kp {S : Nat → Prop} {w w' : World} (h : Below w.heap.size w w') : Kp S w w' := ⟨h.os, h.tape, h.output, h.size, fun k hk _ => h.block k hk⟩
theorem Kp.below {S : Nat → Prop} {w w' : World} {B : Nat} (h : Kp S w w') (hB : B ≤ w.heap.size) (hS : ∀ k, S k → B ≤ k) : Below B w w' :=
  ⟨h.os, h.tape, h.output, h.size, fun k hk => h.block k (by omega) (fun hs => by have := hS k hs; omega)⟩
theorem Kp.cell {S : Nat → Prop} {w w' : World} (h : Kp S w w') {b : Nat} (hb : b < w.heap.size) (hS : ¬ S b) (o : Nat) : w'.cell? ⟨b, o, none⟩ = w.cell? ⟨b, o, none⟩ := World.cell?_of_block (h.block b hb hS)

theorem Reads.kp {w w' : World} {S : Nat → Prop} {v : Value} {bs : List Int} (h : Reads w v bs) (hb : Kp S w w') (hv : ∀ k, v.ownBlock = some k → k < w.heap.size ∧ ¬ S k) : Reads w' v bs := by
  obtain ⟨a, cap, rfl, h1, h2, h3⟩ := h
  refine ⟨a, cap, rfl, h1, h2, fun i hi => ?_⟩
  obtain ⟨b, off, rfl, hc⟩ := h3 i hi
  exact ⟨b, off, rfl, by rw [World.cell?_of_block (hb.block b (hv b rfl).1 (hv b rfl).2)]; exact hc⟩
end Go.Proofs.Ytepagknkhlpicac
