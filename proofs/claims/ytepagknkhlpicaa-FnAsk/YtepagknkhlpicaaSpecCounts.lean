/-
  What is counted: spec.Counts.
-/
import Derived.Test.YtepagknkhlpicaaCountS
namespace Go.Proofs.Ytepagknkhlpicaa
open Go.ChangeShapes Go.WideShapes Go.ChangeAt Go.RowKit Go.Deep
set_option linter.unusedVariables false
set_option linter.unusedSimpArgs false

/-- How many notes of a kind there are, and their sum. -/
def cntN (k : Int) : List ND → Nat
  | [] => 0
  | d :: r => (if d.k = k then 1 else 0) + cntN k r
def cntS (k : Int) : List ND → Int
  | [] => 0
  | d :: r => (if d.k = k then d.n else 0) + cntS k r
theorem cntN_append (k : Int) : ∀ A B : List ND, cntN k (A ++ B) = cntN k A + cntN k B
  | [], B => by simp [cntN]
  | d :: r, B => by simp [cntN, cntN_append k r B]; omega
theorem cntS_append (k : Int) : ∀ A B : List ND, cntS k (A ++ B) = cntS k A + cntS k B
  | [], B => by simp [cntS]
  | d :: r, B => by simp [cntS, cntS_append k r B]; omega
theorem cntN_le (k : Int) : ∀ A : List ND, cntN k A ≤ A.length
  | [] => by simp [cntN]
  | d :: r => by have := cntN_le k r; simp only [cntN, List.length_cons]; split <;> omega
theorem wrap_add (a b : Int) : wrap64 (wrap64 a + b) = wrap64 (a + b) := by unfold wrap64; omega
/-- The counts of the kinds below k. -/
def countsN (ns : List ND) : Nat → List CD
  | 0 => []
  | k + 1 => countsN ns k ++ (if 0 < cntN k ns then [⟨k, cntN k ns, wrap64 (cntS k ns)⟩] else [])
def countsL (ns : List ND) : List CD := countsN ns 101
theorem countsN_length (ns : List ND) : ∀ k, (countsN ns k).length ≤ k
  | 0 => by simp [countsN]
  | k + 1 => by have := countsN_length ns k; simp only [countsN, List.length_append]; split <;> simp <;> omega

theorem infoC : (Try.prog.info? 46).map (fun i => (i.zero, i.size, i.bytes)) = some (some (.agg #[.int .i64 0, .int .i64 0, .int .i64 0]), 3, 24) := by kernel_rfl

end Go.Proofs.Ytepagknkhlpicaa
