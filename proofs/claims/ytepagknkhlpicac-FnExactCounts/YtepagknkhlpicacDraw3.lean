/-
  spec.Notes.
-/
import Derived.Test.YtepagknkhlpicacDraw2
namespace Go.Proofs.Ytepagknkhlpicac
open Go.ChangeShapes Go.WideShapes Go.ChangeAt Go.RowKit
set_option linter.unusedVariables false
set_option linter.unusedSimpArgs false

/-- A note as data. -/
structure ND where
  t : Int
  k : Int
  p : Int
  n : Int
  s : ByteArray
def ND.cells (d : ND) : List Value := [.int .i64 d.t, .int .i64 d.k, .int .i64 d.p, .int .i64 d.n, .string d.s]
def ND.good (d : ND) : Prop := Good d.t d.k d.p d.n d.s
def nCells : List ND → List Value
  | [] => []
  | d :: r => d.cells ++ nCells r
theorem nCells_length : ∀ l : List ND, (nCells l).length = l.length * 5
  | [] => rfl
  | d :: r => by simp [nCells, nCells_length r, ND.cells]; omega
theorem nCells_append : ∀ a b : List ND, nCells (a ++ b) = nCells a ++ nCells b
  | [], b => rfl
  | d :: r, b => by simp [nCells, nCells_append r b]

theorem info26 : (Try.prog.info? 46).map (fun i => (i.zero, i.size, i.bytes)) = some (some (.agg #[.int .i64 0, .int .i64 0, .int .i64 0, .int .i64 0, .string ByteArray.empty]), 5, 48) := by kernel_rfl

theorem ownsRow_kp {w w' : World} {S : Nat → Prop} {base e size : Nat} {v : Value} {n : Nat} {xs : List Value} (h : w.ownsRow base e size v n xs) (hb : Kp S w w') (hS : ∀ k, S k → k < base) : w'.ownsRow base e size v n xs := by
  obtain ⟨h1, h2⟩ := h
  refine ⟨h1, ?_⟩
  rcases h2 with h2 | ⟨g, cap, cur, hv, hg, hh, r⟩
  · exact .inl h2
  · exact .inr ⟨g, cap, cur, hv, hg, by rw [hb.block g (lt_of_block hh) (fun e => by have := hS g e; omega)]; exact hh, r⟩

theorem news5 (w : World) (x0 x1 x2 x3 x4 : Value) (T : TypeId) : ∀ (j : Nat) (u : Value), [x0, x1, x2, x3, x4][j]? = some u → (w.alloc (.cells #[x0, x1, x2, x3, x4] T)).cell? ((⟨w.heap.size, 0, none⟩ : Addr).add j) = some u := by
  intro j u hj
  match j, hj with
  | 0, hj => simp at hj; subst hj; simp [Addr.add]
  | 1, hj => simp at hj; subst hj; simp [Addr.add]
  | 2, hj => simp at hj; subst hj; simp [Addr.add]
  | 3, hj => simp at hj; subst hj; simp [Addr.add]
  | 4, hj => simp at hj; subst hj; simp [Addr.add]

end Go.Proofs.Ytepagknkhlpicac
