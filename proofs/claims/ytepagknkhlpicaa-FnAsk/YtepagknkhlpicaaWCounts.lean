/-
  The law FnExactCounts, over what impl.Counts keeps to.
-/
import Derived.Test.YtepagknkhlpicaaNoteOpen
namespace Go.Proofs.Ytepagknkhlpicaa
open Go.ChangeShapes Go.WideShapes Go.ChangeAt Go.RowKit Go.Deep
set_option linter.unusedVariables false
set_option linter.unusedSimpArgs false

theorem Kp.below' {S : Nat → Prop} {w w' : World} (h : Kp S w w') {B : Nat} (hB : B ≤ w.heap.size) (hS : ∀ k, S k → B ≤ k) : Below B w w' := h.below hB hS
theorem own_at {w w' : World} {lo e size : Nat} {v : Value} {n : Nat} {xs : List Value} {B : Nat} (h : w.ownsRow lo e size v n xs) (hb : Below B w w') (hB : w.heap.size ≤ B) : w'.ownsRow lo e size v n xs := own_same h (fun k hk => hb.block k (by have := (h.lt k hk).2; omega))
theorem own_kept {S : Nat → Prop} {w w' : World} {lo e size : Nat} {v : Value} {n : Nat} {xs : List Value} (h : w.ownsRow lo e size v n xs) (hb : Kp S w w') (hS : ∀ k, v.ownBlock = some k → ¬ S k) : w'.ownsRow lo e size v n xs := own_same h (fun k hk => hb.block k (h.lt k hk).2 (hS k hk))

end Go.Proofs.Ytepagknkhlpicaa
