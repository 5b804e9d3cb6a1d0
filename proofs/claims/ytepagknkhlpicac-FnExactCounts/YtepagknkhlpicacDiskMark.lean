/-
  markByteSS, heldByteSS, markWriteS, heldWriteS, markDisk, heldDisk.
-/
import Derived.Test.YtepagknkhlpicacDiskEq
namespace Go.Proofs.Ytepagknkhlpicac
open Go.ChangeShapes Go.WideShapes Go.ChangeAt Go.RowKit
set_option linter.unusedVariables false
set_option linter.unusedSimpArgs false

/-- The marks of some lists. -/
def mkBB (k : Int) : List (List Int) → List (List Int)
  | [] => []
  | b :: r => marks k b.length :: mkBB (k + b.length) r
theorem mkBB_length : ∀ (L : List (List Int)) (k : Int), (mkBB k L).length = L.length
  | [], _ => rfl
  | b :: r, k => by simp [mkBB, mkBB_length r]
theorem sumL_append : ∀ A B : List (List Int), sumL (A ++ B) = sumL A + sumL B
  | [], B => by simp [sumL]
  | a :: A, B => by simp [sumL, sumL_append A B]; omega
theorem mkBB_append : ∀ (A B : List (List Int)) (k : Int), mkBB k (A ++ B) = mkBB k A ++ mkBB (k + sumL A) B
  | [], B, k => by simp [mkBB, sumL]
  | a :: A, B, k => by
    simp only [List.cons_append, mkBB, mkBB_append A B, sumL]
    rw [Int.add_assoc]
    simp
theorem sumL_take_le (L : List (List Int)) (j : Nat) : sumL (L.take j) ≤ sumL L := by
  have := sumL_append (L.take j) (L.drop j)
  rw [List.take_append_drop] at this
  omega

theorem OwnRows.upd {lo e : Nat} {w w' : World} {b b' : List Int} {C : List (List Int)} : ∀ {rows : List Value} {A : List (List Int)}, OwnRows lo w rows (A ++ b :: C) → (fps rows).Nodup → ∀ (hj : A.length < rows.length), w'.ownsRow lo e 1 rows[A.length] b'.length (b'.map (Value.int .u8)) → But (fun k => rows[A.length].ownBlock = some k) w w' → OwnRows lo w' rows (A ++ b' :: C)
  | [], [], h, _, _, _, _ => h.elim
  | [], _ :: _, h, _, _, _, _ => h.elim
  | v :: vs, [], h, hn, hj, ho, hb => by
    refine ⟨⟨_, ho⟩, h.2.same (fun k hk => hb.block k (fun e => ?_))⟩
    simp only [List.length_nil, List.getElem_cons_zero] at e
    simp only [fps, List.filterMap_cons, e] at hn
    exact (List.nodup_cons.1 hn).1 hk
  | v :: vs, a :: A, h, hn, hj, ho, hb => by
    simp only [List.length_cons, List.getElem_cons_succ] at ho hb
    have hj' : A.length < vs.length := by simpa using hj
    have hn' : (fps vs).Nodup ∧ ∀ k, v.ownBlock = some k → k ∉ fps vs := by
      simp only [fps, List.filterMap_cons] at hn
      cases hv : v.ownBlock with
      | none => rw [hv] at hn; exact ⟨hn, fun k hk => by simp at hk⟩
      | some x =>
        rw [hv] at hn
        have := List.nodup_cons.1 hn
        exact ⟨this.2, fun k hk => by simp at hk; subst hk; exact this.1⟩
    refine ⟨h.1.imp fun _ h1 => own_same h1 (fun k hk => hb.block k (fun e => hn'.2 k hk ?_)), OwnRows.upd h.2 hn'.1 hj' ho hb⟩
    simp only [fps, List.mem_filterMap]
    exact ⟨vs[A.length], List.getElem_mem _, e⟩

theorem outer_at {w : World} {lo e : Nat} {v : Value} {n : Nat} {rows : List Value} (h : w.ownsRow lo e 1 v n rows) (i : Nat) (hi : i < rows.length) : ∃ g cap, v = .slice (some ⟨g, 0, none⟩) n cap ∧ w.cell? ⟨g, i, none⟩ = some rows[i] := by
  obtain ⟨h1, h2⟩ := h
  rcases h2 with ⟨_, h0⟩ | ⟨g, cap, cur, rfl, hg, hh, hn, hm, hs, ht⟩
  · omega
  · refine ⟨g, cap, rfl, ?_⟩
    rw [Joins.cell_of_block hh]
    have : (cur.toList.take (n * 1))[i]? = rows[i]? := by rw [ht]
    rw [List.getElem?_take_of_lt (by omega)] at this
    simpa [List.getElem?_eq_getElem hi] using this
theorem fps_get_mem {rows : List Value} {j : Nat} (hj : j < rows.length) {k : Nat} (hk : rows[j].ownBlock = some k) : k ∈ fps rows := by
  simp only [fps, List.mem_filterMap]
  exact ⟨rows[j], List.getElem_mem _, hk⟩
theorem But.mono {S T : Nat → Prop} {w w' : World} (h : But S w w') (hS : ∀ k, S k → T k) : But T w w' := ⟨h.os, h.tape, h.output, h.size, fun k hk => h.block k (fun e => hk (hS k e))⟩

end Go.Proofs.Ytepagknkhlpicac
