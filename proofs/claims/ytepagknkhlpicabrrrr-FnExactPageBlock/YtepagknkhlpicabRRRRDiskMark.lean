/-
  markByteSS, heldByteSS, markWriteS, heldWriteS, markDisk, heldDisk.
-/
import Derived.Test.YtepagknkhlpicabRRRRDiskEq
namespace Go.Proofs.YtepagknkhlpicabRRRR
open Go.ChangeShapes Go.WideShapes Go.ChangeAt Go.RowKit
set_option linter.unusedVariables false
set_option linter.unusedSimpArgs false

set_option maxHeartbeats 1000000 in
theorem mark_but {ety : Nat} (lo : Nat) (v : Value) (xs : List Int) (k : Int) (w : World) (hk : 0 ≤ k) (hk' : k ≤ 1000000000) (hl : xs.length ≤ 1000000000) (h : w.ownsRow lo ety 1 v xs.length (xs.map (Value.int .u8))) :
    Calls Try.prog 18 #[v, .int .i64 k] w fun e w' => e = .returned (.int .i64 (k + xs.length)) ∧ w'.ownsRow lo ety 1 v (marks k xs.length).length ((marks k xs.length).map (Value.int .u8)) ∧ But (fun b => v.ownBlock = some b) w w' := by
  rw [marks_length]
  obtain ⟨h1, h2⟩ := h
  rcases h2 with ⟨rfl, h0⟩ | ⟨g, cap, cur, rfl, hg, hh, hn, hm, hs, ht⟩
  · have hx : xs = [] := List.eq_nil_of_length_eq_zero h0
    subst hx
    go_enter Try.func18, Try.ntmps18
    go_wp2
    refine wp_loop_rounds 1 ?_
    rw [rounds_succ]
    go_wp2
    go_ret
    exact ⟨by simp, World.ownsRow_nil _ _ _ _, But.refl _ _⟩
  · unfold maxLen at hm
    go_enter Try.func18, Try.ntmps18
    go_wp2
    go_loopw [1, 5] (fun q i wr => ∃ (j : Nat) (c : Array Value), j ≤ xs.length ∧ i = .int .i64 j ∧ q = .int .i64 (k + j) ∧ wr.heap[g]? = some (.cells c ety (0, 0)) ∧ c.size = cap ∧ c.toList.take j = (marks k j).map (Value.int .u8) ∧ But (fun b => g = b) w wr) (fun _ i _ => xs.length - (intOf i).toNat)
    case atStart => exact ⟨0, cur, Nat.zero_le _, rfl, by simp, hh, by omega, rfl, But.refl _ _⟩
    case round =>
      obtain ⟨j, c, hj, rfl, rfl, hc, hcs, hct, hb⟩ := hrel
      by_cases hlt : j < xs.length
      · have hcell : ∃ x, wr.cell? ⟨g, j, none⟩ = some x := by
          rw [Joins.cell_of_block hc]
          exact ⟨_, Array.getElem?_eq_getElem (by omega)⟩
        obtain ⟨x, hcell⟩ := hcell
        have hfz := Joins.unfrozen_of_block hc j
        go_wp2
        go_roundw
        case rel =>
          refine ⟨j + 1, c.setIfInBounds j (.int .u8 ((k + j) % 256)), by omega, by go_num, by go_num, Joins.block_setCell hc _, by simp [hcs], ?_, hb.trans ⟨rfl, rfl, rfl, by simp [World.setCell], fun b hb => by rw [Below.heap_setCell _ _ _ _ (fun e => hb e.symm)]⟩⟩
          rw [List.take_succ_eq_append_getElem (by simp; omega)]
          simp only [Array.toList_setIfInBounds, marks, List.map_append, List.map_cons, List.map_nil]
          rw [List.take_set_of_le (Nat.le_refl _), hct]
          simp
        case measure => simp [intOf]; omega
      · have : j = xs.length := by omega
        subst this
        go_wp2
        go_ret
        refine ⟨rfl, ⟨by simp [marks_length], .inr ⟨g, cap, c, rfl, hg, hc, hn, by unfold maxLen; exact hm, by omega, by rw [Nat.mul_one]; exact hct⟩⟩, ?_⟩
        exact ⟨hb.os, hb.tape, hb.output, hb.size, fun b hb' => hb.block b (fun e => hb' (by simp [Value.ownBlock, e]))⟩

/-- The marks of some lists. -/
def mkBB (k : Int) : List (List Int) → List (List Int)
  | [] => []
  | b :: r => marks k b.length :: mkBB (k + b.length) r
theorem mkBB_length : ∀ (L : List (List Int)) (k : Int), (mkBB k L).length = L.length
  | [], _ => rfl
  | b :: r, k => by simp [mkBB, mkBB_length r]
theorem sumL_append : ∀ A B : List (List Int), sumL (A ++ B) = sumL A + sumL B
  | [], B => by simp [sumL]
  | a :: A, B => by simp [sumL, sumL_append A B]; omega
theorem mkBB_append : ∀ (A B : List (List Int)) (k : Int), mkBB k (A ++ B) = mkBB k A ++ mkBB (k + sumL A) B
  | [], B, k => by simp [mkBB, sumL]
  | a :: A, B, k => by
    simp only [List.cons_append, mkBB, mkBB_append A B, sumL]
    rw [Int.add_assoc]
    simp
theorem sumL_take_le (L : List (List Int)) (j : Nat) : sumL (L.take j) ≤ sumL L := by
  have := sumL_append (L.take j) (L.drop j)
  rw [List.take_append_drop] at this
  omega

theorem OwnRows.upd {lo e : Nat} {w w' : World} {b b' : List Int} {C : List (List Int)} : ∀ {rows : List Value} {A : List (List Int)}, OwnRows lo w rows (A ++ b :: C) → (fps rows).Nodup → ∀ (hj : A.length < rows.length), w'.ownsRow lo e 1 rows[A.length] b'.length (b'.map (Value.int .u8)) → But (fun k => rows[A.length].ownBlock = some k) w w' → OwnRows lo w' rows (A ++ b' :: C)
  | [], [], h, _, _, _, _ => h.elim
  | [], _ :: _, h, _, _, _, _ => h.elim
  | v :: vs, [], h, hn, hj, ho, hb => by
    refine ⟨⟨_, ho⟩, h.2.same (fun k hk => hb.block k (fun e => ?_))⟩
    simp only [List.length_nil, List.getElem_cons_zero] at e
    simp only [fps, List.filterMap_cons, e] at hn
    exact (List.nodup_cons.1 hn).1 hk
  | v :: vs, a :: A, h, hn, hj, ho, hb => by
    simp only [List.length_cons, List.getElem_cons_succ] at ho hb
    have hj' : A.length < vs.length := by simpa using hj
    have hn' : (fps vs).Nodup ∧ ∀ k, v.ownBlock = some k → k ∉ fps vs := by
      simp only [fps, List.filterMap_cons] at hn
      cases hv : v.ownBlock with
      | none => rw [hv] at hn; exact ⟨hn, fun k hk => by simp at hk⟩
      | some x =>
        rw [hv] at hn
        have := List.nodup_cons.1 hn
        exact ⟨this.2, fun k hk => by simp at hk; subst hk; exact this.1⟩
    refine ⟨h.1.imp fun _ h1 => own_same h1 (fun k hk => hb.block k (fun e => hn'.2 k hk ?_)), OwnRows.upd h.2 hn'.1 hj' ho hb⟩
    simp only [fps, List.mem_filterMap]
    exact ⟨vs[A.length], List.getElem_mem _, e⟩

theorem outer_at {w : World} {lo e : Nat} {v : Value} {n : Nat} {rows : List Value} (h : w.ownsRow lo e 1 v n rows) (i : Nat) (hi : i < rows.length) : ∃ g cap, v = .slice (some ⟨g, 0, none⟩) n cap ∧ w.cell? ⟨g, i, none⟩ = some rows[i] := by
  obtain ⟨h1, h2⟩ := h
  rcases h2 with ⟨_, h0⟩ | ⟨g, cap, cur, rfl, hg, hh, hn, hm, hs, ht⟩
  · omega
  · refine ⟨g, cap, rfl, ?_⟩
    rw [Joins.cell_of_block hh]
    have : (cur.toList.take (n * 1))[i]? = rows[i]? := by rw [ht]
    rw [List.getElem?_take_of_lt (by omega)] at this
    simpa [List.getElem?_eq_getElem hi] using this
theorem fps_get_mem {rows : List Value} {j : Nat} (hj : j < rows.length) {k : Nat} (hk : rows[j].ownBlock = some k) : k ∈ fps rows := by
  simp only [fps, List.mem_filterMap]
  exact ⟨rows[j], List.getElem_mem _, hk⟩
theorem But.mono {S T : Nat → Prop} {w w' : World} (h : But S w w') (hS : ∀ k, S k → T k) : But T w w' := ⟨h.os, h.tape, h.output, h.size, fun k hk => h.block k (fun e => hk (hS k e))⟩

end Go.Proofs.YtepagknkhlpicabRRRR
