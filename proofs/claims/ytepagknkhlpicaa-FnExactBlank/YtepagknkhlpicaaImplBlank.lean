/-
  impl.Blank.
-/
import Derived.Test.YtepagknkhlpicaaImplStore
namespace Go.Proofs.Ytepagknkhlpicaa
open Go.ChangeShapes Go.WideShapes Go.ChangeAt Go.RowKit
set_option linter.unusedVariables false
set_option linter.unusedSimpArgs false

set_option maxRecDepth 5000 in
set_option maxHeartbeats 4000000 in
theorem disk_none (C : Array Value) (BS : List (List Int)) (w : World) (hC : StB C BS) (hq : C[8192]? = some (.slice none 0 0)) :
    Calls Try.prog 68 #[.agg C] w fun e w' => ∃ u1 u2 r1 r2, e = .returned (.agg #[u1, u2]) ∧ ODisk w.heap.size w' u1 u2 r1 r2 ⟨BS, []⟩ ∧ Below w.heap.size w w' := by
  have bA : Below w.heap.size w ((w.alloc (.cells C 108)).alloc (.cells #[.slice none 0 0, .slice none 0 0] 58)) := ((Below.refl _ w).alloc (Nat.le_refl _) _).alloc (by simp) _
  have gS : ((w.alloc (.cells C 108)).alloc (.cells #[.slice none 0 0, .slice none 0 0] 58)).heap[w.heap.size]? = some (.cells C 108 (0, 0)) := alloc2_fst w _ _
  have gR : ((w.alloc (.cells C 108)).alloc (.cells #[.slice none 0 0, .slice none 0 0] 58)).heap[w.heap.size + 1]? = some (.cells #[.slice none 0 0, .slice none 0 0] 58 (0, 0)) := alloc2_snd w _ _
  go_enter Try.func68, Try.ntmps68
  go_wp2_with fail
  refine (lists_any w.heap.size C BS _ gS hC).mono ?_; rintro e w1 ⟨v1, rows, rfl, ob1, b1⟩
  have z1 := b1.size
  simp only [World.size_alloc] at z1 ob1 b1
  obtain ⟨a1, n1, c1, rfl⟩ := own_form ob1.outer
  have gS1 : w1.heap[w.heap.size]? = some (.cells C 108 (0, 0)) := by rw [b1.block _ (by omega)]; exact gS
  have gR1 : w1.heap[w.heap.size + 1]? = some (.cells #[.slice none 0 0, .slice none 0 0] 58 (0, 0)) := by rw [b1.block _ (by omega)]; exact gR
  have B1 : Below w.heap.size w w1 := bA.trans (b1.mono (by omega))
  have bD : Below w1.heap.size w1 (w1.alloc (.cells #[.slice a1 n1 c1, .slice none 0 0] 58)) := (Below.refl _ w1).alloc (Nat.le_refl _) _
  have gD := heap_alloc_new w1 (.cells #[.slice a1 n1 c1, .slice none 0 0] 58)
  have cQ : (w1.alloc (.cells #[.slice a1 n1 c1, .slice none 0 0] 58)).cell? ⟨w.heap.size, 8192, none⟩ = some (.slice none 0 0) := by
    rw [bD.cell (p := ⟨w.heap.size, 8192, none⟩) (show w.heap.size < _ by omega), cell_of_row w1 w.heap.size 8192 C _ _ gS1]
    exact hq
  go_wp2_with fail
  refine (take_none w.heap.size 8192 _ cQ).mono ?_; rintro e w2 ⟨rfl, hw2⟩
  have hz := Try.zeroValue126
  have hsz := zpSize
  have hall := zpAll
  generalize Try.zeroCells126 = Z at hz hsz hall hw2
  have HZ : Hid (∀ w, (zeroValue 126).run Try.prog w = .ok (.agg Z) w) := hz
  have b2 : Below w1.heap.size w1 w2 := by rw [hw2]; exact bD.alloc (by simp) _
  have gD2 : w2.heap[w1.heap.size]? = some (.cells #[.slice a1 n1 c1, .slice none 0 0] 58 (0, 0)) := by rw [hw2, Below.heap_alloc _ _ _ (by simp)]; exact gD
  have z2 : w2.heap.size = w1.heap.size + 1 + 1 := by rw [hw2]; simp
  clear hw2 hz cQ gD bD
  have gP := heap_alloc_new w2 (.cells Z 126)
  have bP : Below w2.heap.size w2 (w2.alloc (.cells Z 126)) := (Below.refl _ w2).alloc (Nat.le_refl _) _
  have b1P : Below w1.heap.size w1 (w2.alloc (.cells Z 126)) := b2.trans (bP.mono (by omega))
  have gD3 : (w2.alloc (.cells Z 126)).heap[w1.heap.size]? = some (.cells #[.slice a1 n1 c1, .slice none 0 0] 58 (0, 0)) := by rw [bP.block _ (by omega)]; exact gD2
  have gR3 : (w2.alloc (.cells Z 126)).heap[w.heap.size + 1]? = some (.cells #[.slice none 0 0, .slice none 0 0] 58 (0, 0)) := by rw [b1P.block _ (by omega)]; exact gR1
  have ob3 : OBB (w.heap.size + 1 + 1) (w2.alloc (.cells Z 126)) (.slice a1 n1 c1) rows BS := ob1.same (fun k hk => b1P.block k (ob1.lt k hk).2)
  have B3 : Below w.heap.size w (w2.alloc (.cells Z 126)) := B1.trans (b1P.mono (by omega))
  obtain ⟨⟨r0, r1⟩, fr⟩ := b2cells gR3
  obtain ⟨⟨d0, d1⟩, fd⟩ := b2cells gD3
  have q1 : w1.heap.size ≠ w.heap.size + 1 := by omega
  have q2 : w.heap.size + 1 ≠ w1.heap.size := by omega
  have HB : Hid (OBB (w.heap.size + 1 + 1) (w2.alloc (.cells Z 126)) (.slice a1 n1 c1) rows BS) := ob3
  clear ob1 ob3 gS gR gS1 gR1 gD2 gR3 gD3 z2
  go_wp2_with (first | (refine wpList_alloc_row rfl 126 rfl Z HZ.out ?_) | (refine wpList_store_same rfl 126 _ _ rfl w2.heap.size rfl 126 Z rfl gP (by rw [hsz]; exact szPending) hall ?_))
  refine wp_loop_rounds 1 ?_
  rw [rounds_succ]
  go_wp2
  have bF : But (fun k => k = w.heap.size + 1) (w2.alloc (.cells Z 126)) (((w2.alloc (.cells Z 126)).setCell ⟨w.heap.size + 1, 0, none⟩ (.slice a1 n1 c1)).setCell ⟨w.heap.size + 1, 1, none⟩ (.slice none 0 0)) := ⟨rfl, rfl, rfl, by simp [World.setCell], fun k hk => by rw [Below.heap_setCell _ _ _ _ hk, Below.heap_setCell _ _ _ _ hk]⟩
  refine bodyPost_ret (v := .agg #[.slice a1 n1 c1, .slice none 0 0]) (by simp [results, Try.results68, go_sem, r0, r1, d0, d1, q1, q2]) rfl ⟨_, _, rows, [], rfl, ⟨?_, ?_, ?_⟩, ?_⟩
  · exact (HB.out.same (fun k hk => bF.block k (by have := (HB.out.lt k hk).1; omega))).low (by omega)
  · exact ⟨World.ownsRow_nil _ _ _ _, trivial, by decide⟩
  · intro k hk h2
    simp [fps, Value.ownBlock] at h2
  · exact B3.trans (bF.below (fun k hk => by omega))

theorem stB_zero : StB Try.zeroCells108 (List.replicate 128 (List.replicate 64 0)) := by
  have hz := zcStore
  generalize Try.zeroCells108 = C at hz
  have hs : C.size = 8193 := by
    have : C.toList.length = 8193 := by rw [hz, List.length_append, List.length_replicate]; rfl
    rw [← Array.length_toList]
    exact this
  refine ⟨hs, List.length_replicate, fun j h => ?_⟩
  have h' : j < 128 := by rw [List.length_replicate] at h; exact h
  refine ⟨?_, by rw [List.getElem_replicate, List.length_replicate]⟩
  rw [List.getElem_replicate, List.map_replicate]
  apply Array.ext_getElem?
  intro i
  rw [Array.getElem?_extract, List.getElem?_toArray]
  by_cases hi : i < 64
  · rw [if_pos (by omega), ← Array.getElem?_toList, hz, List.getElem?_append_left (by rw [List.length_replicate]; omega), List.getElem?_replicate_of_lt (by omega), List.getElem?_replicate_of_lt hi]
  · rw [if_neg (by omega)]
    symm
    first | (rw [List.getElem?_toArray]; exact List.getElem?_eq_none (by rw [List.length_replicate]; omega)) | exact List.getElem?_eq_none (by rw [List.length_replicate]; omega)
theorem last_zero : Try.zeroCells108[8192]? = some (.slice none 0 0) := by
  rw [← Array.getElem?_toList, zcStore, List.getElem?_append_right (by rw [List.length_replicate]; exact Nat.le_refl _), List.length_replicate]
  rfl

set_option maxRecDepth 5000 in
set_option maxHeartbeats 1000000 in
theorem implBlank_any (w : World) :
    Calls Try.prog 36 #[] w fun e w' => ∃ u1 u2 r1 r2, e = .returned (.agg #[u1, u2]) ∧ ODisk w.heap.size w' u1 u2 r1 r2 blankD ∧ Below w.heap.size w w' := by
  have bA : Below w.heap.size w (w.alloc (.cells #[.slice none 0 0, .slice none 0 0] 58)) := (Below.refl _ w).alloc (Nat.le_refl _) _
  have gA := heap_alloc_new w (.cells #[.slice none 0 0, .slice none 0 0] 58)
  go_enter Try.func36, Try.ntmps36
  go_wp2_with fail
  refine (disk_none Try.zeroCells108 _ _ stB_zero last_zero).mono ?_; rintro e w1 ⟨u1, u2, r1, r2, rfl, od, b1⟩
  have z1 := b1.size
  simp only [World.size_alloc] at z1
  obtain ⟨a1, n1, c1, rfl⟩ := own_form od.bb.outer
  obtain ⟨a2, n2, c2, rfl⟩ := own_form od.ws.outer
  have g1 : w1.heap[w.heap.size]? = some (.cells #[.slice none 0 0, .slice none 0 0] 58 (0, 0)) := by rw [b1.block _ (by simp)]; exact gA
  obtain ⟨⟨p0, p1⟩, fp⟩ := b2cells g1
  have HOD : Hid (ODisk (w.alloc (.cells #[.slice none 0 0, .slice none 0 0] 58)).heap.size w1 (.slice a1 n1 c1) (.slice a2 n2 c2) r1 r2 blankD) := od
  have B1 : Below w.heap.size w w1 := bA.trans (b1.mono (by simp))
  clear od g1
  go_wp2
  have bF : But (fun k => k = w.heap.size) w1 ((w1.setCell ⟨w.heap.size, 0, none⟩ (.slice a1 n1 c1)).setCell ⟨w.heap.size, 1, none⟩ (.slice a2 n2 c2)) := ⟨rfl, rfl, rfl, by simp [World.setCell], fun k hk => by rw [Below.heap_setCell _ _ _ _ hk, Below.heap_setCell _ _ _ _ hk]⟩
  refine bodyPost_ret (v := .agg #[.slice a1 n1 c1, .slice a2 n2 c2]) (by simp [results, Try.results36, go_sem, p0, p1]) rfl ⟨_, _, r1, r2, rfl, ⟨?_, ?_, HOD.out.apart⟩, ?_⟩
  · exact (HOD.out.bb.same (fun k hk => bF.block k (by have := (HOD.out.bb.lt k hk).1; simp at this; omega))).low (by simp)
  · exact (HOD.out.ws.same (fun k hk => bF.block k (by have := (HOD.out.ws.lt k hk).1; simp at this; omega))).low (by simp)
  · exact B1.trans (bF.below (fun k hk => by omega))
end Go.Proofs.Ytepagknkhlpicaa
