/-
  spec.Blank.
-/
import Derived.Test.YtepagknkhlpicaaSpecCopy
namespace Go.Proofs.Ytepagknkhlpicaa
open Go.ChangeShapes Go.WideShapes Go.ChangeAt Go.RowKit
set_option linter.unusedVariables false
set_option linter.unusedSimpArgs false
attribute [local go_sem ↓] Go.wp_at_zero Go.wp_at_succ

/-- 'append(out, x)', x in a block of its own, at a step of a region that draws, the world behind the draw. -/
theorem outer_law2 {ops : Array Oper} {o : Oper} {a : Act} {K : Act → World → Prop} {Q : Exit → Act → World → Prop} {E : Prop} (w1 : World) (lo : Nat) (vo xv : Value) (n : Nat) (rows : List Value) (hn : n ≤ 1000000) (hown : w1.ownsRow lo 22 1 vo n rows) (hlo : lo ≤ w1.heap.size) (hone : xv.oneCell' = true)
    (H : Nat) (hH : w1.heap.size = H) (hgd : o.guard = none) (s x : Operand) (ho : o.op = .call { callee := .builtin .append, args := #[s, x], argTypes := #[55, 55] })
    (hs : a.eval s = vo) (hx : a.eval x = .slice (some ⟨H, 0, none⟩) 1 1)
    (h : ∀ g cap w', w'.ownsRow lo 22 1 (.slice (some ⟨g, 0, none⟩) (n + 1) cap) (n + 1) (rows ++ [xv]) → (w1.drew.alloc (.cells #[xv] 22)).grownBy w' vo.ownBlock → (vo.ownBlock = some g ∨ g = w1.drew.heap.size + 1) → K (a.put o.dst (.slice (some ⟨g, 0, none⟩) (n + 1) cap)) w') :
    if Region.wanted o (yielded ops a.tmps) = true then Oper.wp Try.prog o a (w1.alloc (.cells #[xv] 22)).drew K Q else E := by
  subst hH
  exact outer_law w1.drew lo vo xv n rows hn hown hlo hone hgd s x ho hs hx h

/-- A blank disk. -/
def blankD : DD := ⟨List.replicate 128 (List.replicate 64 0), []⟩
theorem own_zeros (w : World) (n : Nat) (hn : n ≤ 1000000) : (w.alloc (.cells (Array.replicate n (Value.int .u8 0)) 5)).ownsRow w.heap.size 5 1 (.slice (some ⟨w.heap.size, 0, none⟩) n n) (List.replicate n (0 : Int)).length ((List.replicate n (0 : Int)).map (Value.int .u8)) :=
  ⟨by simp, .inr ⟨w.heap.size, n, _, by simp, Nat.le_refl _, heap_alloc_new w _, by simp, by unfold maxLen; omega, by simp, by simp⟩⟩

set_option maxRecDepth 5000 in
set_option maxHeartbeats 4000000 in
theorem specBlank_any (w : World) :
    Calls Try.prog 35 #[] w fun e w' => ∃ u1 u2 r1 r2, e = .returned (.agg #[u1, u2]) ∧ ODisk w.heap.size w' u1 u2 r1 r2 blankD ∧ Below w.heap.size w w' := by
  have hmk := make_bytes 64 64 rfl (by omega)
  have bA : Below w.heap.size w ((w.alloc (.cells #[.slice none 0 0, .slice none 0 0] 58)).alloc (.cells #[.slice none 0 0, .slice none 0 0] 58)) := ((Below.refl _ w).alloc (Nat.le_refl _) _).alloc (by simp) _
  go_enter Try.func35, Try.ntmps35
  go_wp2
  go_loopw [2] (fun i wr => ∃ (j : Nat) (vo : Value) (rows : List Value), j ≤ 128 ∧ i = .int .i64 j ∧ wr.heap[w.heap.size + 1]? = some (.cells #[vo, .slice none 0 0] 58 (0, 0)) ∧ OBB (w.heap.size + 2) wr vo rows (List.replicate j (List.replicate 64 0)) ∧ Below (w.heap.size + 1) ((w.alloc (.cells #[.slice none 0 0, .slice none 0 0] 58)).alloc (.cells #[.slice none 0 0, .slice none 0 0] 58)) wr ∧ w.heap.size + 2 ≤ wr.heap.size) (fun i _ => 128 - (intOf i).toNat)
  case atStart => exact ⟨0, .slice none 0 0, [], Nat.zero_le _, rfl, by simpa using alloc2_snd w _ _, ⟨World.ownsRow_nil _ _ _ _, trivial, by decide⟩, Below.refl _ _, by simp⟩
  case round =>
    obtain ⟨j, vo, rows, hj, rfl, hO, hob, hb, hwz⟩ := hrel
    by_cases hlt : j < 128
    · have hout := hob.outer
      have htl : (List.replicate j (List.replicate 64 (0 : Int))).length = j := by simp
      rw [htl] at hout
      have hvo : ∀ k, vo.ownBlock = some k → w.heap.size + 2 ≤ k ∧ k < wr.heap.size := fun k hk => hout.lt k hk
      obtain ⟨av, nv, cv, rfl⟩ := own_form hout
      have cO : wr.cell? ⟨w.heap.size + 1, 0, none⟩ = some (.slice av nv cv) := by rw [Joins.cell_of_block hO]; rfl
      have fO : wr.frozen? ⟨w.heap.size + 1, 0, none⟩ = false := Joins.unfrozen_of_block hO 0
      have hjm : j ≤ 1000000 := by omega
      have own1 := own_zeros wr 64 (by omega)
      have bel1 : Below wr.heap.size wr (wr.alloc (.cells (Array.replicate 64 (Value.int .u8 0)) 5)) := (Below.refl _ wr).alloc (Nat.le_refl _) _
      generalize hZ : Array.replicate 64 (Value.int .u8 0) = Z at hmk own1 bel1
      have HK : Hid (∀ W, Below (w.heap.size + 2) wr W → W.cell? ⟨w.heap.size + 1, 0, none⟩ = some (.slice av nv cv) ∧ W.frozen? ⟨w.heap.size + 1, 0, none⟩ = false ∧ W.heap[w.heap.size + 1]? = wr.heap[w.heap.size + 1]?) := fun W hW => by
        have e := hW.block (w.heap.size + 1) (by omega)
        exact ⟨by rw [Joins.cell_of_block (e.trans hO)]; rfl, Joins.unfrozen_of_block (e.trans hO) 0, e⟩
      have c1 := (HK.out _ (bel1.mono hwz)).1
      have c2 : ∀ ob, ((wr.alloc (.cells Z 5)).alloc ob).cell? ⟨w.heap.size + 1, 0, none⟩ = some (.slice av nv cv) := fun ob => (HK.out _ ((bel1.mono hwz).alloc (by simp; omega) ob)).1
      clear hZ
      go_wp2
      go_region_law
        (refine outer_law2 (wr.alloc (.cells Z 5)) (w.heap.size + 2) (.slice av nv cv) (.slice (some ⟨wr.heap.size, 0, none⟩) 64 64) j rows hjm (own_same hout (fun k hk => bel1.block k (hvo k hk).2)) (by simp; omega) rfl (wr.heap.size + 1) (by simp) (by rfl) _ _ (by rfl) (by rfl) (by rfl) ?_; intro g2 cap2 w2 own2 grow2 at2; have bel2 := Below.grown ((bel1.drew.mono hwz).alloc (show w.heap.size + 2 ≤ (wr.alloc (.cells Z 5)).heap.size by simp; omega) (.cells #[.slice (some ⟨wr.heap.size, 0, none⟩) 64 64] 22)) grow2 (by simp; omega) (fun k hk => (hvo k hk).1); obtain ⟨c3, f3, e3⟩ := HK.out _ bel2)
      all_goals
        go_wp2
        go_roundw
        case rel =>
          have own2' : w2.ownsRow (w.heap.size + 2) 22 1 (.slice (some ⟨g2, 0, none⟩) (j + 1) cap2) (List.replicate j (List.replicate 64 (0 : Int)) ++ [List.replicate 64 0]).length (rows ++ [.slice (some ⟨wr.heap.size, 0, none⟩) 64 64]) := by
            have e : (List.replicate j (List.replicate 64 (0 : Int)) ++ [List.replicate 64 0]).length = j + 1 := by simp
            rw [e]; exact own2
          refine ⟨j + 1, .slice (some ⟨g2, 0, none⟩) (j + 1) cap2, rows ++ [.slice (some ⟨wr.heap.size, 0, none⟩) 64 64], by omega, by go_num, ?_, ?_, ?_, ?_⟩
          · rw [Joins.block_setCell (e3.trans hO)]; rfl
          · rw [List.replicate_succ' (n := j)]
            exact OBB.push (O := w.heap.size + 1) (w1 := (wr.alloc (.cells Z 5)).drew) hob hwz (by omega) own1 bel1.drew own2' grow2 at2 ⟨w.heap.size + 1, 0, none⟩ rfl
          · exact (hb.trans (bel2.mono (by omega))).setCell (by simp) _
          · have := bel2.size
            simp [World.setCell]
            omega
        case measure => simp [intOf]; omega
    · have hj' : j = 128 := by omega
      subst hj'
      have res0 : wr.heap[w.heap.size]? = some (.cells #[.slice none 0 0, .slice none 0 0] 58 (0, 0)) := by rw [hb.block _ (by omega)]; exact alloc2_fst w _ _
      obtain ⟨av, nv, cv, rfl⟩ := own_form hob.outer
      obtain ⟨⟨r0, r1⟩, fr⟩ := b2cells res0
      obtain ⟨⟨o0, o1⟩, fo⟩ := b2cells hO
      have q1 : w.heap.size + 1 ≠ w.heap.size := by omega
      have q2 : w.heap.size ≠ w.heap.size + 1 := by omega
      have HB : Hid (OBB (w.heap.size + 2) wr (.slice av nv cv) rows (List.replicate 128 (List.replicate 64 0))) := hob
      clear hob
      go_wp2
      have bF : But (fun k => k = w.heap.size) wr ((wr.setCell ⟨w.heap.size, 0, none⟩ (.slice av nv cv)).setCell ⟨w.heap.size, 1, none⟩ (.slice none 0 0)) := ⟨rfl, rfl, rfl, by simp [World.setCell], fun k hk => by rw [Below.heap_setCell _ _ _ _ hk, Below.heap_setCell _ _ _ _ hk]⟩
      refine bodyPost_ret (v := .agg #[.slice av nv cv, .slice none 0 0]) (by simp [results, Try.results35, go_sem, r0, r1, o0, o1, q1, q2]) rfl ⟨_, _, rows, [], rfl, ⟨?_, ?_, ?_⟩, ?_⟩
      · exact (HB.out.same (fun k hk => bF.block k (by have := (HB.out.lt k hk).1; omega))).low (by omega)
      · exact ⟨World.ownsRow_nil _ _ _ _, trivial, by decide⟩
      · intro k hk h2
        simp [fps, Value.ownBlock] at h2
      · exact (bA.trans (hb.mono (by omega))).trans (bF.below (fun k hk => by omega))
end Go.Proofs.Ytepagknkhlpicaa
