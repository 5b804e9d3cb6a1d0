/-
  impl.Find, and the law.
-/
import Derived.Test.YtepagknkhlpicaaImplFind2
namespace Go.Proofs.Ytepagknkhlpicaa
open Go.ChangeShapes Go.WideShapes Go.ChangeAt Go.RowKit Go.Deep
set_option linter.unusedVariables false
set_option linter.unusedSimpArgs false

/-- The filter, once it is made. -/
theorem fil_made (a : AD) (wp wk wh wt we : World) (f p q k h t : Nat) (pc : wp.cell? ⟨p, 0, none⟩ = some (.int .i64 a.lo)) (qc : wp.cell? ⟨q, 0, none⟩ = some (.int .i64 a.hi)) (kc : wk.cell? ⟨k, 0, none⟩ = some (.int .i64 a.kind)) (hc : wh.cell? ⟨h, 0, none⟩ = some (.int .i64 a.who)) (tc : wt.cell? ⟨t, 0, none⟩ = some (.string a.part)) (fc : we.cell? ⟨f, 0, none⟩ = some (.slice (some ⟨wt.heap.size, 0, none⟩) 4 4))
    (bk : Below wp.heap.size wp wk) (bh : Below wk.heap.size wk wh) (bt : Below wh.heap.size wh wt) (be : Below (wt.alloc (.cells #[.func (.func 83) #[] #[.pointer (some ⟨p, 0, none⟩), .pointer (some ⟨q, 0, none⟩)], .func (.func 84) #[] #[.pointer (some ⟨k, 0, none⟩)], .func (.func 85) #[] #[.pointer (some ⟨h, 0, none⟩)], .func (.func 86) #[] #[.pointer (some ⟨t, 0, none⟩)]] 49)).heap.size (wt.alloc (.cells #[.func (.func 83) #[] #[.pointer (some ⟨p, 0, none⟩), .pointer (some ⟨q, 0, none⟩)], .func (.func 84) #[] #[.pointer (some ⟨k, 0, none⟩)], .func (.func 85) #[] #[.pointer (some ⟨h, 0, none⟩)], .func (.func 86) #[] #[.pointer (some ⟨t, 0, none⟩)]] 49)) we) : Fil we a f wt.heap.size p q k h t := by
  have HS := heap_alloc_new wt (.cells #[.func (.func 83) #[] #[.pointer (some ⟨p, 0, none⟩), .pointer (some ⟨q, 0, none⟩)], .func (.func 84) #[] #[.pointer (some ⟨k, 0, none⟩)], .func (.func 85) #[] #[.pointer (some ⟨h, 0, none⟩)], .func (.func 86) #[] #[.pointer (some ⟨t, 0, none⟩)]] 49)
  have hS : we.heap[wt.heap.size]? = _ := (be.block _ (by simp)).trans HS
  have te : Below wt.heap.size wt we := ((Below.refl _ wt).alloc (Nat.le_refl _) _).trans (be.mono (by simp))
  have he := bt.trans (te.mono bt.size)
  have ke := bh.trans (he.mono bh.size)
  have pe := bk.trans (ke.mono bk.size)
  exact ⟨fc, Joins.cell_of_block hS 0, Joins.cell_of_block hS 1, Joins.cell_of_block hS 2, Joins.cell_of_block hS 3, kept_cell pc pe, kept_cell qc pe, kept_cell kc ke, kept_cell hc he, kept_cell tc te⟩

set_option maxRecDepth 5000 in
set_option maxHeartbeats 4000000 in
theorem implFind : FindC 21 := by
  intro N v ns a w hg h hN hl hs hp
  unfold AD.val
  have bA0 : Below w.heap.size w (w.alloc (.cells #[.int .i64 a.lo, .int .i64 a.hi, .int .i64 a.kind, .int .i64 a.who, .string a.part] 38)) := (Below.refl _ w).alloc (Nat.le_refl _) _
  have HA := heap_alloc_new w (.cells #[.int .i64 a.lo, .int .i64 a.hi, .int .i64 a.kind, .int .i64 a.who, .string a.part] 38)
  have zA : w.heap.size + 1 ≤ (w.alloc (.cells #[.int .i64 a.lo, .int .i64 a.hi, .int .i64 a.kind, .int .i64 a.who, .string a.part] 38)).heap.size := by simp
  have HC : Hid (∀ W, Below (w.heap.size + 1) (w.alloc (.cells #[.int .i64 a.lo, .int .i64 a.hi, .int .i64 a.kind, .int .i64 a.who, .string a.part] 38)) W → W.cell? ⟨w.heap.size, 0, none⟩ = some (.int .i64 a.lo) ∧ W.cell? ⟨w.heap.size, 1, none⟩ = some (.int .i64 a.hi) ∧ W.cell? ⟨w.heap.size, 2, none⟩ = some (.int .i64 a.kind) ∧ W.cell? ⟨w.heap.size, 3, none⟩ = some (.int .i64 a.who) ∧ W.cell? ⟨w.heap.size, 4, none⟩ = some (.string a.part)) := fun W hW => (b5cells (b := w.heap.size) (by rw [hW.block _ (by omega)]; exact HA)).1
  obtain ⟨c0, c1, c2, c3, c4⟩ := HC.out _ (Below.refl _ _)
  clear HA
  go_enter Try.func21, Try.ntmps21
  go_wp2_with fail
  generalize w.alloc (.cells #[.int .i64 a.lo, .int .i64 a.hi, .int .i64 a.kind, .int .i64 a.who, .string a.part] 38) = w0 at bA0 zA HC c0 c1 c2 c3 c4 ⊢
  have B0 : Below (w.heap.size + 1) w0 w0.drew := (Below.refl _ w0).drew
  have hr := h
  clear h
  go_region_held3 (fun W => W.cell? ⟨w.heap.size, 0, none⟩ = some (.int .i64 a.lo) ∧ W.cell? ⟨w.heap.size, 1, none⟩ = some (.int .i64 a.hi) ∧ W.cell? ⟨w.heap.size, 2, none⟩ = some (.int .i64 a.kind) ∧ W.cell? ⟨w.heap.size, 3, none⟩ = some (.int .i64 a.who) ∧ W.cell? ⟨w.heap.size, 4, none⟩ = some (.string a.part))
    (first | exact HC.out _ B0 | exact HC.out _ BP | exact HC.out _ BK | exact HC.out _ BH | exact HC.out _ BT | exact HC.out _ BL | exact HC.out _ BE | exact HC.out _ BR)
    ((first
      | (go_at_call 60; refine (tickWithin_any _ _ _).mono ?_; rintro e wp ⟨p, q, rfl, pc, qc, bp⟩; have BP := B0.trans (bp.mono zA); have zP := Nat.le_trans zA bp.size)
      | (go_at_call 61; refine (ofKind_any _ _).mono ?_; rintro e wk ⟨k, rfl, kc, bk⟩; have BK := BP.trans (bk.mono zP); have zK := Nat.le_trans zP bk.size)
      | (go_at_call 62; refine (ofWho_any _ _).mono ?_; rintro e wh ⟨h, rfl, hc, bh⟩; have BH := BK.trans (bh.mono zK); have zH := Nat.le_trans zK bh.size)
      | (go_at_call 63; refine (withPart_any _ _).mono ?_; rintro e wt ⟨t, rfl, tc, bt⟩; have BT := BH.trans (bt.mono zH); have zT := Nat.le_trans zH bt.size; have BL := BT.alloc zT (.cells #[.func (.func 83) #[] #[.pointer (some ⟨p, 0, none⟩), .pointer (some ⟨q, 0, none⟩)], .func (.func 84) #[] #[.pointer (some ⟨k, 0, none⟩)], .func (.func 85) #[] #[.pointer (some ⟨h, 0, none⟩)], .func (.func 86) #[] #[.pointer (some ⟨t, 0, none⟩)]] 49))
      | (go_at_call 59; refine (every_any _ _ _ _).mono ?_; rintro e we ⟨f, rfl, fc, be⟩; have zL : w.heap.size + 1 ≤ (wt.alloc (.cells #[.func (.func 83) #[] #[.pointer (some ⟨p, 0, none⟩), .pointer (some ⟨q, 0, none⟩)], .func (.func 84) #[] #[.pointer (some ⟨k, 0, none⟩)], .func (.func 85) #[] #[.pointer (some ⟨h, 0, none⟩)], .func (.func 86) #[] #[.pointer (some ⟨t, 0, none⟩)]] 49)).heap.size := (by simp; omega); have BE := BL.trans (be.mono zL); have zE := Nat.le_trans zL be.size)
      | (go_at_call 58; have BW : Below w.heap.size w we := bA0.trans (BE.mono (Nat.le_succ _)); refine (places_any N v ns a f wt.heap.size p q k h t we (hg.below BW) (hr.below (BW.mono hN)) (Nat.le_trans hN BW.size) hl hs (fil_made a wp wk wh wt we f p q k h t pc qc kc hc tc fc bk bh bt be)).mono ?_; rintro e wz ⟨vo, rfl, own, bz⟩; have BR := BE.trans (bz.mono zE))))
  all_goals
    have HO : Hid (wz.ownsRow w.heap.size 3 1 vo (findL ns a).length ((findL ns a).map (Value.int .i64))) := own_low own BW.size
    have HB : Hid (Below w.heap.size w wz) := BW.trans (bz.mono BW.size)
    clear own BR BE BL BT BH BK BP B0 bz be bt bh bk bp pc qc kc hc tc fc
    go_wp2
    go_ret
    exact ⟨vo, rfl, HO.out, HB.out⟩
end Go.Proofs.Ytepagknkhlpicaa
