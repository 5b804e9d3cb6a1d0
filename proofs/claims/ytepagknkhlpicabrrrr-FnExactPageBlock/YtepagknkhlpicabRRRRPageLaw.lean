/-
  The laws' helpers on pages: toPage, szPage, eqPage, markPage, heldPage; a page that came in, opened.
-/
import Derived.Test.YtepagknkhlpicabRRRRSpecPage
import Derived.Test.YtepagknkhlpicabRRRRDiskOpen
namespace Go.Proofs.YtepagknkhlpicabRRRR
open Go.ChangeShapes Go.WideShapes Go.ChangeAt Go.RowKit
set_option linter.unusedVariables false
set_option linter.unusedSimpArgs false
attribute [local go_sem ↓] Go.wp_at_zero Go.wp_at_succ

theorem b3cells {w : World} {b : Nat} {x0 x1 x2 : Value} {T : TypeId} (h : w.heap[b]? = some (.cells #[x0, x1, x2] T (0, 0))) :
    (w.cell? ⟨b, 0, none⟩ = some x0 ∧ w.cell? ⟨b, 1, none⟩ = some x1 ∧ w.cell? ⟨b, 2, none⟩ = some x2) ∧ ∀ j, w.frozen? ⟨b, j, none⟩ = false := by
  refine ⟨⟨?_, ?_, ?_⟩, fun j => Joins.unfrozen_of_block h j⟩ <;> (rw [Joins.cell_of_block h]; rfl)

set_option maxHeartbeats 2000000 in
theorem toPage_any (N : Nat) (ok : Bool) (gen : Int) (vi : Value) (bs : List Int) (w : World) (h : RdB N w vi bs) (hN : N ≤ w.heap.size) (hl : bs.length ≤ 100000000) :
    Calls Try.prog 13 #[.agg #[.bool ok, .int .i64 gen, vi]] w fun e w' => ∃ v', e = .returned (.agg #[.bool ok, .int .i64 gen, v']) ∧ w'.ownsRow w.heap.size 5 1 v' bs.length (bs.map (Value.int .u8)) ∧ Below w.heap.size w w' := by
  obtain ⟨ai, ni, ci, rfl⟩ : ∃ a n cap, vi = .slice a n cap := by obtain ⟨a, cap, e, _⟩ := h.1; exact ⟨a, _, cap, e⟩
  have hb3 : Below w.heap.size w (((w.alloc (.cells #[.bool ok, .int .i64 gen, .slice ai ni ci] 36)).alloc (.cells #[.bool false, .int .i64 0, .slice none 0 0] 39)).alloc (.cells #[.bool ok, .int .i64 gen, .slice none 0 0] 39)) := (((Below.refl _ w).alloc (Nat.le_refl _) _).alloc (by simp) _).alloc (by simp; omega) _
  go_enter Try.func13, Try.ntmps13
  go_wp2_with fail
  refine (toBytes_any _ bs _ (h.below (hb3.mono hN)).1 (by omega) (fun k hk => by rcases h.2 k hk with h | h; exact .inl h; exact .inr (by simp; omega))).mono ?_; rintro e w1 ⟨v1, rfl, own1, b1⟩
  obtain ⟨a1, n1, k1, rfl⟩ := own_form own1
  have z1 := b1.size
  simp only [World.size_alloc] at z1
  have hr : w1.heap[w.heap.size + 1]? = some (.cells #[.bool false, .int .i64 0, .slice none 0 0] 39 (0, 0)) := by
    rw [b1.block _ (by simp)]
    rw [Below.heap_alloc _ _ _ (by simp)]
    exact alloc2_snd w _ _
  have ho : w1.heap[w.heap.size + 1 + 1]? = some (.cells #[.bool ok, .int .i64 gen, .slice none 0 0] 39 (0, 0)) := by
    rw [b1.block _ (by simp)]
    have h := heap_alloc_new ((w.alloc (.cells #[.bool ok, .int .i64 gen, .slice ai ni ci] 36)).alloc (.cells #[.bool false, .int .i64 0, .slice none 0 0] 39)) (.cells #[.bool ok, .int .i64 gen, .slice none 0 0] 39)
    have e : ((w.alloc (.cells #[.bool ok, .int .i64 gen, .slice ai ni ci] 36)).alloc (.cells #[.bool false, .int .i64 0, .slice none 0 0] 39)).heap.size = w.heap.size + 1 + 1 := by simp
    rw [e] at h
    exact h
  obtain ⟨⟨r0, r1, r2⟩, fr⟩ := b3cells hr
  obtain ⟨⟨o0, o1, o2⟩, fo⟩ := b3cells ho
  clear hr ho
  go_wp2
  have q1 : w.heap.size + 1 + 1 ≠ w.heap.size + 1 := by omega
  have q2 : w.heap.size + 1 ≠ w.heap.size + 1 + 1 := by omega
  have ownF : ((((w1.setCell ⟨w.heap.size + 1 + 1, 2, none⟩ (.slice a1 n1 k1)).setCell ⟨w.heap.size + 1, 0, none⟩ (.bool ok)).setCell ⟨w.heap.size + 1, 1, none⟩ (.int .i64 gen)).setCell ⟨w.heap.size + 1, 2, none⟩ (.slice a1 n1 k1)).ownsRow w.heap.size 5 1 (.slice a1 n1 k1) bs.length (bs.map (Value.int .u8)) := by
    refine own_low (own_same own1 (fun k hk => ?_)) (by simp; omega)
    have := (own1.lt k hk).1
    simp only [World.size_alloc] at this
    rw [Below.heap_setCell _ _ _ _ (by simp; omega), Below.heap_setCell _ _ _ _ (by simp; omega), Below.heap_setCell _ _ _ _ (by simp; omega), Below.heap_setCell _ _ _ _ (by simp; omega)]
  refine bodyPost_ret (v := .agg #[.bool ok, .int .i64 gen, .slice a1 n1 k1]) (by simp [results, Try.results13, go_sem, r0, r1, r2, o0, o1, o2, q1, q2]) rfl ⟨_, rfl, ownF, ?_⟩
  iterate 4 refine Below.setCell ?_ (by simp <;> omega) _
  exact hb3.trans (b1.mono (by simp; omega))

set_option maxHeartbeats 1000000 in
theorem szPage_any (ok : Bool) (gen : Int) (v : Value) (bs : List Int) (left : Int) (w : World) (h : RdB w.heap.size w v bs) (h0 : 0 ≤ left) (h1 : left ≤ 1048576) :
    Calls Try.prog 11 #[.agg #[.bool ok, .int .i64 gen, v], .int .i64 left] w fun e w' => e = .returned (.int .i64 (if (bs.length : Int) ≤ left then left - bs.length else -1)) ∧ Below w.heap.size w w' := by
  obtain ⟨a, n, c, rfl⟩ : ∃ a n cap, v = .slice a n cap := by obtain ⟨a, cap, e, _⟩ := h.1; exact ⟨a, _, cap, e⟩
  have bA := (Below.refl _ w).alloc (Nat.le_refl _) (.cells #[.bool ok, .int .i64 gen, .slice a n c] 36)
  have hr := (h.below bA).1
  by_cases hc : (bs.length : Int) ≤ left
  all_goals
    go_enter Try.func11, Try.ntmps11
    go_wp2_with fail
    refine (szBytes_any _ bs _ _ hr h0 h1).mono ?_; rintro e w1 ⟨rfl, rfl⟩
    first | rw [if_pos hc] | rw [if_neg (by omega)]
    go_wp2
    go_ret
    exact ⟨rfl, bA⟩

set_option maxHeartbeats 1000000 in
theorem eqPage_same (ok : Bool) (gen : Int) (v1 v2 : Value) (bs : List Int) (w : World) (h1 : RdB w.heap.size w v1 bs) (h2 : RdB w.heap.size w v2 bs) (hl : bs.length ≤ 1000000000) :
    Calls Try.prog 16 #[.agg #[.bool ok, .int .i64 gen, v1], .agg #[.bool ok, .int .i64 gen, v2]] w fun e w' => e = .returned (.bool true) ∧ Below w.heap.size w w' := by
  obtain ⟨a1, n1, c1, rfl⟩ : ∃ a n cap, v1 = .slice a n cap := by obtain ⟨a, cap, e, _⟩ := h1.1; exact ⟨a, _, cap, e⟩
  obtain ⟨a2, n2, c2, rfl⟩ : ∃ a n cap, v2 = .slice a n cap := by obtain ⟨a, cap, e, _⟩ := h2.1; exact ⟨a, _, cap, e⟩
  have hb : Below w.heap.size w ((w.alloc (.cells #[.bool ok, .int .i64 gen, .slice a1 n1 c1] 39)).alloc (.cells #[.bool ok, .int .i64 gen, .slice a2 n2 c2] 39)) := ((Below.refl _ w).alloc (Nat.le_refl _) _).alloc (by simp) _
  have r1 := (h1.below hb).1
  have r2 := (h2.below hb).1
  have e1 : (ok != ok) = false := by simp
  have e2 : (gen != gen) = false := by simp
  go_enter Try.func16, Try.ntmps16
  go_wp2_with fail
  refine (eqBytes_any _ _ bs bs _ r1 r2 (by omega) (by omega)).mono ?_; rintro e w1 ⟨rfl, m, rfl⟩
  have hd : decide (bs = bs) = true := by simp
  rw [hd]
  go_wp2
  go_ret
  exact ⟨rfl, below_drewN hb m⟩

set_option maxHeartbeats 1000000 in
theorem markPage_but {ety : Nat} (lo : Nat) (ok : Bool) (gen : Int) (v : Value) (xs : List Int) (k : Int) (w : World) (hk : 0 ≤ k) (hk' : k ≤ 1000000000) (hl : xs.length ≤ 1000000000) (h : w.ownsRow lo ety 1 v xs.length (xs.map (Value.int .u8))) :
    Calls Try.prog 17 #[.agg #[.bool ok, .int .i64 gen, v], .int .i64 k] w fun e w' => e = .returned (.int .i64 (k + xs.length)) ∧ w'.ownsRow lo ety 1 v (marks k xs.length).length ((marks k xs.length).map (Value.int .u8)) ∧ Kp (fun b => v.ownBlock = some b) w w' := by
  obtain ⟨a, n, c, rfl⟩ := own_form h
  have bA := (Below.refl _ w).alloc (Nat.le_refl _) (.cells #[.bool ok, .int .i64 gen, .slice a n c] 39)
  have h' := own_same h (fun k hk => bA.block k (h.lt k hk).2)
  go_enter Try.func17, Try.ntmps17
  go_wp2_with fail
  refine (mark_but lo _ xs _ _ (by omega) (by omega) (by omega) h').mono ?_; rintro e w1 ⟨rfl, own1, b1⟩
  go_wp2
  go_ret
  exact ⟨rfl, own1, (Below.kp bA).trans b1.kp⟩

set_option maxHeartbeats 1000000 in
theorem heldPage_any (ok : Bool) (gen : Int) (v : Value) (k : Int) (n : Nat) (w : World) (hk : 0 ≤ k) (hk' : k ≤ 1000000000) (hl : n ≤ 1000000000) (h : RdB w.heap.size w v (marks k n)) :
    Calls Try.prog 23 #[.agg #[.bool ok, .int .i64 gen, v], .int .i64 k] w fun e w' => e = .returned (.int .i64 (k + n)) ∧ Below w.heap.size w w' := by
  obtain ⟨a, m, c, rfl⟩ : ∃ a n cap, v = .slice a n cap := by obtain ⟨a, cap, e, _⟩ := h.1; exact ⟨a, _, cap, e⟩
  have bA := (Below.refl _ w).alloc (Nat.le_refl _) (.cells #[.bool ok, .int .i64 gen, .slice a m c] 39)
  have hr := (h.below bA).1
  go_enter Try.func23, Try.ntmps23
  go_wp2_with fail
  refine (held_any _ k n _ hk hk' hl hr).mono ?_; rintro e w1 ⟨rfl, rfl⟩
  have hneg : ¬ (k + (n : Int) < 0) := by omega
  go_wp2
  go_ret
  exact ⟨rfl, bA⟩

set_option maxRecDepth 100000 in
/-- A page that came in, opened. -/
theorem open_page {H : Type} {enc : TypeId × Value → H} {W : World} {b0 : Nat} {r : Reach} {v : Value} {d : DataW H} {ps : List MemPlace} {sp : Nat → Bool} {hd : Bool}
    (hv : Value.okWide Try.prog W r b0 36 v) (h : DataW.Trod enc Try.prog W 0 sp hd 36 v d ps) :
    ∃ (ok : Bool) (gen : Int) (v1 : Value) (bs : List Int), v = .agg #[.bool ok, .int .i64 gen, v1] ∧ RdB W.heap.size W v1 bs ∧ Byt bs := by
  obtain ⟨cs, rfl, hsz⟩ := okWide_struct Try.underlying36 hv
  obtain ⟨fuel, hf⟩ := h
  have hC : Try.prog.cellsOf 36 = 3 := by kernel_rfl
  have cB : Try.prog.cellsOf 4 = 1 := by kernel_rfl
  have cI : Try.prog.cellsOf 3 = 1 := by kernel_rfl
  have cS : Try.prog.cellsOf 34 = 1 := by kernel_rfl
  rw [hC] at hsz
  obtain ⟨l⟩ := cs
  match l, hsz with
  | [c0, c1, c2], _ =>
    obtain ⟨xs, m, rfl, _, _, hl, hx⟩ := DataW.trod_struct Try.underlying36 hf
    have h0 := hx 0 _ rfl
    have h1 := hx 1 _ rfl
    have h2 := hx 2 _ rfl
    match xs, hl with
    | [x0, x1, x2], _ =>
      obtain ⟨b, e0, _⟩ := DataW.trod_bool Try.underlying4 h0
      obtain ⟨t, e1, _, _⟩ := DataW.trod_int Try.underlying3 h1
      obtain ⟨v1, bs, e2, r1, b1⟩ := trod_bytes h2
      simp [Value.cells, cB, cI, cS] at e0 e1 e2
      subst e0 e1 e2
      exact ⟨_, _, _, bs, rfl, r1, b1⟩
end Go.Proofs.YtepagknkhlpicabRRRR
