/-
  The marks of notes: markText, markNoteS.
-/
import Derived.Test.YtepagknkhlpicacIntS
namespace Go.Proofs.Ytepagknkhlpicac
open Go.ChangeShapes Go.WideShapes Go.ChangeAt Go.RowKit Go.Deep
set_option linter.unusedVariables false
set_option linter.unusedSimpArgs false

set_option maxHeartbeats 1000000 in
theorem markText_any (k : Int) (w : World) (hk : 0 ≤ k) (hk' : k ≤ 1000000000) :
    Calls Try.prog 31 #[.int .i64 k] w fun e w' => ∃ s : ByteArray, e = .returned (.string s) ∧ Below w.heap.size w w' := by
  have hso := str_one
  have hm1 : ∀ x : Int, (mkS [x]).size = 1 := fun x => by rw [mkS_size]; rfl
  by_cases h0 : k ≤ 0
  · go_enter Try.func31, Try.ntmps31
    go_wp2
    go_ret
    exact ⟨_, rfl, Below.refl _ _⟩
  · go_enter Try.func31, Try.ntmps31
    go_wp2
    go_loopw [0, 3] (fun q o wr => ∃ (x : Nat) (s : ByteArray), q = .int .i64 x ∧ o = .string s ∧ x * 10 ^ s.size ≤ 1000000000 ∧ x ≤ 1000000000 ∧ s.size ≤ 10 ∧ Below w.heap.size w wr) (fun q _ _ => (intOf q).toNat)
    case atStart => exact ⟨k.toNat, ByteArray.empty, by rw [Int.toNat_of_nonneg hk], rfl, by simp; omega, by omega, by simp, Below.refl _ _⟩
    case round =>
      obtain ⟨x, s, rfl, rfl, hx, hx1, hs, hb⟩ := hrel
      by_cases hlt : 0 < x
      · have hs9 : s.size ≤ 9 := by
          by_cases hh : s.size ≤ 9
          · exact hh
          · have h10 : (10 : Nat) ^ 10 ≤ 10 ^ s.size := Nat.pow_le_pow_right (by omega) (by omega)
            have := Nat.mul_le_mul hlt h10
            omega
        have HX : Hid (x * 10 ^ s.size ≤ 1000000000) := hx
        have hz := hb.size
        clear hx
        go_wp2
        go_roundw
        case rel =>
          refine ⟨x / 10, _, by go_num, rfl, ?_, by omega, by simp [hm1]; omega, hb.trans ((Below.refl _ _).alloc (by omega) _)⟩
          have h := HX.out
          simp only [ByteArray.size_append, hm1]
          rw [Nat.pow_add, Nat.pow_one]
          have h2 : x / 10 * (10 * 10 ^ s.size) = (x / 10 * 10) * 10 ^ s.size := by rw [Nat.mul_assoc]
          rw [h2]
          exact Nat.le_trans (Nat.mul_le_mul_right _ (Nat.div_mul_le_self x 10)) h
        case measure => simp [intOf]; omega
      · go_wp2
        go_ret
        exact ⟨_, rfl, hb⟩

set_option maxRecDepth 5000 in
set_option maxHeartbeats 4000000 in
theorem markNoteS_own {ety : Nat} (base : Nat) (v : Value) (L : List Value) (n : Nat) (k : Int) (w : World) (hk : 0 ≤ k) (hl : n ≤ 100000000) (hk' : k + n * 5 ≤ 1000000000) (h : w.ownsRow base ety 5 v n L) :
    Calls Try.prog 13 #[v, .int .i64 k] w fun e w' => e = .returned (.int .i64 (k + n * 5)) ∧ Kp (fun b => v.ownBlock = some b) w w' := by
  obtain ⟨h1, h2⟩ := h
  rcases h2 with ⟨rfl, rfl⟩ | ⟨g, cap, cur, rfl, hg, hh, hn, hm, hs, ht⟩
  · go_enter Try.func13, Try.ntmps13
    go_wp2
    refine wp_loop_rounds 1 ?_
    rw [rounds_succ]
    go_wp2
    go_ret
    exact ⟨by simp, Kp.refl _ _⟩
  · unfold maxLen at hm
    have hgl := lt_of_block hh
    go_enter Try.func13, Try.ntmps13
    go_wp2
    go_loopw [1, 5] (fun q i wr => ∃ (j : Nat) (c : Array Value), j ≤ n ∧ i = .int .i64 j ∧ q = .int .i64 (k + j * 5) ∧ wr.heap[g]? = some (.cells c ety (0, 0)) ∧ c.size = cap * 5 ∧ Kp (fun b => b = g) w wr) (fun _ i _ => n - (intOf i).toNat)
    case atStart => exact ⟨0, cur, Nat.zero_le _, rfl, by simp, hh, by omega, Kp.refl _ _⟩
    case round =>
      obtain ⟨j, c, hj, rfl, rfl, hc, hcs, hb⟩ := hrel
      have hzz := hb.size
      by_cases hlt : j < n
      · have hcl : ∀ q, q < 5 → ∃ x, wr.cell? ⟨g, j * 5 + q, none⟩ = some x := fun q hq => by
          rw [Joins.cell_of_block hc]
          exact ⟨_, Array.getElem?_eq_getElem (by omega)⟩
        obtain ⟨x0, hcl0⟩ := hcl 0 (by omega)
        obtain ⟨x1, hcl1⟩ := hcl 1 (by omega)
        obtain ⟨x2, hcl2⟩ := hcl 2 (by omega)
        obtain ⟨x3, hcl3⟩ := hcl 3 (by omega)
        rw [Nat.add_zero] at hcl0
        have hfz := fun q => Joins.unfrozen_of_block hc q
        clear hcl
        go_wp2_with fail
        refine (markText_any _ _ (by omega) (by omega)).mono ?_; rintro e w1 ⟨s, rfl, b1⟩
        have B0 : Below (wr.heap.size) (World.setCell (World.setCell (World.setCell (World.setCell wr ⟨g, j * 5, none⟩ (.int .i64 (k + j * 5))) ⟨g, j * 5 + 1, none⟩ (.int .i64 (k + j * 5 + 1))) ⟨g, j * 5 + 2, none⟩ (.int .i64 (k + j * 5 + 1 + 1))) ⟨g, j * 5 + 3, none⟩ (.int .i64 (k + j * 5 + 1 + 1 + 1))) w1 := b1.mono (by simp [World.setCell])
        have hc4 := Joins.block_setCell (i := j * 5 + 3) (Joins.block_setCell (i := j * 5 + 2) (Joins.block_setCell (i := j * 5 + 1) (Joins.block_setCell (i := j * 5) hc (.int .i64 (k + j * 5))) (.int .i64 (k + j * 5 + 1))) (.int .i64 (k + j * 5 + 1 + 1))) (.int .i64 (k + j * 5 + 1 + 1 + 1))
        have hw1 : w1.heap[g]? = some (.cells ((((c.setIfInBounds (j * 5) (.int .i64 (k + j * 5))).setIfInBounds (j * 5 + 1) (.int .i64 (k + j * 5 + 1))).setIfInBounds (j * 5 + 2) (.int .i64 (k + j * 5 + 1 + 1))).setIfInBounds (j * 5 + 3) (.int .i64 (k + j * 5 + 1 + 1 + 1))) ety (0, 0)) := by
          rw [B0.block g (by omega)]; exact hc4
        have hcl4 : ∃ x, w1.cell? ⟨g, j * 5 + 4, none⟩ = some x := by
          rw [Joins.cell_of_block hw1]
          exact ⟨_, Array.getElem?_eq_getElem (by simp; omega)⟩
        obtain ⟨x4, hcl4⟩ := hcl4
        have hfz1 := fun q => Joins.unfrozen_of_block hw1 q
        have kb : Kp (fun b => b = g) w w1 := by
          have k1 : Kp (fun b => b = g) w (World.setCell (World.setCell (World.setCell (World.setCell wr ⟨g, j * 5, none⟩ (.int .i64 (k + j * 5))) ⟨g, j * 5 + 1, none⟩ (.int .i64 (k + j * 5 + 1))) ⟨g, j * 5 + 2, none⟩ (.int .i64 (k + j * 5 + 1 + 1))) ⟨g, j * 5 + 3, none⟩ (.int .i64 (k + j * 5 + 1 + 1 + 1))) := (((hb.setIn _ _ rfl).setIn _ _ rfl).setIn _ _ rfl).setIn _ _ rfl
          exact k1.trans (Below.kp b1)
        clear hcl0 hcl1 hcl2 hcl3 hfz hc4 B0 b1
        go_wp2
        go_roundw
        case rel => exact ⟨j + 1, _, by omega, by go_num, by go_num, Joins.block_setCell hw1 _, by simp [hcs], kb.setIn _ _ rfl⟩
        case measure => simp [intOf]; omega
      · have : j = n := by omega
        subst this
        go_wp2
        go_ret
        refine ⟨rfl, ?_⟩
        exact ⟨hb.os, hb.tape, hb.output, hb.size, fun b hbl hne => hb.block b hbl (fun e => hne (by rw [e]; rfl))⟩
end Go.Proofs.Ytepagknkhlpicac
