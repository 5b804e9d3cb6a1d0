/-
  szByteS, szByteSS, szWrite, szWriteS, szDisk: how large an argument is.
-/
import Derived.Test.YtepagknkhlpicabRRRRDiskHeld
namespace Go.Proofs.YtepagknkhlpicabRRRR
open Go.ChangeShapes Go.WideShapes Go.ChangeAt Go.RowKit
set_option linter.unusedVariables false
set_option linter.unusedSimpArgs false

theorem Reads.le {w : World} {v : Value} {bs : List Int} (h : Reads w v bs) : bs.length ≤ maxLen := by
  obtain ⟨a, cap, e, h1, h2, _⟩ := h
  omega

theorem szBytes_any (v : Value) (bs : List Int) (left : Int) (w : World) (h : Reads w v bs) (h0 : 0 ≤ left) (h1 : left ≤ 1048576) :
    Calls Try.prog 32 #[v, .int .i64 left] w fun e w' => e = .returned (.int .i64 (if (bs.length : Int) ≤ left then left - bs.length else -1)) ∧ w' = w := by
  have hl := h.le
  obtain ⟨a, cap, rfl, _, _, _⟩ := h
  unfold maxLen at hl
  by_cases hc : (bs.length : Int) ≤ left
  · rw [if_pos hc]
    go_enter Try.func32, Try.ntmps32
    go_wp2
    go_ret
    exact ⟨rfl, rfl⟩
  · rw [if_neg hc]
    go_enter Try.func32, Try.ntmps32
    go_wp2
    go_ret
    exact ⟨rfl, rfl⟩

/-- What a size may answer: it did not fit, or what is left. -/
def Fits (left : Int) (n : Nat) (z : Int) : Prop := z = -1 ∨ (0 ≤ z ∧ z + n = left)

set_option maxHeartbeats 1000000 in
theorem szBB_any (N : Nat) (v : Value) (L : List (List Int)) (left : Int) (w : World) (h : RBB N w v L) (h0 : 0 ≤ left) (h1 : left ≤ 1048576) :
    Calls Try.prog 24 #[v, .int .i64 left] w fun e w' => ∃ z, e = .returned (.int .i64 z) ∧ Fits left (L.length + sumL L) z ∧ w' = w := by
  obtain ⟨a, cap, rfl, hc1, hm, hx⟩ := h
  unfold maxLen at hm
  by_cases hc : (L.length : Int) ≤ left
  · go_enter Try.func24, Try.ntmps24
    go_wp2
    go_loop [1, 5] (fun q i => ∃ (j : Nat) (z : Int), j ≤ L.length ∧ i = .int .i64 j ∧ q = .int .i64 z ∧ 0 ≤ z ∧ z + L.length + sumL (L.take j) = left) (fun _ i => L.length - (intOf i).toNat)
    case atStart => exact ⟨0, left - L.length, Nat.zero_le _, rfl, rfl, by omega, by simp [sumL]⟩
    case round =>
      obtain ⟨j, z, hj, rfl, rfl, hz0, hz⟩ := hrel
      have HZ : Hid (z + L.length + sumL (L.take j) = left) := hz
      have hz1 : z ≤ 1048576 := by omega
      clear hz
      by_cases hlt : j < L.length
      · obtain ⟨g, o, vi, rfl, _, hcl, hr⟩ := hx j hlt
        have htk : L.take (j + 1) = L.take j ++ [L[j]] := List.take_succ_eq_append_getElem hlt
        have hsum : sumL (L.take (j + 1)) = sumL (L.take j) + L[j].length := by rw [htk, sumL_append]; simp [sumL]
        have hr1 := hr.1
        have HS : Hid (sumL (L.take (j + 1)) = sumL (L.take j) + L[j].length) := hsum
        clear hx hr htk hsum
        generalize hB : L[j] = B at hr1
        have HB : Hid (L[j] = B) := hB
        clear hB
        by_cases hf : (B.length : Int) ≤ z
        · go_wp2_with (go_at_call 32; refine (szBytes_any vi B _ _ hr1 hz0 hz1).mono ?_; rintro e w1 ⟨rfl, rfl⟩; rw [if_pos hf])
          go_round
          case rel => exact ⟨j + 1, z - B.length, by omega, by go_num, rfl, by omega, by have hS := HS.out; rw [HB.out] at hS; have hZ := HZ.out; omega⟩
          case measure => simp [intOf]; omega
        · go_wp2_with (go_at_call 32; refine (szBytes_any vi B _ _ hr1 hz0 hz1).mono ?_; rintro e w1 ⟨rfl, rfl⟩; rw [if_neg hf])
          go_ret
          exact ⟨-1, rfl, .inl rfl, rfl⟩
      · have : j = L.length := by omega
        subst this
        go_wp2
        go_ret
        refine ⟨z, rfl, .inr ⟨hz0, ?_⟩, rfl⟩
        have := HZ.out
        rw [List.take_length] at this
        omega
  · go_enter Try.func24, Try.ntmps24
    go_wp2
    go_ret
    exact ⟨-1, rfl, .inl rfl, rfl⟩

theorem szWrite_any (v : Value) (blk : Int) (bs : List Int) (left : Int) (w : World) (h : RdB w.heap.size w v bs) (h0 : 0 ≤ left) (h1 : left ≤ 1048576) :
    Calls Try.prog 39 #[.agg #[.int .i64 blk, v], .int .i64 left] w fun e w' => e = .returned (.int .i64 (if (bs.length : Int) ≤ left then left - bs.length else -1)) ∧ Below w.heap.size w w' := by
  obtain ⟨a, n, c, rfl⟩ : ∃ a n cap, v = .slice a n cap := by obtain ⟨a, cap, e, _⟩ := h.1; exact ⟨a, _, cap, e⟩
  have bA := (Below.refl _ w).alloc (Nat.le_refl _) (.cells #[.int .i64 blk, .slice a n c] 69)
  have hr := (h.below bA).1
  by_cases hc : (bs.length : Int) ≤ left
  all_goals
    go_enter Try.func39, Try.ntmps39
    go_wp2_with fail
    refine (szBytes_any _ bs _ _ hr h0 h1).mono ?_; rintro e w1 ⟨rfl, rfl⟩
    first | rw [if_pos hc] | rw [if_neg (by omega)]
    go_wp2
    go_ret
    exact ⟨rfl, bA⟩

/-- How many places some writes have: each counts one, and its bytes. -/
theorem sumW_succ (L : List WD) (j : Nat) (hlt : j < L.length) : sumW (L.take (j + 1)) = sumW (L.take j) + (1 + L[j].bs.length) := by
  rw [List.take_succ_eq_append_getElem hlt, sumW_append]; simp [sumW]

set_option maxHeartbeats 1000000 in
theorem szWW_any (N : Nat) (v : Value) (L : List WD) (left : Int) (w : World) (h : RWW N w v L) (hN : N ≤ w.heap.size) (h0 : 0 ≤ left) (h1 : left ≤ 1048576) :
    Calls Try.prog 25 #[v, .int .i64 left] w fun e w' => ∃ z, e = .returned (.int .i64 z) ∧ Fits left (sumW L) z ∧ Below w.heap.size w w' := by
  obtain ⟨a, cap, rfl, hc1, hm, hx⟩ := h
  unfold maxLen at hm
  by_cases hc : (L.length : Int) ≤ left
  · go_enter Try.func25, Try.ntmps25
    go_wp2
    go_loopw [1, 5] (fun q i wr => ∃ (j : Nat) (z : Int), j ≤ L.length ∧ i = .int .i64 j ∧ q = .int .i64 z ∧ 0 ≤ z ∧ z + (L.length - j) + sumW (L.take j) = left ∧ Below w.heap.size w wr) (fun _ i _ => L.length - (intOf i).toNat)
    case atStart => exact ⟨0, left - L.length, Nat.zero_le _, rfl, rfl, by omega, by simp [sumW], Below.refl _ _⟩
    case round =>
      obtain ⟨j, z, hj, rfl, rfl, hz0, hz, hb⟩ := hrel
      have HZ : Hid (z + (L.length - j) + sumW (L.take j) = left) := hz
      have hz1 : z ≤ 1048576 := by omega
      have hsz := hb.size
      clear hz
      by_cases hlt : j < L.length
      · obtain ⟨g, o, vi, rfl, hgN, hcl, hcl2, hr⟩ := hx j hlt
        have hcl : wr.cell? ⟨g, o + j * 2, none⟩ = some (.int .i64 L[j].blk) := by rw [hb.cell (p := ⟨g, o + j * 2, none⟩) (show g < w.heap.size by omega)]; exact hcl
        have hcl2 : wr.cell? ⟨g, o + j * 2 + 1, none⟩ = some vi := by rw [hb.cell (p := ⟨g, o + j * 2 + 1, none⟩) (show g < w.heap.size by omega)]; exact hcl2
        have hr1 : RdB wr.heap.size wr vi L[j].bs := (hr.below (hb.mono hN)).mono (by omega)
        have HS : Hid (sumW (L.take (j + 1)) = sumW (L.take j) + (1 + L[j].bs.length)) := sumW_succ L j hlt
        clear hx hr
        generalize hB : L[j] = B at hr1 hcl
        have HB : Hid (L[j] = B) := hB
        clear hB
        by_cases hf : (B.bs.length : Int) ≤ z
        · go_wp2_with (go_at_call 39; refine (szWrite_any vi B.blk B.bs _ _ hr1 hz0 hz1).mono ?_; rintro e w1 ⟨rfl, b1⟩; rw [if_pos hf])
          go_roundw
          case rel => exact ⟨j + 1, z - B.bs.length, by omega, by go_num, rfl, by omega, by have hS := HS.out; rw [HB.out] at hS; have hZ := HZ.out; omega, hb.trans (b1.mono (by omega))⟩
          case measure => simp [intOf]; omega
        · go_wp2_with (go_at_call 39; refine (szWrite_any vi B.blk B.bs _ _ hr1 hz0 hz1).mono ?_; rintro e w1 ⟨rfl, b1⟩; rw [if_neg hf])
          go_ret
          exact ⟨-1, rfl, .inl rfl, hb.trans (b1.mono (by omega))⟩
      · have : j = L.length := by omega
        subst this
        go_wp2
        go_ret
        refine ⟨z, rfl, .inr ⟨hz0, ?_⟩, hb⟩
        have := HZ.out
        rw [List.take_length] at this
        omega
  · go_enter Try.func25, Try.ntmps25
    go_wp2
    go_ret
    exact ⟨-1, rfl, .inl rfl, Below.refl _ _⟩

theorem sum_mem : ∀ (L : List (List Int)), ∀ x ∈ L, x.length ≤ sumL L
  | [], _, h => by simp at h
  | b :: r, x, h => by
    rcases List.mem_cons.1 h with rfl | h
    · simp [sumL]
    · have := sum_mem r x h; simp [sumL]; omega
theorem sumW_mem : ∀ (L : List WD), (∀ x ∈ L, x.bs.length ≤ sumW L) ∧ L.length ≤ sumW L
  | [] => ⟨fun _ h => by simp at h, by simp [sumW]⟩
  | b :: r => by
    have ih := sumW_mem r
    refine ⟨fun x h => ?_, by simp [sumW]; omega⟩
    rcases List.mem_cons.1 h with rfl | h
    · simp [sumW]; omega
    · have := ih.1 x h; simp [sumW]; omega

set_option maxHeartbeats 1000000 in
theorem szDisk_any (N : Nat) (v1 v2 : Value) (D : DD) (w : World) (h : RDisk N w v1 v2 D) (hN : N ≤ w.heap.size) :
    Calls Try.prog 6 #[.agg #[v1, v2], .int .i64 1048576] w fun e w' => ∃ z, e = .returned (.int .i64 z) ∧ (z < 0 ∨ (0 ≤ z ∧ D.small ∧ D.sum ≤ 1048576)) ∧ Below w.heap.size w w' := by
  obtain ⟨a1, n1, c1, rfl⟩ : ∃ a n cap, v1 = .slice a n cap := by obtain ⟨a, cap, e, _⟩ := h.bb; exact ⟨a, _, cap, e⟩
  obtain ⟨a2, n2, c2, rfl⟩ : ∃ a n cap, v2 = .slice a n cap := by obtain ⟨a, cap, e, _⟩ := h.ws; exact ⟨a, _, cap, e⟩
  have bA := (Below.refl _ w).alloc (Nat.le_refl _) (.cells #[.slice a1 n1 c1, .slice a2 n2 c2] 25)
  have hr := h.below (bA.mono hN)
  go_enter Try.func6, Try.ntmps6
  go_wp2_with fail
  refine (szBB_any N _ D.bb _ _ hr.bb (by omega) (by omega)).mono ?_; rintro e w1 ⟨z, rfl, hf, rfl⟩
  rcases hf with rfl | ⟨hz0, hz⟩
  · go_wp2
    go_ret
    exact ⟨-1, rfl, .inl (by omega), bA⟩
  · have hz1 : z ≤ 1048576 := by omega
    have HZ : Hid (z + ((D.bb.length + sumL D.bb : Nat) : Int) = 1048576) := hz
    clear hz
    go_wp2_with fail
    refine (szWW_any N _ D.ws _ _ hr.ws (by simp; omega) hz0 hz1).mono ?_; rintro e w2 ⟨z2, rfl, hf2, b2⟩
    rcases hf2 with rfl | ⟨hy0, hy⟩
    · go_wp2
      go_ret
      exact ⟨-1, rfl, .inl (by omega), bA.trans (b2.mono (by simp))⟩
    · have HY : Hid (z2 + (sumW D.ws : Int) = z) := hy
      clear hy
      go_wp2
      go_ret
      have hz := HZ.out
      have hy := HY.out
      have s1 := sum_mem D.bb
      have s2 := sumW_mem D.ws
      refine ⟨z2, rfl, .inr ⟨hy0, ⟨by omega, by omega, fun x hx => by have := s1 x hx; omega, fun x hx => by have := s2.1 x hx; omega⟩, by unfold DD.sum; omega⟩, bA.trans (b2.mono (by simp))⟩
end Go.Proofs.YtepagknkhlpicabRRRR
