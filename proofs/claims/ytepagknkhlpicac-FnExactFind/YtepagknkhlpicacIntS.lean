/-
  Slices of whole numbers: eqIntS, markIntS, heldIntS.
-/
import Derived.Test.YtepagknkhlpicacNoteS
namespace Go.Proofs.Ytepagknkhlpicac
open Go.ChangeShapes Go.WideShapes Go.ChangeAt Go.RowKit Go.Deep
set_option linter.unusedVariables false
set_option linter.unusedSimpArgs false

/-- A slice of whole numbers that can be read. -/
def RdI (w : World) (v : Value) (xs : List Int) : Prop :=
  ∃ a cap, v = .slice a xs.length cap ∧ xs.length ≤ cap ∧ cap ≤ maxLen ∧ ∀ i, i < xs.length → ∃ b off, a = some ⟨b, off, none⟩ ∧ b < w.heap.size ∧ w.cell? ⟨b, off + i, none⟩ = some (.int .i64 (xs.getD i 0))
theorem own_rdi {w : World} {base e n : Nat} {v : Value} {xs : List Int} (h : w.ownsRow base e 1 v n (xs.map (Value.int .i64))) : RdI w v xs ∧ xs.length = n := by
  obtain ⟨h1, h2⟩ := h
  have hl : xs.length = n := by simpa using h1
  refine ⟨?_, hl⟩
  rcases h2 with ⟨rfl, rfl⟩ | ⟨g, cap, cur, rfl, hg, hh, hn, hm, hs, ht⟩
  · exact ⟨none, 0, by rw [hl], by omega, by unfold maxLen; omega, fun i hi => by omega⟩
  · refine ⟨_, cap, by rw [hl], by omega, hm, fun i hi => ⟨g, 0, rfl, lt_of_block hh, ?_⟩⟩
    have e : cur[i]? = some (.int .i64 (xs.getD i 0)) := by
      have : (cur.toList.take (n * 1))[i]? = (xs.map (Value.int .i64))[i]? := by rw [ht]
      rw [List.getElem?_take_of_lt (by omega)] at this
      simp only [Array.getElem?_toList, List.getElem?_map] at this
      rw [this, List.getD_eq_getElem?_getD, List.getElem?_eq_getElem hi]
      rfl
    rw [Nat.zero_add, Joins.cell_of_block hh]
    exact e

set_option maxHeartbeats 1000000 in
theorem eqIntS_same (v1 v2 : Value) (xs : List Int) (w : World) (h1 : RdI w v1 xs) (h2 : RdI w v2 xs) (hl1 : xs.length ≤ 1000000000) :
    Calls Try.prog 11 #[v1, v2] w fun e w' => e = .returned (.bool true) ∧ ∃ n, w' = w.drewN n := by
  obtain ⟨a, c1, rfl, hc1, hm1, hx⟩ := h1
  obtain ⟨b, c2, rfl, hc2, hm2, hy⟩ := h2
  unfold maxLen at hm1 hm2
  have hne : ((xs.length : Int) != xs.length) = false := by simp
  go_enter Try.func11, Try.ntmps11
  go_wp2
  go_loopw [5] (fun i wr => ∃ (j n : Nat), j ≤ xs.length ∧ i = .int .i64 j ∧ wr = w.drewN n) (fun i _ => xs.length - (intOf i).toNat)
  case atStart => exact ⟨0, 0, Nat.zero_le _, rfl, rfl⟩
  case round =>
    obtain ⟨j, m, hj, rfl, rfl⟩ := hrel
    by_cases hlt : j < xs.length
    · obtain ⟨g1, o1, rfl, _, hx1⟩ := hx j hlt
      obtain ⟨g2, o2, rfl, _, hy1⟩ := hy j hlt
      generalize xs.getD j 0 = x at hx1 hy1
      clear hx hy
      have hq' : (x != x) = false := by simp
      go_wp2
      go_quiet (fail)
      go_wp2
      go_roundw
      case rel => exact ⟨j + 1, _, by omega, by go_num, rfl⟩
      case measure => simp [intOf]; omega
    · go_wp2
      go_ret
      exact ⟨rfl, _, rfl⟩

/-- The marks: the numbers from k on. -/
def marksI (k : Int) : Nat → List Int
  | 0 => []
  | n + 1 => marksI k n ++ [k + n]
theorem marksI_length (k : Int) (n : Nat) : (marksI k n).length = n := by
  induction n with
  | zero => rfl
  | succ n ih => simp [marksI, ih]
theorem marksI_getD (k : Int) : ∀ {n j : Nat}, j < n → (marksI k n).getD j 0 = k + j
  | 0, _, h => by omega
  | n + 1, j, h => by
    rw [marksI, List.getD_eq_getElem?_getD]
    by_cases e : j < n
    · rw [List.getElem?_append_left (by rw [marksI_length]; exact e), ← List.getD_eq_getElem?_getD]
      exact marksI_getD k e
    · have : j = n := by omega
      subst this
      rw [List.getElem?_append_right (by rw [marksI_length]; exact Nat.le_refl _), marksI_length]
      simp

theorem Kp.setIn {S : Nat → Prop} {w w' : World} (h : Kp S w w') (a : Addr) (u : Value) (ha : S a.block) : Kp S w (w'.setCell a u) :=
  ⟨h.os, h.tape, h.output, by simpa [World.setCell] using h.size, fun k hk hs => by
    have hne : k ≠ a.block := fun e => hs (by rw [e]; exact ha)
    rw [Below.heap_setCell _ _ _ _ hne]; exact h.block k hk hs⟩

set_option maxHeartbeats 1000000 in
theorem markIntS_own {ety : Nat} (base : Nat) (v : Value) (xs : List Int) (k : Int) (w : World) (hk : 0 ≤ k) (hk' : k ≤ 1000000000) (hl : xs.length ≤ 1000000000) (h : w.ownsRow base ety 1 v xs.length (xs.map (Value.int .i64))) :
    Calls Try.prog 14 #[v, .int .i64 k] w fun e w' => e = .returned (.int .i64 (k + xs.length)) ∧ w'.ownsRow base ety 1 v xs.length ((marksI k xs.length).map (Value.int .i64)) ∧ Kp (fun b => v.ownBlock = some b) w w' := by
  obtain ⟨h1, h2⟩ := h
  rcases h2 with ⟨rfl, h0⟩ | ⟨g, cap, cur, rfl, hg, hh, hn, hm, hs, ht⟩
  · have hx : xs = [] := List.eq_nil_of_length_eq_zero h0
    subst hx
    go_enter Try.func14, Try.ntmps14
    go_wp2
    refine wp_loop_rounds 1 ?_
    rw [rounds_succ]
    go_wp2
    go_ret
    exact ⟨by simp, World.ownsRow_nil _ _ _ _, Kp.refl _ _⟩
  · unfold maxLen at hm
    go_enter Try.func14, Try.ntmps14
    go_wp2
    go_loopw [1, 5] (fun q i wr => ∃ (j : Nat) (c : Array Value), j ≤ xs.length ∧ i = .int .i64 j ∧ q = .int .i64 (k + j) ∧ wr.heap[g]? = some (.cells c ety (0, 0)) ∧ c.size = cap ∧ c.toList.take j = (marksI k j).map (Value.int .i64) ∧ Kp (fun b => b = g) w wr) (fun _ i _ => xs.length - (intOf i).toNat)
    case atStart => exact ⟨0, cur, Nat.zero_le _, rfl, by simp, hh, by omega, rfl, Kp.refl _ _⟩
    case round =>
      obtain ⟨j, c, hj, rfl, rfl, hc, hcs, hct, hb⟩ := hrel
      by_cases hlt : j < xs.length
      · have hcell : ∃ x, wr.cell? ⟨g, j, none⟩ = some x := by
          rw [Joins.cell_of_block hc]
          exact ⟨_, Array.getElem?_eq_getElem (by omega)⟩
        obtain ⟨x, hcell⟩ := hcell
        have hfz := Joins.unfrozen_of_block hc j
        go_wp2
        go_roundw
        case rel =>
          refine ⟨j + 1, c.setIfInBounds j (.int .i64 (k + j)), by omega, by go_num, by go_num, Joins.block_setCell hc _, by simp [hcs], ?_, hb.setIn _ _ rfl⟩
          rw [List.take_succ_eq_append_getElem (by simp; omega)]
          simp only [Array.toList_setIfInBounds, marksI, List.map_append, List.map_cons, List.map_nil]
          rw [List.take_set_of_le (Nat.le_refl _), hct]
          simp
        case measure => simp [intOf]; omega
      · have : j = xs.length := by omega
        subst this
        go_wp2
        go_ret
        refine ⟨rfl, ⟨by simp [marksI_length], .inr ⟨g, cap, c, rfl, hg, hc, hn, by unfold maxLen; exact hm, by omega, by rw [Nat.mul_one]; exact hct⟩⟩, ?_⟩
        exact ⟨hb.os, hb.tape, hb.output, hb.size, fun b hbl hne => hb.block b hbl (fun e => hne (by rw [e]; rfl))⟩

set_option maxHeartbeats 1000000 in
theorem heldIntS_any (v : Value) (k : Int) (n : Nat) (w : World) (hk : 0 ≤ k) (hk' : k ≤ 1000000000) (hl : n ≤ 1000000000) (h : RdI w v (marksI k n)) :
    Calls Try.prog 15 #[v, .int .i64 k] w fun e w' => e = .returned (.int .i64 (k + n)) ∧ w' = w := by
  obtain ⟨a, c1, rfl, hc1, hm1, hx⟩ := h
  rw [marksI_length] at hx hc1 ⊢
  unfold maxLen at hm1
  go_enter Try.func15, Try.ntmps15
  go_wp2
  go_loop [1, 5] (fun q i => ∃ (j : Nat), j ≤ n ∧ i = .int .i64 j ∧ q = .int .i64 (k + j)) (fun _ i => n - (intOf i).toNat)
  case atStart => exact ⟨0, Nat.zero_le _, rfl, by simp⟩
  case round =>
    obtain ⟨j, hj, rfl, rfl⟩ := hrel
    by_cases hlt : j < n
    · obtain ⟨g1, o1, rfl, _, hx1⟩ := hx j hlt
      rw [marksI_getD k hlt] at hx1
      clear hx
      have hq : ((k + (j : Int)) != (k + (j : Int))) = false := by simp
      go_wp2
      go_round
      case rel => exact ⟨j + 1, by omega, by go_num, by go_num⟩
      case measure => simp [intOf]; omega
    · have : j = n := by omega
      subst this
      go_wp2
      go_ret
      exact ⟨rfl, rfl⟩
end Go.Proofs.Ytepagknkhlpicac
