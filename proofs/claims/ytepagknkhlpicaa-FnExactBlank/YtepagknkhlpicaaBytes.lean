/-
  The laws' helpers on byte slices: eqByteS, markByteS, heldByteS, toByteS.
-/
import Derived.Test.YtepagknkhlpicaaSpecFrame
namespace Go.Proofs.Ytepagknkhlpicaa
open Go.ChangeShapes Go.WideShapes Go.ChangeAt Go.RowKit
set_option linter.unusedVariables false
set_option linter.unusedSimpArgs false

/-- A slice of bytes that can be read: its numbers. -/
def Reads (w : World) (v : Value) (bs : List Int) : Prop :=
  ∃ a cap, v = .slice a bs.length cap ∧ bs.length ≤ cap ∧ cap ≤ maxLen ∧ ∀ i, i < bs.length → ∃ b off, a = some ⟨b, off, none⟩ ∧ w.cell? ⟨b, off + i, none⟩ = some (.int .u8 (bs.getD i 0))

theorem Reads.of_own {w : World} {base e : Nat} {v : Value} {n : Nat} {bs : List Int} (h : w.ownsRow base e 1 v n (bs.map (Value.int .u8))) : Reads w v bs ∧ bs.length = n := by
  obtain ⟨h1, h2⟩ := h
  have hl : bs.length = n := by simpa using h1
  refine ⟨?_, hl⟩
  rcases h2 with ⟨rfl, rfl⟩ | ⟨g, cap, cur, rfl, hg, hh, hn, hm, hs, ht⟩
  · exact ⟨none, 0, by rw [hl], by omega, by unfold maxLen; omega, fun i hi => by omega⟩
  · refine ⟨_, cap, by rw [hl], by omega, hm, fun i hi => ⟨g, 0, rfl, ?_⟩⟩
    have e : cur[i]? = some (.int .u8 (bs.getD i 0)) := by
      have : (cur.toList.take (n * 1))[i]? = (bs.map (Value.int .u8))[i]? := by rw [ht]
      rw [List.getElem?_take_of_lt (by omega)] at this
      simp only [Array.getElem?_toList, List.getElem?_map] at this
      rw [this, List.getD_eq_getElem?_getD, List.getElem?_eq_getElem hi]
      rfl
    rw [Nat.zero_add, Joins.cell_of_block hh]
    exact e

theorem Reads.below {w w' : World} {B : Nat} {v : Value} {bs : List Int} (h : Reads w v bs) (hb : Below B w w') (hv : ∀ k, v.ownBlock = some k → k < B) : Reads w' v bs := by
  obtain ⟨a, cap, rfl, h1, h2, h3⟩ := h
  refine ⟨a, cap, rfl, h1, h2, fun i hi => ?_⟩
  obtain ⟨b, off, rfl, hc⟩ := h3 i hi
  exact ⟨b, off, rfl, by rw [hb.cell (p := ⟨b, off + i, none⟩) (hv b rfl)]; exact hc⟩

theorem take_eq_succ {xs ys : List Int} {j : Nat} (h1 : j < xs.length) (h2 : j < ys.length) (h : xs.take j = ys.take j) : xs.take (j + 1) = ys.take (j + 1) ↔ xs.getD j 0 = ys.getD j 0 := by
  have e1 : xs.getD j 0 = xs[j] := by simp [List.getD_eq_getElem?_getD, List.getElem?_eq_getElem h1]
  have e2 : ys.getD j 0 = ys[j] := by simp [List.getD_eq_getElem?_getD, List.getElem?_eq_getElem h2]
  rw [List.take_succ_eq_append_getElem h1, List.take_succ_eq_append_getElem h2, h, List.append_right_inj, e1, e2]
  exact ⟨fun q => by injection q, fun q => by rw [q]⟩

set_option maxHeartbeats 1000000 in
theorem eqBytes_any (v1 v2 : Value) (xs ys : List Int) (w : World) (h1 : Reads w v1 xs) (h2 : Reads w v2 ys) (hl1 : xs.length ≤ 1000000000) (hl2 : ys.length ≤ 1000000000) :
    Calls Try.prog 29 #[v1, v2] w fun e w' => e = .returned (.bool (decide (xs = ys))) ∧ ∃ n, w' = w.drewN n := by
  obtain ⟨a, c1, rfl, hc1, hm1, hx⟩ := h1
  obtain ⟨b, c2, rfl, hc2, hm2, hy⟩ := h2
  unfold maxLen at hm1 hm2
  by_cases hlen : xs.length = ys.length
  · have hne : ((xs.length : Int) != ys.length) = false := by simp [hlen]
    go_enter Try.func29, Try.ntmps29
    go_wp2
    go_loopw [5] (fun i wr => ∃ (j n : Nat), j ≤ xs.length ∧ i = .int .i64 j ∧ xs.take j = ys.take j ∧ wr = w.drewN n) (fun i _ => xs.length - (intOf i).toNat)
    case atStart => exact ⟨0, 0, Nat.zero_le _, rfl, rfl, rfl⟩
    case round =>
      obtain ⟨j, m, hj, rfl, he, rfl⟩ := hrel
      have HE : Hid (xs.take j = ys.take j) := he
      have HL : Hid (xs.length = ys.length) := hlen
      clear he hlen
      by_cases hlt : j < xs.length
      · obtain ⟨g1, o1, rfl, hx1⟩ := hx j hlt
        obtain ⟨g2, o2, rfl, hy1⟩ := hy j (by rw [← HL.out]; exact hlt)
        have hlt2 : j < ys.length := by rw [← HL.out]; exact hlt
        have hts := take_eq_succ hlt hlt2 HE.out
        generalize xs.getD j 0 = x at hx1 hts
        generalize ys.getD j 0 = y at hy1 hts
        have HT : Hid (xs.take (j + 1) = ys.take (j + 1) ↔ x = y) := hts
        clear hts hx hy
        by_cases hq : x = y
        · subst hq
          have hq' : (x != x) = false := by simp
          go_wp2
          go_quiet (fail)
          go_wp2
          go_roundw
          case rel => exact ⟨j + 1, _, by omega, by go_num, HT.out.2 (by simp), rfl⟩
          case measure => simp [intOf]; omega
        · have hq' : (x != y) = true := by simp [hq]
          have hr : decide (xs = ys) = false := by
            simp only [decide_eq_false_iff_not]
            intro e
            exact hq (HT.out.1 (by rw [e]))
          have HR : Hid (decide (xs = ys) = false) := hr
          have HQ : Hid (¬ x = y) := hq
          clear hq hr
          go_wp2
          go_quiet (fail)
          go_wp2
          go_ret
          exact ⟨by rw [HR.out]; rfl, m + nq, by simp⟩
      · have hr : decide (xs = ys) = true := by
          have he := HE.out
          have hl := HL.out
          rw [List.take_of_length_le (by omega), List.take_of_length_le (by omega)] at he
          simpa using he
        have HR : Hid (decide (xs = ys) = true) := hr
        clear hr
        go_wp2
        go_ret
        exact ⟨by rw [HR.out]; rfl, _, rfl⟩
  · have hne : ((xs.length : Int) != ys.length) = true := by simp; omega
    have hr : decide (xs = ys) = false := by
      simp only [decide_eq_false_iff_not]
      intro e
      exact hlen (by rw [e])
    rw [hr]
    have HL : Hid (¬ xs.length = ys.length) := hlen
    clear hlen hr
    go_enter Try.func29, Try.ntmps29
    go_wp2
    go_ret
    exact ⟨rfl, 0, rfl⟩

/-- The marks: the numbers from k on, as bytes. -/
def marks (k : Int) : Nat → List Int
  | 0 => []
  | n + 1 => marks k n ++ [(k + n) % 256]
theorem marks_length (k : Int) (n : Nat) : (marks k n).length = n := by
  induction n with
  | zero => rfl
  | succ n ih => simp [marks, ih]

theorem marks_getD (k : Int) : ∀ {n j : Nat}, j < n → (marks k n).getD j 0 = (k + j) % 256
  | 0, _, h => by omega
  | n + 1, j, h => by
    rw [marks, List.getD_eq_getElem?_getD]
    by_cases e : j < n
    · rw [List.getElem?_append_left (by rw [marks_length]; exact e), ← List.getD_eq_getElem?_getD]
      exact marks_getD k e
    · have : j = n := by omega
      subst this
      rw [List.getElem?_append_right (by rw [marks_length]; exact Nat.le_refl _), marks_length]
      simp

set_option maxHeartbeats 1000000 in
theorem mark_own {ety : Nat} (base : Nat) (v : Value) (xs : List Int) (k : Int) (w : World) (hk : 0 ≤ k) (hk' : k ≤ 1000000000) (hl : xs.length ≤ 1000000000) (h : w.ownsRow base ety 1 v xs.length (xs.map (Value.int .u8))) :
    Calls Try.prog 30 #[v, .int .i64 k] w fun e w' => e = .returned (.int .i64 (k + xs.length)) ∧ w'.ownsRow base ety 1 v xs.length ((marks k xs.length).map (Value.int .u8)) ∧ Below base w w' := by
  obtain ⟨h1, h2⟩ := h
  rcases h2 with ⟨rfl, h0⟩ | ⟨g, cap, cur, rfl, hg, hh, hn, hm, hs, ht⟩
  · have hx : xs = [] := List.eq_nil_of_length_eq_zero h0
    subst hx
    go_enter Try.func30, Try.ntmps30
    go_wp2
    refine wp_loop_rounds 1 ?_
    rw [rounds_succ]
    go_wp2
    go_ret
    exact ⟨by simp, World.ownsRow_nil _ _ _ _, Below.refl _ _⟩
  · unfold maxLen at hm
    go_enter Try.func30, Try.ntmps30
    go_wp2
    go_loopw [1, 5] (fun q i wr => ∃ (j : Nat) (c : Array Value), j ≤ xs.length ∧ i = .int .i64 j ∧ q = .int .i64 (k + j) ∧ wr.heap[g]? = some (.cells c ety (0, 0)) ∧ c.size = cap ∧ c.toList.take j = (marks k j).map (Value.int .u8) ∧ Below base w wr) (fun _ i _ => xs.length - (intOf i).toNat)
    case atStart => exact ⟨0, cur, Nat.zero_le _, rfl, by simp, hh, by omega, rfl, Below.refl _ _⟩
    case round =>
      obtain ⟨j, c, hj, rfl, rfl, hc, hcs, hct, hb⟩ := hrel
      by_cases hlt : j < xs.length
      · have hcell : ∃ x, wr.cell? ⟨g, j, none⟩ = some x := by
          rw [Joins.cell_of_block hc]
          exact ⟨_, Array.getElem?_eq_getElem (by omega)⟩
        obtain ⟨x, hcell⟩ := hcell
        have hfz := Joins.unfrozen_of_block hc j
        go_wp2
        go_roundw
        case rel =>
          refine ⟨j + 1, c.setIfInBounds j (.int .u8 ((k + j) % 256)), by omega, by go_num, by go_num, Joins.block_setCell hc _, by simp [hcs], ?_, hb.setCell hg _⟩
          rw [List.take_succ_eq_append_getElem (by simp; omega)]
          simp only [Array.toList_setIfInBounds, marks, List.map_append, List.map_cons, List.map_nil]
          rw [List.take_set_of_le (Nat.le_refl _), hct]
          simp
        case measure => simp [intOf]; omega
      · have : j = xs.length := by omega
        subst this
        go_wp2
        go_ret
        refine ⟨rfl, ⟨by simp [marks_length], .inr ⟨g, cap, c, rfl, hg, hc, hn, by unfold maxLen; exact hm, by omega, by rw [Nat.mul_one]; exact hct⟩⟩, hb⟩

set_option maxHeartbeats 1000000 in
theorem held_any (v : Value) (k : Int) (n : Nat) (w : World) (hk : 0 ≤ k) (hk' : k ≤ 1000000000) (hl : n ≤ 1000000000) (h : Reads w v (marks k n)) :
    Calls Try.prog 31 #[v, .int .i64 k] w fun e w' => e = .returned (.int .i64 (k + n)) ∧ w' = w := by
  obtain ⟨a, c1, rfl, hc1, hm1, hx⟩ := h
  rw [marks_length] at hx hc1 ⊢
  unfold maxLen at hm1
  go_enter Try.func31, Try.ntmps31
  go_wp2
  go_loop [1, 5] (fun q i => ∃ (j : Nat), j ≤ n ∧ i = .int .i64 j ∧ q = .int .i64 (k + j)) (fun _ i => n - (intOf i).toNat)
  case atStart => exact ⟨0, Nat.zero_le _, rfl, by simp⟩
  case round =>
    obtain ⟨j, hj, rfl, rfl⟩ := hrel
    by_cases hlt : j < n
    · obtain ⟨g1, o1, rfl, hx1⟩ := hx j hlt
      rw [marks_getD k hlt] at hx1
      clear hx
      have hq : ((k + (j : Int)) % 256 != (k + (j : Int)) % 256) = false := by simp
      go_wp2
      go_round
      case rel => exact ⟨j + 1, by omega, by go_num, by go_num⟩
      case measure => simp [intOf]; omega
    · have : j = n := by omega
      subst this
      go_wp2
      go_ret
      exact ⟨rfl, rfl⟩
end Go.Proofs.Ytepagknkhlpicaa
