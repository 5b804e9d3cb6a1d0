/-
  The laws' wBytes.
-/
import Derived.Test.YtepagknkhlpicaaXReadFrame
namespace Go.Proofs.Ytepagknkhlpicaa
open Go.ChangeShapes Go.WideShapes Go.ChangeAt Go.RowKit
open Go.ChangeMaps (open_string shut_string)
set_option linter.unusedVariables false
set_option linter.unusedSimpArgs false

set_option maxHeartbeats 1000000 in
theorem wBytes_any (v1 v2 : Value) (xs ys : List Int) (w : World) (h1 : Reads w v1 xs) (h2 : Reads w v2 ys) (hl1 : xs.length ≤ 1000000000) (hl2 : ys.length ≤ 1000000000) :
    Calls Try.prog 12 #[v1, v2] w fun e w' => e = .returned (.bool (decide (xs = ys))) ∧ ∃ n, w' = w.drewN n := by
  obtain ⟨a, c1, rfl, hc1, hm1, hx⟩ := h1
  obtain ⟨b, c2, rfl, hc2, hm2, hy⟩ := h2
  unfold maxLen at hm1 hm2
  by_cases hlen : xs.length = ys.length
  · have hne : ((xs.length : Int) != ys.length) = false := by simp [hlen]
    go_enter Try.func12, Try.ntmps12
    go_wp2
    go_loopw [5, 13] (fun _ i wr => ∃ (j n : Nat), j ≤ xs.length ∧ i = .int .i64 j ∧ xs.take j = ys.take j ∧ wr = w.drewN n) (fun _ i _ => xs.length - (intOf i).toNat)
    case atStart => exact ⟨0, 0, Nat.zero_le _, rfl, rfl, rfl⟩
    case round =>
      obtain ⟨j, m, hj, rfl, he, rfl⟩ := hrel
      have HE : Hid (xs.take j = ys.take j) := he
      have HL : Hid (xs.length = ys.length) := hlen
      clear he hlen
      by_cases hlt : j < xs.length
      · obtain ⟨g1, o1, rfl, hx1⟩ := hx j hlt
        obtain ⟨g2, o2, rfl, hy1⟩ := hy j (by rw [← HL.out]; exact hlt)
        have hlt2 : j < ys.length := by rw [← HL.out]; exact hlt
        have hts := take_eq_succ hlt hlt2 HE.out
        generalize xs.getD j 0 = x at hx1 hts
        generalize ys.getD j 0 = y at hy1 hts
        have HT : Hid (xs.take (j + 1) = ys.take (j + 1) ↔ x = y) := hts
        clear hts hx hy
        by_cases hq : x = y
        · subst hq
          have hq' : (x != x) = false := by simp
          go_wp2
          go_quiet (fail)
          go_wp2
          go_roundw
          case rel => exact ⟨j + 1, _, by omega, by go_num, HT.out.2 (by simp), rfl⟩
          case measure => simp [intOf]; omega
        · have hq' : (x != y) = true := by simp [hq]
          have hr : decide (xs = ys) = false := by
            simp only [decide_eq_false_iff_not]
            intro e
            exact hq (HT.out.1 (by rw [e]))
          have HR : Hid (decide (xs = ys) = false) := hr
          have HQ : Hid (¬ x = y) := hq
          clear hq hr
          go_wp2
          go_quiet (fail)
          go_wp2
          go_ret
          exact ⟨by rw [HR.out]; rfl, m + nq, by simp⟩
      · have hr : decide (xs = ys) = true := by
          have he := HE.out
          have hl := HL.out
          rw [List.take_of_length_le (by omega), List.take_of_length_le (by omega)] at he
          simpa using he
        have HR : Hid (decide (xs = ys) = true) := hr
        have hlt2 : ¬ j < ys.length := by have := HL.out; omega
        clear hr
        go_wp2
        go_ret
        exact ⟨by rw [HR.out]; rfl, _, rfl⟩
  · have hne : ((xs.length : Int) != ys.length) = true := by simp; omega
    have hr : decide (xs = ys) = false := by
      simp only [decide_eq_false_iff_not]
      intro e
      exact hlen (by rw [e])
    rw [hr]
    have HL : Hid (¬ xs.length = ys.length) := hlen
    clear hlen hr
    go_enter Try.func12, Try.ntmps12
    go_wp2
    go_ret
    exact ⟨rfl, 0, rfl⟩


end Go.Proofs.Ytepagknkhlpicaa
