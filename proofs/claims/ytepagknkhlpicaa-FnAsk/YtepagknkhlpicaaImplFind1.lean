/-
  impl.Find's filters: what each closure answers, and how they are made.
-/
import Derived.Test.YtepagknkhlpicaaWFind
import Derived.Test.YtepagknkhlpicaaHasLib
import Derived.Test.YtepagknkhlpicaaShelf
namespace Go.Proofs.Ytepagknkhlpicaa
open Go.ChangeShapes Go.WideShapes Go.ChangeAt Go.RowKit Go.Deep
set_option linter.unusedVariables false
set_option linter.unusedSimpArgs false

theorem kept_cell {w w' : World} {b o : Nat} {v : Value} (h : w.cell? ⟨b, o, none⟩ = some v) (hb : Below w.heap.size w w') : w'.cell? ⟨b, o, none⟩ = some v := by
  rw [hb.cell (p := ⟨b, o, none⟩) (World.block_lt_of_cell? w _ h)]; exact h

theorem beq_sw (a b : Int) : (a == b) = (b == a) := BEq.comm

set_option maxHeartbeats 1000000 in
theorem tick1 (d : ND) (lo hi : Int) (b1 b2 : Nat) (w : World) (h0 : w.cell? ⟨b1, 0, none⟩ = some (.int .i64 lo)) (h1 : w.cell? ⟨b2, 0, none⟩ = some (.int .i64 hi)) :
    Calls Try.prog 83 #[.agg #[.int .i64 d.t, .int .i64 d.k, .int .i64 d.p, .int .i64 d.n, .string d.s], .pointer (some ⟨b1, 0, none⟩), .pointer (some ⟨b2, 0, none⟩)] w fun e w' => e = .returned (.bool (decide (lo ≤ d.t) && decide (d.t ≤ hi))) ∧ Below w.heap.size w w' := by
  have h0' : ∀ o, (w.alloc o).cell? ⟨b1, 0, none⟩ = some (.int .i64 lo) := fun o => kept_cell h0 ((Below.refl _ w).alloc (Nat.le_refl _) o)
  have h1' : ∀ o, (w.alloc o).cell? ⟨b2, 0, none⟩ = some (.int .i64 hi) := fun o => kept_cell h1 ((Below.refl _ w).alloc (Nat.le_refl _) o)
  by_cases e1 : lo ≤ d.t <;> by_cases e2 : d.t ≤ hi
  all_goals
    go_enter Try.func83, Try.ntmps83
    go_wp2
    go_ret
    exact ⟨by simp [e1, e2], (Below.refl _ _).alloc (Nat.le_refl _) _⟩

set_option maxHeartbeats 1000000 in
theorem kind1 (d : ND) (k : Int) (b1 : Nat) (w : World) (h0 : w.cell? ⟨b1, 0, none⟩ = some (.int .i64 k)) :
    Calls Try.prog 84 #[.agg #[.int .i64 d.t, .int .i64 d.k, .int .i64 d.p, .int .i64 d.n, .string d.s], .pointer (some ⟨b1, 0, none⟩)] w fun e w' => e = .returned (.bool ((k == -1) || (k == d.k))) ∧ Below w.heap.size w w' := by
  have h0' : ∀ o, (w.alloc o).cell? ⟨b1, 0, none⟩ = some (.int .i64 k) := fun o => kept_cell h0 ((Below.refl _ w).alloc (Nat.le_refl _) o)
  by_cases e1 : k = -1 <;> by_cases e2 : d.k = k
  all_goals
    go_enter Try.func84, Try.ntmps84
    go_wp2
    go_ret
    exact ⟨by first | (rw [beq_sw d.k k]; done) | (rw [beq_sw k d.k]; done) | (subst_vars; simp; done) | (simp [e1, e2]; done) | (simp [e1, e2]; rw [beq_sw d.k k]), (Below.refl _ _).alloc (Nat.le_refl _) _⟩

set_option maxHeartbeats 1000000 in
theorem who1 (d : ND) (k : Int) (b1 : Nat) (w : World) (h0 : w.cell? ⟨b1, 0, none⟩ = some (.int .i64 k)) :
    Calls Try.prog 85 #[.agg #[.int .i64 d.t, .int .i64 d.k, .int .i64 d.p, .int .i64 d.n, .string d.s], .pointer (some ⟨b1, 0, none⟩)] w fun e w' => e = .returned (.bool ((k == -1) || (k == d.p))) ∧ Below w.heap.size w w' := by
  have h0' : ∀ o, (w.alloc o).cell? ⟨b1, 0, none⟩ = some (.int .i64 k) := fun o => kept_cell h0 ((Below.refl _ w).alloc (Nat.le_refl _) o)
  by_cases e1 : k = -1 <;> by_cases e2 : d.p = k
  all_goals
    go_enter Try.func85, Try.ntmps85
    go_wp2
    go_ret
    exact ⟨by first | (rw [beq_sw d.p k]; done) | (rw [beq_sw k d.p]; done) | (subst_vars; simp; done) | (simp [e1, e2]; done) | (simp [e1, e2]; rw [beq_sw d.p k]), (Below.refl _ _).alloc (Nat.le_refl _) _⟩

theorem Grd.cell {w : World} (h : Grd w) : ∃ m, w.cell? ⟨0, 0, none⟩ = some (.int .i64 m) := by
  obtain ⟨W0, h1, h2⟩ := h
  obtain ⟨m, hm⟩ := Try.laysM144.s1_3 W0 h1
  exact ⟨m, by rw [h2.cell (p := ⟨0, 0, none⟩) (World.block_lt_of_cell? W0 _ hm)]; exact hm⟩

set_option maxHeartbeats 1000000 in
theorem part1 (d : ND) (part : ByteArray) (b : Nat) (w : World) (hg : Grd w) (hs : d.s.size ≤ 1000000000) (h4 : w.cell? ⟨b, 0, none⟩ = some (.string part)) :
    Calls Try.prog 86 #[.agg #[.int .i64 d.t, .int .i64 d.k, .int .i64 d.p, .int .i64 d.n, .string d.s], .pointer (some ⟨b, 0, none⟩)] w fun e w' => e = .returned (.bool (hasB d.s part)) ∧ Below w.heap.size w w' := by
  have bA : Below w.heap.size w (w.alloc (.cells #[.int .i64 d.t, .int .i64 d.k, .int .i64 d.p, .int .i64 d.n, .string d.s] 26)) := (Below.refl _ w).alloc (Nat.le_refl _) _
  have h4' : ∀ o, (w.alloc o).cell? ⟨b, 0, none⟩ = some (.string part) := fun o => kept_cell h4 ((Below.refl _ w).alloc (Nat.le_refl _) o)
  obtain ⟨m, hm⟩ := (hg.below bA).cell
  go_enter Try.func86, Try.ntmps86
  go_wp2_with fail
  refine (Try.strings_Contains _ _ m _ (by omega) hm).mono ?_; rintro e w1 ⟨rfl, rfl⟩
  rw [contains_hasB]
  go_wp2
  go_ret
  exact ⟨rfl, bA⟩

set_option maxHeartbeats 1000000 in
theorem tickWithin_any (lo hi : Int) (w : World) : Calls Try.prog 60 #[.int .i64 lo, .int .i64 hi] w fun e w' => ∃ p q : Nat, e = .returned (.func (.func 83) #[] #[.pointer (some ⟨p, 0, none⟩), .pointer (some ⟨q, 0, none⟩)]) ∧ w'.cell? ⟨p, 0, none⟩ = some (.int .i64 lo) ∧ w'.cell? ⟨q, 0, none⟩ = some (.int .i64 hi) ∧ Below w.heap.size w w' := by
  go_enter Try.func60, Try.ntmps60
  go_wp2
  go_ret
  exact ⟨w.heap.size, w.heap.size + 1, rfl, by simp [go_sem], by simp [go_sem], ((Below.refl _ w).alloc (Nat.le_refl _) _).alloc (by simp) _⟩

set_option maxHeartbeats 1000000 in
theorem ofKind_any (k : Int) (w : World) : Calls Try.prog 61 #[.int .i64 k] w fun e w' => ∃ p : Nat, e = .returned (.func (.func 84) #[] #[.pointer (some ⟨p, 0, none⟩)]) ∧ w'.cell? ⟨p, 0, none⟩ = some (.int .i64 k) ∧ Below w.heap.size w w' := by
  go_enter Try.func61, Try.ntmps61
  go_wp2
  go_ret
  exact ⟨w.heap.size, rfl, by simp [go_sem], (Below.refl _ w).alloc (Nat.le_refl _) _⟩

set_option maxHeartbeats 1000000 in
theorem ofWho_any (k : Int) (w : World) : Calls Try.prog 62 #[.int .i64 k] w fun e w' => ∃ p : Nat, e = .returned (.func (.func 85) #[] #[.pointer (some ⟨p, 0, none⟩)]) ∧ w'.cell? ⟨p, 0, none⟩ = some (.int .i64 k) ∧ Below w.heap.size w w' := by
  go_enter Try.func62, Try.ntmps62
  go_wp2
  go_ret
  exact ⟨w.heap.size, rfl, by simp [go_sem], (Below.refl _ w).alloc (Nat.le_refl _) _⟩

set_option maxHeartbeats 1000000 in
theorem withPart_any (k : ByteArray) (w : World) : Calls Try.prog 63 #[.string k] w fun e w' => ∃ p : Nat, e = .returned (.func (.func 86) #[] #[.pointer (some ⟨p, 0, none⟩)]) ∧ w'.cell? ⟨p, 0, none⟩ = some (.string k) ∧ Below w.heap.size w w' := by
  go_enter Try.func63, Try.ntmps63
  go_wp2
  go_ret
  exact ⟨w.heap.size, rfl, by simp [go_sem], (Below.refl _ w).alloc (Nat.le_refl _) _⟩

set_option maxHeartbeats 1000000 in
theorem every_any (a : Option Addr) (n c : Nat) (w : World) : Calls Try.prog 59 #[.slice a n c] w fun e w' => ∃ p : Nat, e = .returned (.func (.func 82) #[] #[.pointer (some ⟨p, 0, none⟩)]) ∧ w'.cell? ⟨p, 0, none⟩ = some (.slice a n c) ∧ Below w.heap.size w w' := by
  go_enter Try.func59, Try.ntmps59
  go_wp2
  go_ret
  exact ⟨w.heap.size, rfl, by simp [go_sem], (Below.refl _ w).alloc (Nat.le_refl _) _⟩

end Go.Proofs.Ytepagknkhlpicaa
