/-
  spec.ReadFrame.
-/
import Derived.Test.YtepagknkhlpicabRRRRRead
import Derived.Deep.RegionHeld3
import Derived.Deep.DrawnRows
namespace Go.Proofs.YtepagknkhlpicabRRRR
open Go.ChangeShapes Go.WideShapes Go.ChangeAt Go.RowKit
set_option linter.unusedVariables false
set_option linter.unusedSimpArgs false
attribute [local go_sem ↓] Go.wp_at_zero Go.wp_at_succ

theorem un_drop (xs : List Int) (j : Nat) (h : j < xs.length) : un (xs.drop j) = xs.getD j 0 + 256 * un (xs.drop (j + 1)) := by
  rw [List.drop_eq_getElem_cons h, un, List.getD_eq_getElem?_getD, List.getElem?_eq_getElem h]
  rfl

set_option maxHeartbeats 1000000 in
theorem l1get_any (v : Value) (xs : List Int) (w : World) (hr : Reads w v xs) (hb : Byt xs) (hl : xs.length ≤ 8) :
    Calls Try.prog 37 #[v] w fun e w' => e = .returned (.int .u64 (un xs)) ∧ w' = w := by
  obtain ⟨a, cap, rfl, h1, h2, hx⟩ := hr
  unfold maxLen at h2
  go_enter Try.func37, Try.ntmps37
  go_wp2
  go_loop [3, 4] (fun n i => ∃ (j : Nat) (u : Int), j ≤ xs.length ∧ i = .int .i64 ((j : Int) - 1) ∧ n = .int .u64 u ∧ u = un (xs.drop j)) (fun _ i => (intOf i + 1).toNat)
  case atStart => exact ⟨xs.length, 0, Nat.le_refl _, rfl, rfl, by simp [un]⟩
  case round =>
    obtain ⟨j, u, hj, rfl, rfl, he⟩ := hrel
    have hu := un_bd _ (show Byt (xs.drop j) from fun b h => hb b (List.mem_of_mem_drop h))
    rw [List.length_drop, ← he] at hu
    have HE : Hid (u = un (xs.drop j)) := he
    clear he
    by_cases hlt : 0 < j
    · obtain ⟨m, rfl⟩ : ∃ m, j = m + 1 := ⟨j - 1, by omega⟩
      have hlt' : m < xs.length := by omega
      obtain ⟨g, o, rfl, hc⟩ := hx m hlt'
      have hxm := hb.getD m
      have hp : (2 : Nat) ^ (8 * (xs.length - (m + 1))) ≤ 2 ^ 56 := Nat.pow_le_pow_right (by omega) (by omega)
      have hp2 : ((2 : Int) ^ (8 * (xs.length - (m + 1)))) = (((2 : Nat) ^ (8 * (xs.length - (m + 1))) : Nat) : Int) := by simp
      have hu56 : u < 72057594037927936 := by omega
      have hstep := un_drop xs m hlt'
      rw [← HE.out] at hstep
      have e3 := or_low u (xs.getD m 0) hu.1 (by omega) hxm.1 hxm.2
      generalize xs.getD m 0 = y at hc hxm hstep e3
      have HS : Hid (un (xs.drop m) = y + 256 * u) := hstep
      have H3 : Hid (bits .or .u64 (u * 256) y = u * 256 + y) := e3
      have hu0 := hu.1
      have e4 : ((m + 1 : Nat) : Int) - 1 = (m : Int) := by omega
      rw [e4]
      clear hu hp hp2 hstep e3 hx e4
      go_wp2
      go_round
      case rel => exact ⟨m, _, by omega, rfl, rfl, by rw [H3.out, HS.out, Int.mul_comm, Int.add_comm]⟩
      case measure => simp [intOf] <;> omega
    · have : j = 0 := by omega
      subst this
      go_wp2
      go_ret
      exact ⟨by rw [HE.out]; rfl, rfl⟩

/-- The bytes bs lie from a place on. -/
def Row (w : World) (g o : Nat) (bs : List Int) : Prop := ∀ i, i < bs.length → w.cell? ⟨g, o + i, none⟩ = some (.int .u8 (bs.getD i 0))
theorem Row.below {w w' : World} {g o B : Nat} {bs : List Int} (h : Row w g o bs) (hb : Below B w w') (hg : g < B) : Row w' g o bs := fun i hi => by
  rw [hb.cell (p := ⟨g, o + i, none⟩) hg]; exact h i hi
theorem pad_getD (bs : List Int) : ∀ (n q i : Nat), i < n → (pad bs q n).getD i 0 = bs.getD (q + i) 0
  | 0, _, _, h => by omega
  | n + 1, q, 0, _ => by simp [pad]
  | n + 1, q, i + 1, h => by
    have := pad_getD bs n (q + 1) i (by omega)
    simp only [pad, List.getD_cons_succ, this]
    rw [Nat.add_assoc, Nat.add_comm 1 i]
theorem Row.sub {w : World} {g o : Nat} {bs : List Int} (h : Row w g o bs) (q n c : Nat) (hq : q + n ≤ bs.length) (hc : n ≤ c) (hm : c ≤ maxLen) : Reads w (.slice (some ⟨g, o + q, none⟩) n c) (pad bs q n) := by
  refine ⟨_, c, by rw [pad_length], by rw [pad_length]; exact hc, hm, fun i hi => ?_⟩
  rw [pad_length] at hi
  refine ⟨g, o + q, rfl, ?_⟩
  rw [pad_getD bs n q i hi, Nat.add_assoc]
  exact h (q + i) (by omega)
theorem Row.str {w : World} {g o : Nat} {bs : List Int} (h : Row w g o bs) (q n c : Nat) (hq : q + n ≤ bs.length) : (convert 34 9 (.slice (some ⟨g, o + q, none⟩) n c)).run Try.prog w = .ok (.string (mkS (pad bs q n))) w := by
  refine bytes_to_string w ⟨g, o + q, none⟩ n c (pad bs q n) (pad_length _ _ _) (fun i hi => ?_)
  rw [pad_getD bs n q i hi]
  have e : (⟨g, o + q, none⟩ : Addr).add i = ⟨g, o + (q + i), none⟩ := by simp [Addr.add, Nat.add_assoc] <;> omega
  rw [e]
  exact h (q + i) (by omega)

theorem Row.str0 {w : World} {g o : Nat} {bs : List Int} (h : Row w g o bs) : (convert 34 9 (.slice (some ⟨g, o, none⟩) 0 0)).run Try.prog w = .ok (.string (mkS (pad bs 17 0))) w :=
  bytes_to_string w ⟨g, o, none⟩ 0 0 (pad bs 17 0) rfl (fun i hi => by omega)

theorem Row.strIf {w : World} {g o : Nat} {bs : List Int} (h : Row w g o bs) (n c cap : Nat) (hq : 17 + n ≤ bs.length) (hn : 17 + n ≤ cap) : (convert 34 9 (.slice (if cap = 17 then some ⟨g, o, none⟩ else some ⟨g, o + 17, none⟩) n c)).run Try.prog w = .ok (.string (mkS (pad bs 17 n))) w := by
  by_cases e : cap = 17
  · obtain rfl : n = 0 := by omega
    rw [if_pos e]
    exact bytes_to_string w ⟨g, o, none⟩ 0 c (pad bs 17 0) rfl (fun i hi => by omega)
  · rw [if_neg e]
    exact h.str 17 n c hq

theorem elem22 : Try.prog.underlying 34 = some (.slice (Try.prog.elem 34)) := by kernel_rfl
theorem elemIs : Try.prog.elem 34 = 5 := by kernel_rfl
theorem slice17 (g o len cap n : Nat) (hn : 17 + n ≤ cap) (w : World) : (Instr.slice 34 (.slice (some ⟨g, o, none⟩) len cap) (some (.int .i64 17)) (some (.int .i64 (17 + (n : Int)))) none).run Try.prog w = .ok (.slice (if cap = 17 then some ⟨g, o, none⟩ else some ⟨g, o + 17, none⟩) n (cap - 17)) w := by
  rw [run_slice_lh w 34 (some ⟨g, o, none⟩) len cap elem22 .i64 .i64 17 (17 + (n : Int)) (by omega) (by omega) (by omega), elemIs]
  obtain ⟨i0, hi, hz0, hz1, hz2⟩ := info_parts info5
  have e1 : (17 + (n : Int)).toNat - 17 = n := by omega
  simp [sizeOf, typeInfo, hi, hz1, sliced, e1, Addr.add, go_sem]

theorem alloc2_fst (w : World) (o o' : Obj) : ((w.alloc o).alloc o').heap[w.heap.size]? = some o := by
  rw [Below.heap_alloc _ _ _ (by simp)]
  exact heap_alloc_new w o
theorem alloc2_snd (w : World) (o o' : Obj) : ((w.alloc o).alloc o').heap[w.heap.size + 1]? = some o' := by
  have h := heap_alloc_new (w.alloc o) o'
  have e : (w.alloc o).heap.size = w.heap.size + 1 := by simp
  rw [e] at h
  exact h

theorem l1pad (v : Value) (bs : List Int) (q n : Nat) (w : World) (hr : Reads w v (pad bs q n)) (hb : Byt bs) (hn : n ≤ 8) :
    Calls Try.prog 37 #[v] w fun e w' => e = .returned (.int .u64 (un (pad bs q n))) ∧ w' = w :=
  l1get_any v _ w hr (pad_byt hb _ _) (by rw [pad_length]; exact hn)

end Go.Proofs.YtepagknkhlpicabRRRR
