/-
  Blocks as arrays: list, sum.
-/
import Derived.Test.YtepagknkhlpicaaWriter
import Derived.Deep.WholeRow
namespace Go.Proofs.Ytepagknkhlpicaa
open Go.ChangeShapes Go.WideShapes Go.ChangeAt Go.RowKit
set_option linter.unusedVariables false
set_option linter.unusedSimpArgs false

theorem list_any (c : Array Value) (w : World) (hc : c.size = 64) :
    Calls Try.prog 53 #[.agg c] w fun e w' => e = .returned (.slice (some ⟨w.heap.size, 0, none⟩) 64 64) ∧ w' = w.alloc (.cells c 86) := by
  go_enter Try.func53, Try.ntmps53
  go_wp2
  go_ret
  exact ⟨rfl, rfl⟩

theorem run_index_cell {P : Program} (t e : TypeId) (n j : Nat) (cs : Array Value) (k : IntKind) (v : Value) (w : World) (hu : P.underlying t = some (.array n e)) (ha : ∀ w, (isAgg e).run P w = .ok false w) (hz : ∀ w, (sizeOf e).run P w = .ok 1 w) (hj : j < n) (hv : cs[j]? = some v) :
    (Instr.index t (.agg cs) (.int k j)).run P w = .ok v w := by
  have h1 : (0 : Int) ≤ (j : Int) ∧ (j : Int) < (n : Int) := by omega
  simp [Instr.index, run_underlying hu, asIntOf, h1, go_sem, hz, part, ha, hv, hj]
theorem run_index_agg {P : Program} (t e : TypeId) (n m j : Nat) (cs : Array Value) (k : IntKind) (w : World) (hu : P.underlying t = some (.array n e)) (ha : ∀ w, (isAgg e).run P w = .ok true w) (hz : ∀ w, (sizeOf e).run P w = .ok m w) (hj : j < n) :
    (Instr.index t (.agg cs) (.int k j)).run P w = .ok (.agg (cs.extract (j * m) (j * m + m))) w := by
  have h1 : (0 : Int) ≤ (j : Int) ∧ (j : Int) < (n : Int) := by omega
  simp [Instr.index, run_underlying hu, asIntOf, h1, go_sem, hz, part, ha, hj]
theorem wpList_index {P : Program} {ops : Array Oper} {rest : List Oper} {o : Oper} {a : Act} {w : World} {Q : Exit → Act → World → Prop} (hgd : o.guard = none) (t : TypeId) (x ix : Operand) (ho : o.op = .index t x ix)
    (xv iv v : Value) (hx : a.eval x = xv) (hix : a.eval ix = iv) (hr : (Instr.index t xv iv).run P w = .ok v w)
    (h : wpList P ops Q rest (a.put o.dst v) w) : wpList P ops Q (o :: rest) a w :=
  wpList_plain hgd fun K hK => by
    unfold Oper.wp execOp
    simp only [ho, hx, hix, hr, Result.andThen_ok, Sem.run_bind]
    exact hK _ _ h
/-- A new variable of a type of many cells. -/
theorem wpList_alloc_row {P : Program} {ops : Array Oper} {rest : List Oper} {o : Oper} {a : Act} {w : World} {Q : Exit → Act → World → Prop} (hgd : o.guard = none) (ty : TypeId) (ho : o.op = .alloc ty)
    (z : Array Value) (hz : ∀ w, (zeroValue ty).run P w = .ok (.agg z) w)
    (h : wpList P ops Q rest (a.put o.dst (.pointer (some ⟨w.heap.size, 0, none⟩))) (w.alloc (.cells z ty))) : wpList P ops Q (o :: rest) a w :=
  wpList_plain hgd fun K hK => by
    unfold Oper.wp execOp
    simp only [ho, Instr.alloc, newVar, newRow, hz, Result.andThen_ok, Sem.run_bind, Value.cells, go_sem]
    exact hK _ _ h
theorem setRow_self {w : World} {g : Nat} {cs : Array Value} {t : TypeId} {fr : Nat × Nat} (hg : w.heap[g]? = some (.cells cs t fr)) : w.setRow g cs = w := by
  have hlt : g < w.heap.size := (Array.getElem?_eq_some_iff.1 hg).1
  have hv : w.heap[g] = .cells cs t fr := (Array.getElem?_eq_some_iff.1 hg).2
  unfold World.setRow
  cases w with
  | mk heap tape drawn os output =>
    congr 1
    apply Array.ext
    · simp
    · intro k h1 h2
      simp only [Array.getElem_modify]
      split
      · rename_i hk; subst hk; simp at hv; simp [hv]
      · rfl
/-- What lies there already is stored once more. -/
theorem wpList_store_same {P : Program} {ops : Array Oper} {rest : List Oper} {o : Oper} {a : Act} {w : World} {Q : Exit → Act → World → Prop} (hgd : o.guard = none) (ty : TypeId) (x y : Operand) (ho : o.op = .store ty x y)
    (g : Nat) (hx : a.eval x = .pointer (some ⟨g, 0, none⟩)) (t : TypeId) (cs : Array Value) (hy : a.eval y = .agg cs) (hg : w.heap[g]? = some (.cells cs t (0, 0)))
    (hi : (P.info? ty).map (·.size) = some cs.size) (h1 : cs.all (·.oneCell') = true) (h : wpList P ops Q rest (a.put o.dst undef) w) : wpList P ops Q (o :: rest) a w := by
  refine wpList_store_row hgd ty x y ho g cs hx hy t cs hg hi rfl h1 ?_
  rw [setRow_self hg]
  exact h
/-- Two results, the first in a block. -/
theorem results_cell_tmp' {P : Program} {fn : Func} {p q : Tmp} {ty : TypeId} (h : fn.results = #[.cell p ty, .tmp q]) (tmps : Array Value) (w : World) (g : Nat) (t : TypeId) (cs : Array Value) (fr : Nat × Nat) (d : TypeDesc)
    (hp : tmps.getD p undef = .pointer (some ⟨g, 0, none⟩)) (hg : w.heap[g]? = some (.cells cs t fr))
    (hu : P.underlying ty = some d) (hd : (match d with | .struct _ | .array _ _ => true | _ => false) = true) (hi : (P.info? ty).map (·.size) = some cs.size) :
    (results fn tmps).run P w = .ok (.tuple #[.agg cs, tmps.getD q undef]) w := by
  have hp' : tmps[p]?.getD undef = .pointer (some ⟨g, 0, none⟩) := by simpa using hp
  simp [results, h, hp', asAddr, run_loadVar_row w g t ty cs fr d hg hu hd hi]

theorem sz76 : (Try.prog.info? 86).map (·.size) = some 64 := by kernel_rfl

theorem sum_take (bs : List Int) (j : Nat) (h : j < bs.length) : (bs.take (j + 1)).sum = (bs.take j).sum + bs[j] := by
  rw [List.take_succ_eq_append_getElem h, List.sum_append]
  simp

set_option maxHeartbeats 1000000 in
theorem sum_any (c : Array Value) (bs : List Int) (w : World) (hc : c = (bs.map (Value.int .u8)).toArray) (hl : bs.length = 64) :
    Calls Try.prog 81 #[.agg c] w fun e w' => e = .returned (.int .u8 (bs.sum % 256)) ∧ Below w.heap.size w w' := by
  have hcs : c.size = 64 := by rw [hc]; simpa using hl
  have hci : ∀ (j : Nat) (h : j < bs.length), c[j]? = some (.int .u8 bs[j]) := fun j h => by rw [hc]; simp [h]
  clear hc
  have HL : Hid (bs.length = 64) := hl
  have HCI : Hid (∀ (j : Nat) (h : j < bs.length), c[j]? = some (.int .u8 bs[j])) := hci
  clear hl hci
  have hg := heap_alloc_new w (.cells c 86)
  have hb := (Below.refl _ w).alloc (Nat.le_refl _) (.cells c 86)
  go_enter Try.func81, Try.ntmps81
  go_wp2_with (refine wpList_load_row rfl 86 _ rfl w.heap.size rfl 86 c (0, 0) _ hg Try.underlying86 rfl (by rw [hcs]; exact sz76) ?_)
  go_loop [3, 5, 7] (fun q _ i => ∃ (j : Nat), j ≤ 64 ∧ i = .int .i64 j ∧ q = .int .u8 ((bs.take j).sum % 256)) (fun _ _ i => 64 - (intOf i).toNat)
  case atStart => exact ⟨0, Nat.zero_le _, rfl, by simp⟩
  case round =>
    obtain ⟨j, hj, rfl, rfl⟩ := hrel
    by_cases hlt : j < 64
    · have hjl : j < bs.length := by rw [HL.out]; exact hlt
      have hcj : c[j]? = some (.int .u8 bs[j]) := HCI.out j hjl
      have HS : Hid ((bs.take (j + 1)).sum = (bs.take j).sum + bs[j]) := sum_take bs j hjl
      generalize bs[j] = x at hcj HS
      generalize hS : (bs.take j).sum = S at HS
      have e1 : (S % 256 + x) % 256 = (S + x) % 256 := by omega
      clear hjl hS
      go_wp2_with (refine wpList_index rfl 86 _ _ rfl (.agg c) (.int .i64 j) (.int .u8 x) rfl rfl (run_index_cell _ _ 64 j c _ _ _ Try.underlying86 Try.isAgg5 Try.sizeOf5 hlt hcj) ?_)
      go_round
      case rel => exact ⟨j + 1, by omega, by go_num, by rw [HS.out]; go_num⟩
      case measure => simp [intOf]; omega
    · have : j = 64 := by omega
      subst this
      go_wp2
      go_ret
      refine ⟨?_, hb⟩
      rw [← HL.out, List.take_length]
      rfl
end Go.Proofs.Ytepagknkhlpicaa
