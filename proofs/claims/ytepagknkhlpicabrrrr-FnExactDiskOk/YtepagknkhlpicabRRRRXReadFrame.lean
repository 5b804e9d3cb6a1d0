/-
  The law FnExactReadFrame.
-/
import Derived.Test.YtepagknkhlpicabRRRRSpecRead
import Derived.Test.YtepagknkhlpicabRRRRXFrame
namespace Go.Proofs.YtepagknkhlpicabRRRR
open Go.ChangeShapes Go.WideShapes Go.ChangeAt Go.RowKit
open Go.ChangeMaps (open_string shut_string)
set_option linter.unusedVariables false
set_option linter.unusedSimpArgs false

theorem Reads.below' {w w' : World} {B : Nat} {v : Value} {bs : List Int} (h : Reads w v bs) (hb : Below B w w') (hv : ∀ k, v.ownBlock = some k → bs.length = 0 ∨ k < B) : Reads w' v bs := by
  obtain ⟨a, cap, rfl, h1, h2, h3⟩ := h
  refine ⟨a, cap, rfl, h1, h2, fun i hi => ?_⟩
  obtain ⟨b, off, rfl, hc⟩ := h3 i hi
  exact ⟨b, off, rfl, by rw [hb.cell (p := ⟨b, off + i, none⟩) (by rcases hv b rfl with h | h; omega; exact h)]; exact hc⟩

set_option maxHeartbeats 1000000 in
theorem toBytes_any (v : Value) (bs : List Int) (w : World) (h : Reads w v bs) (hl : bs.length ≤ 1000000000) (hv : ∀ k, v.ownBlock = some k → bs.length = 0 ∨ k < w.heap.size) :
    Calls Try.prog 21 #[v] w fun e w' => ∃ v', e = .returned v' ∧ w'.ownsRow w.heap.size 5 1 v' bs.length (bs.map (Value.int .u8)) ∧ Below w.heap.size w w' := by
  have HR : Hid (Reads w v bs) := h
  obtain ⟨a, cap, rfl, h1, h2, hx⟩ := h
  have hmk := make_bytes bs.length (bs.length : Int) rfl hl
  unfold maxLen at h2
  go_enter Try.func21, Try.ntmps21
  go_wp2
  go_loopw [4] (fun i wr => ∃ (j : Nat), j ≤ bs.length ∧ i = .int .i64 j ∧ wr.heap[w.heap.size]? = some (.cells ((bs.take j).map (Value.int .u8) ++ List.replicate (bs.length - (bs.take j).length) (Value.int .u8 0)).toArray 5 (0, 0)) ∧ Below w.heap.size w wr) (fun i _ => bs.length - (intOf i).toNat)
  case atStart => exact ⟨0, Nat.zero_le _, rfl, by simpa using heap_alloc_new w (.cells (Array.replicate bs.length (Value.int .u8 0)) 5), (Below.refl _ w).alloc (Nat.le_refl _) _⟩
  case round =>
    obtain ⟨j, hj, rfl, hg, hb⟩ := hrel
    have htl : (bs.take j).length = j := by simp; omega
    by_cases hlt : j < bs.length
    · obtain ⟨g, o, rfl, hc⟩ := hx j hlt
      have hgl : g < w.heap.size := by rcases hv g rfl with h | h; omega; exact h
      have hc' : wr.cell? ⟨g, o + j, none⟩ = some (.int .u8 (bs.getD j 0)) := by rw [hb.cell (p := ⟨g, o + j, none⟩) hgl]; exact hc
      have hfz := Joins.unfrozen_of_block hg j
      have hcl : ∃ x, wr.cell? ⟨w.heap.size, j, none⟩ = some x := by rw [Joins.cell_of_block hg]; exact ⟨_, Array.getElem?_eq_getElem (by simp; omega)⟩
      obtain ⟨x, hcl⟩ := hcl
      have e := set_step (bs.take j) bs.length (bs.getD j 0) (by rw [htl]; exact hlt)
      rw [htl] at e
      have e2 : bs.take j ++ [bs.getD j 0] = bs.take (j + 1) := by
        rw [List.take_succ_eq_append_getElem hlt, List.getD_eq_getElem?_getD, List.getElem?_eq_getElem hlt]; rfl
      rw [e2] at e
      generalize bs.getD j 0 = y at hc' e
      have HE : Hid (_ = _) := e
      have HG : Hid (_ = _) := hg
      have HT : Hid ((bs.take j).length = j) := htl
      clear hx hc hmk e hg e2 htl
      go_wp2
      go_roundw
      case rel =>
        refine ⟨j + 1, by omega, by go_num, ?_, hb.setCell (by simp) _⟩
        rw [Joins.block_setCell HG.out]
        have := HE.out
        rw [HT.out]
        rw [this]
      case measure => simp [intOf]; omega
    · have : j = bs.length := by omega
      subst this
      go_wp2
      go_ret
      rw [List.take_length] at hg
      exact ⟨_, rfl, ⟨by simp, .inr ⟨w.heap.size, bs.length, _, rfl, Nat.le_refl _, hg, Nat.le_refl _, by unfold maxLen; omega, by simp, by simp [List.take_of_length_le]⟩⟩, hb⟩

theorem readV_form (bs : List Int) : ∃ ok t k p n s len, readV bs = frV ok t k p n s len := by
  unfold readV
  split
  · exact ⟨_, _, _, _, _, _, _, rfl⟩
  · exact ⟨_, _, _, _, _, _, _, rfl⟩
theorem own_old {w : World} {base ety : Nat} {v : Value} {n : Nat} {xs : List Value} (h : w.ownsRow base ety 1 v n xs) : ∀ k, v.ownBlock = some k → k < w.heap.size := fun k hk => (h.lt k hk).2

/-- A slice of bytes that came in. -/
def IsRow (w : World) (a : Option Addr) (len cap : Nat) (zs : List Int) : Prop :=
  (a = none ∧ len = 0 ∧ cap = 0 ∧ zs = []) ∨
  ∃ x, a = some x ∧ len ≤ cap ∧ cap ≤ maxLen ∧ zs.length = cap ∧ (∀ i, i < zs.length → w.cell? (x.add i) = some (.int .u8 (zs.getD i 0))) ∧ ∀ n ∈ zs, (Lit.int .u8 n).wf = true

theorem IsRow.reads {w : World} {a : Option Addr} {len cap : Nat} {zs : List Int} (h : IsRow w a len cap zs) : ∃ bs, Reads w (.slice a len cap) bs ∧ Byt bs ∧ bs.length ≤ maxLen ∧ bs.length = len ∧ ∀ k, (Value.slice a len cap).ownBlock = some k → len = 0 ∨ k < w.heap.size := by
  rcases h with ⟨rfl, rfl, rfl, rfl⟩ | ⟨x, rfl, hl, hm, hz, hc, hwz⟩
  · exact ⟨[], ⟨none, 0, rfl, Nat.le_refl _, by unfold maxLen; omega, fun i hi => by simp at hi⟩, fun b hb => by simp at hb, by simp [maxLen], rfl, fun k hk => by simp [Value.ownBlock] at hk⟩
  · have hlen : (zs.take len).length = len := by simp; omega
    refine ⟨zs.take len, ⟨some x, cap, by rw [hlen], by omega, hm, fun i hi => ?_⟩, fun b hb => ?_, by omega, hlen, fun k hk => ?_⟩
    · have h00 := hc 0 (by omega)
      obtain ⟨b, off, spot⟩ := x
      have hspot : spot = none := by simpa [Addr.add] using World.cell?_spot h00
      subst hspot
      have h0 := hc i (by omega)
      refine ⟨b, off, rfl, ?_⟩
      have e : (zs.take len).getD i 0 = zs.getD i 0 := by
        rw [List.getD_eq_getElem?_getD, List.getD_eq_getElem?_getD, List.getElem?_take_of_lt (by omega)]
      rw [e]
      have ea : (⟨b, off, none⟩ : Addr).add i = ⟨b, off + i, none⟩ := by simp [Addr.add] <;> omega
      rw [ea] at h0
      exact h0
    · have := bounds_u8 (hwz b (List.mem_of_mem_take hb))
      omega
    · by_cases h0 : len = 0
      · exact .inl h0
      · right
        have h0' := hc 0 (by omega)
        obtain ⟨b, off, spot⟩ := x
        have hspot : spot = none := by simpa [Addr.add] using World.cell?_spot h0'
        subst hspot
        simp [Value.ownBlock] at hk
        subst hk
        exact World.block_lt_of_cell? w _ (by simpa [Addr.add] using h0')

end Go.Proofs.YtepagknkhlpicabRRRR
