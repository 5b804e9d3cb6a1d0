/-
  A disk that came in, opened.
-/
import Derived.Test.YtepagknkhlpicaaDiskSz
import Derived.Deep.Slices
namespace Go.Proofs.Ytepagknkhlpicaa
open Go.ChangeShapes Go.WideShapes Go.ChangeAt Go.RowKit Go.Deep
set_option linter.unusedVariables false
set_option linter.unusedSimpArgs false

theorem trod_bytes {H : Type} {enc : TypeId × Value → H} {W : World} {base : Nat} {sp : Nat → Bool} {hd : Bool} {fuel : Nat} {cs : List Value} {x : DataW H × List MemPlace}
    (h : DataW.trod enc Try.prog W base sp hd fuel 22 cs = some x) : ∃ v bs, cs = [v] ∧ RdB W.heap.size W v bs ∧ Byt bs := by
  rcases open_ints Try.underlying22 Try.underlying5 (by kernel_rfl) h with ⟨rfl, _⟩ | ⟨a, len, cap, zs, rfl, _, hl, hm, hz, _, hc, hwz⟩
  · exact ⟨_, [], rfl, ⟨⟨none, 0, rfl, Nat.le_refl _, by unfold maxLen; omega, fun i hi => by simp at hi⟩, fun k hk => by simp [Value.ownBlock] at hk⟩, fun b hb => by simp at hb⟩
  · have hzl : len ≤ zs.length := by rw [hz]; split <;> omega
    have hlen : (zs.take len).length = len := by simp; omega
    refine ⟨_, zs.take len, rfl, ⟨⟨some a, cap, by rw [hlen], by omega, hm, fun i hi => ?_⟩, fun k hk => ?_⟩, fun b hb => ?_⟩
    · have h00 := hc 0 (by omega)
      obtain ⟨b, off, spot⟩ := a
      have hspot : spot = none := by simpa [Addr.add] using World.cell?_spot h00
      subst hspot
      have h0 := hc i (by omega)
      refine ⟨b, off, rfl, ?_⟩
      have e : (zs.take len).getD i 0 = zs.getD i 0 := by
        rw [List.getD_eq_getElem?_getD, List.getD_eq_getElem?_getD, List.getElem?_take_of_lt (by omega)]
      rw [e]
      have ea : (⟨b, off, none⟩ : Addr).add i = ⟨b, off + i, none⟩ := by simp [Addr.add] <;> omega
      rw [ea] at h0
      exact h0
    · by_cases h0 : len = 0
      · exact .inl (by rw [hlen, h0])
      · right
        have h0' := hc 0 (by omega)
        obtain ⟨b, off, spot⟩ := a
        have hspot : spot = none := by simpa [Addr.add] using World.cell?_spot h0'
        subst hspot
        simp [Value.ownBlock] at hk
        subst hk
        exact World.block_lt_of_cell? W _ (by simpa [Addr.add] using h0')
    · have := bounds_u8 (hwz b (List.mem_of_mem_take hb))
      omega

/-- An address of which some cell is there has no spot. -/
theorem addr_of {W : World} {a : Addr} {v : Value} (h : W.cell? (a.add 0) = some v) : ∃ b off, a = ⟨b, off, none⟩ ∧ b < W.heap.size := by
  obtain ⟨b, off, spot⟩ := a
  have hspot : spot = none := by simpa [Addr.add] using World.cell?_spot h
  subst hspot
  exact ⟨b, off, rfl, World.block_lt_of_cell? W _ (by simpa [Addr.add] using h)⟩
theorem add_add' (a : Addr) (i j : Nat) : (a.add i).add j = a.add (i + j) := by
  unfold Addr.add
  by_cases hi : i = 0
  · simp [hi]
  · by_cases hj : j = 0
    · simp [hj]
    · simp [hi, hj, Nat.add_assoc]
theorem add_at (b off i : Nat) : (⟨b, off, none⟩ : Addr).add i = ⟨b, off + i, none⟩ := by simp [Addr.add] <;> omega

set_option maxRecDepth 100000 in
theorem trod_BB {H : Type} {enc : TypeId × Value → H} {W : World} {base : Nat} {sp : Nat → Bool} {hd : Bool} {fuel : Nat} {cs : List Value} {x : DataW H × List MemPlace}
    (h : DataW.trod enc Try.prog W base sp hd fuel 55 cs = some x) : ∃ v L, cs = [v] ∧ RBB W.heap.size W v L ∧ ∀ b ∈ L, Byt b := by
  rcases open_slice1 Try.underlying55 (by kernel_rfl) h with ⟨rfl, _⟩ | ⟨a, len, cap, m, n, V, D, Pl, rfl, _, hl, hm, hmm, _, hx⟩
  · exact ⟨_, [], rfl, ⟨none, 0, rfl, Nat.le_refl _, by unfold maxLen; omega, fun i hi => by simp at hi⟩, fun b hb => by simp at hb⟩
  · have hml : len ≤ m := by rw [hmm]; split <;> omega
    have key : ∀ i, ∃ bs, i < len → (RdB W.heap.size W (V i) bs ∧ Byt bs) := fun i => by
      by_cases hi : i < len
      · obtain ⟨_, h2⟩ := hx i (by omega)
        obtain ⟨v, bs, e, r, hb⟩ := trod_bytes h2
        simp at e
        subst e
        exact ⟨bs, fun _ => ⟨r, hb⟩⟩
      · exact ⟨[], fun h => absurd h hi⟩
    have hf := fun i => Classical.choose_spec (key i)
    refine ⟨_, (List.range len).map (fun i => Classical.choose (key i)), rfl, ⟨some a, cap, by simp, by simp; omega, hm, fun i hi => ?_⟩, fun b hb => ?_⟩
    · have hi' : i < len := by simpa using hi
      obtain ⟨b, off, rfl, hb⟩ := addr_of (hx 0 (by omega)).1
      have hc := (hx i (by omega)).1
      rw [add_at] at hc
      refine ⟨b, off, V i, rfl, hb, hc, ?_⟩
      simpa using (hf i hi').1
    · simp only [List.mem_map, List.mem_range] at hb
      obtain ⟨i, hi, rfl⟩ := hb
      exact (hf i hi).2

end Go.Proofs.Ytepagknkhlpicaa
