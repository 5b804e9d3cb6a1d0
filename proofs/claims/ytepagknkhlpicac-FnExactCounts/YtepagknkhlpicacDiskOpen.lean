/-
  A disk that came in, opened.
-/
import Derived.Test.YtepagknkhlpicacDiskSz
import Derived.Deep.Slices
namespace Go.Proofs.Ytepagknkhlpicac
open Go.ChangeShapes Go.WideShapes Go.ChangeAt Go.RowKit Go.Deep
set_option linter.unusedVariables false
set_option linter.unusedSimpArgs false

theorem trod_bytes {H : Type} {enc : TypeId × Value → H} {W : World} {base : Nat} {sp : Nat → Bool} {hd : Bool} {fuel : Nat} {cs : List Value} {x : DataW H × List MemPlace}
    (h : DataW.trod enc Try.prog W base sp hd fuel 63 cs = some x) : ∃ v bs, cs = [v] ∧ RdB W.heap.size W v bs ∧ Byt bs := by
  rcases open_ints Try.underlying63 Try.underlying5 (by kernel_rfl) h with ⟨rfl, _⟩ | ⟨a, len, cap, zs, rfl, _, hl, hm, hz, _, hc, hwz⟩
  · exact ⟨_, [], rfl, ⟨⟨none, 0, rfl, Nat.le_refl _, by unfold maxLen; omega, fun i hi => by simp at hi⟩, fun k hk => by simp [Value.ownBlock] at hk⟩, fun b hb => by simp at hb⟩
  · have hzl : len ≤ zs.length := by rw [hz]; split <;> omega
    have hlen : (zs.take len).length = len := by simp; omega
    refine ⟨_, zs.take len, rfl, ⟨⟨some a, cap, by rw [hlen], by omega, hm, fun i hi => ?_⟩, fun k hk => ?_⟩, fun b hb => ?_⟩
    · have h00 := hc 0 (by omega)
      obtain ⟨b, off, spot⟩ := a
      have hspot : spot = none := by simpa [Addr.add] using World.cell?_spot h00
      subst hspot
      have h0 := hc i (by omega)
      refine ⟨b, off, rfl, ?_⟩
      have e : (zs.take len).getD i 0 = zs.getD i 0 := by
        rw [List.getD_eq_getElem?_getD, List.getD_eq_getElem?_getD, List.getElem?_take_of_lt (by omega)]
      rw [e]
      have ea : (⟨b, off, none⟩ : Addr).add i = ⟨b, off + i, none⟩ := by simp [Addr.add] <;> omega
      rw [ea] at h0
      exact h0
    · by_cases h0 : len = 0
      · exact .inl (by rw [hlen, h0])
      · right
        have h0' := hc 0 (by omega)
        obtain ⟨b, off, spot⟩ := a
        have hspot : spot = none := by simpa [Addr.add] using World.cell?_spot h0'
        subst hspot
        simp [Value.ownBlock] at hk
        subst hk
        exact World.block_lt_of_cell? W _ (by simpa [Addr.add] using h0')
    · have := bounds_u8 (hwz b (List.mem_of_mem_take hb))
      omega

/-- An address of which some cell is there has no spot. -/
theorem addr_of {W : World} {a : Addr} {v : Value} (h : W.cell? (a.add 0) = some v) : ∃ b off, a = ⟨b, off, none⟩ ∧ b < W.heap.size := by
  obtain ⟨b, off, spot⟩ := a
  have hspot : spot = none := by simpa [Addr.add] using World.cell?_spot h
  subst hspot
  exact ⟨b, off, rfl, World.block_lt_of_cell? W _ (by simpa [Addr.add] using h)⟩
theorem add_add' (a : Addr) (i j : Nat) : (a.add i).add j = a.add (i + j) := by
  unfold Addr.add
  by_cases hi : i = 0
  · simp [hi]
  · by_cases hj : j = 0
    · simp [hj]
    · simp [hi, hj, Nat.add_assoc]
theorem add_at (b off i : Nat) : (⟨b, off, none⟩ : Addr).add i = ⟨b, off + i, none⟩ := by simp [Addr.add] <;> omega

end Go.Proofs.Ytepagknkhlpicac
