/-
  A disk that came in, opened.
-/
import Derived.Test.YtepagknkhlpicabRRRRDiskSz
import Derived.Deep.Slices
namespace Go.Proofs.YtepagknkhlpicabRRRR
open Go.ChangeShapes Go.WideShapes Go.ChangeAt Go.RowKit Go.Deep
set_option linter.unusedVariables false
set_option linter.unusedSimpArgs false

theorem trod_bytes {H : Type} {enc : TypeId × Value → H} {W : World} {base : Nat} {sp : Nat → Bool} {hd : Bool} {fuel : Nat} {cs : List Value} {x : DataW H × List MemPlace}
    (h : DataW.trod enc Try.prog W base sp hd fuel 34 cs = some x) : ∃ v bs, cs = [v] ∧ RdB W.heap.size W v bs ∧ Byt bs := by
  rcases open_ints Try.underlying34 Try.underlying5 (by kernel_rfl) h with ⟨rfl, _⟩ | ⟨a, len, cap, zs, rfl, _, hl, hm, hz, _, hc, hwz⟩
  · exact ⟨_, [], rfl, ⟨⟨none, 0, rfl, Nat.le_refl _, by unfold maxLen; omega, fun i hi => by simp at hi⟩, fun k hk => by simp [Value.ownBlock] at hk⟩, fun b hb => by simp at hb⟩
  · have hzl : len ≤ zs.length := by rw [hz]; split <;> omega
    have hlen : (zs.take len).length = len := by simp; omega
    refine ⟨_, zs.take len, rfl, ⟨⟨some a, cap, by rw [hlen], by omega, hm, fun i hi => ?_⟩, fun k hk => ?_⟩, fun b hb => ?_⟩
    · have h00 := hc 0 (by omega)
      obtain ⟨b, off, spot⟩ := a
      have hspot : spot = none := by simpa [Addr.add] using World.cell?_spot h00
      subst hspot
      have h0 := hc i (by omega)
      refine ⟨b, off, rfl, ?_⟩
      have e : (zs.take len).getD i 0 = zs.getD i 0 := by
        rw [List.getD_eq_getElem?_getD, List.getD_eq_getElem?_getD, List.getElem?_take_of_lt (by omega)]
      rw [e]
      have ea : (⟨b, off, none⟩ : Addr).add i = ⟨b, off + i, none⟩ := by simp [Addr.add] <;> omega
      rw [ea] at h0
      exact h0
    · by_cases h0 : len = 0
      · exact .inl (by rw [hlen, h0])
      · right
        have h0' := hc 0 (by omega)
        obtain ⟨b, off, spot⟩ := a
        have hspot : spot = none := by simpa [Addr.add] using World.cell?_spot h0'
        subst hspot
        simp [Value.ownBlock] at hk
        subst hk
        exact World.block_lt_of_cell? W _ (by simpa [Addr.add] using h0')
    · have := bounds_u8 (hwz b (List.mem_of_mem_take hb))
      omega

/-- An address of which some cell is there has no spot. -/
theorem addr_of {W : World} {a : Addr} {v : Value} (h : W.cell? (a.add 0) = some v) : ∃ b off, a = ⟨b, off, none⟩ ∧ b < W.heap.size := by
  obtain ⟨b, off, spot⟩ := a
  have hspot : spot = none := by simpa [Addr.add] using World.cell?_spot h
  subst hspot
  exact ⟨b, off, rfl, World.block_lt_of_cell? W _ (by simpa [Addr.add] using h)⟩
theorem add_add' (a : Addr) (i j : Nat) : (a.add i).add j = a.add (i + j) := by
  unfold Addr.add
  by_cases hi : i = 0
  · simp [hi]
  · by_cases hj : j = 0
    · simp [hj]
    · simp [hi, hj, Nat.add_assoc]
theorem add_at (b off i : Nat) : (⟨b, off, none⟩ : Addr).add i = ⟨b, off + i, none⟩ := by simp [Addr.add] <;> omega

set_option maxRecDepth 100000 in
theorem trod_BB {H : Type} {enc : TypeId × Value → H} {W : World} {base : Nat} {sp : Nat → Bool} {hd : Bool} {fuel : Nat} {cs : List Value} {x : DataW H × List MemPlace}
    (h : DataW.trod enc Try.prog W base sp hd fuel 22 cs = some x) : ∃ v L, cs = [v] ∧ RBB W.heap.size W v L ∧ ∀ b ∈ L, Byt b := by
  rcases open_slice1 Try.underlying22 (by kernel_rfl) h with ⟨rfl, _⟩ | ⟨a, len, cap, m, n, V, D, Pl, rfl, _, hl, hm, hmm, _, hx⟩
  · exact ⟨_, [], rfl, ⟨none, 0, rfl, Nat.le_refl _, by unfold maxLen; omega, fun i hi => by simp at hi⟩, fun b hb => by simp at hb⟩
  · have hml : len ≤ m := by rw [hmm]; split <;> omega
    have key : ∀ i, ∃ bs, i < len → (RdB W.heap.size W (V i) bs ∧ Byt bs) := fun i => by
      by_cases hi : i < len
      · obtain ⟨_, h2⟩ := hx i (by omega)
        obtain ⟨v, bs, e, r, hb⟩ := trod_bytes h2
        simp at e
        subst e
        exact ⟨bs, fun _ => ⟨r, hb⟩⟩
      · exact ⟨[], fun h => absurd h hi⟩
    have hf := fun i => Classical.choose_spec (key i)
    refine ⟨_, (List.range len).map (fun i => Classical.choose (key i)), rfl, ⟨some a, cap, by simp, by simp; omega, hm, fun i hi => ?_⟩, fun b hb => ?_⟩
    · have hi' : i < len := by simpa using hi
      obtain ⟨b, off, rfl, hb⟩ := addr_of (hx 0 (by omega)).1
      have hc := (hx i (by omega)).1
      rw [add_at] at hc
      refine ⟨b, off, V i, rfl, hb, hc, ?_⟩
      simpa using (hf i hi').1
    · simp only [List.mem_map, List.mem_range] at hb
      obtain ⟨i, hi, rfl⟩ := hb
      exact (hf i hi).2

set_option maxRecDepth 100000 in
theorem trod_WW {H : Type} {enc : TypeId × Value → H} {W : World} {base : Nat} {sp : Nat → Bool} {hd : Bool} {fuel : Nat} {cs : List Value} {x : DataW H × List MemPlace}
    (h : DataW.trod enc Try.prog W base sp hd fuel 23 cs = some x) : ∃ v L, cs = [v] ∧ RWW W.heap.size W v L ∧ ∀ d ∈ L, Byt d.bs := by
  have c2 : Try.prog.cellsOf 69 = 2 := by kernel_rfl
  have cI : Try.prog.cellsOf 3 = 1 := by kernel_rfl
  have cS : Try.prog.cellsOf 34 = 1 := by kernel_rfl
  rcases open_slice Try.underlying23 h with ⟨rfl, _⟩ | ⟨a, len, cap, m, n, D, Pl, rfl, _, hl, hm, hmm, _, hx⟩
  · exact ⟨_, [], rfl, ⟨none, 0, rfl, Nat.le_refl _, by unfold maxLen; omega, fun i hi => by simp at hi⟩, fun b hb => by simp at hb⟩
  · have hml : len ≤ m := by rw [hmm]; split <;> omega
    rw [c2] at hx
    have key : ∀ i, ∃ p : WD × Value, i < len → (W.cell? (a.add (i * 2)) = some (.int .i64 p.1.blk) ∧ W.cell? (a.add (i * 2 + 1)) = some p.2 ∧ RdB W.heap.size W p.2 p.1.bs ∧ Byt p.1.bs) := fun i => by
      by_cases hi : i < len
      · obtain ⟨cs', h1, h2⟩ := hx i (by omega)
        obtain ⟨_, hl2, hcc⟩ := World.cells?_some h1
        obtain ⟨xs, m', rfl, _, _, hxl, hxf⟩ := DataW.trod_struct Try.underlying69 h2
        match cs', hl2 with
        | [c0, c1], _ =>
          have f0 := hxf 0 _ rfl
          have f1 := hxf 1 _ rfl
          match xs, hxl with
          | [x0, x1], _ =>
            obtain ⟨t, e0, _, _⟩ := DataW.trod_int Try.underlying3 f0
            obtain ⟨v, bs, e1, r, hb⟩ := trod_bytes f1
            simp [cI, cS] at e0 e1
            subst e0 e1
            have g0 := hcc 0 (by omega)
            have g1 := hcc 1 (by omega)
            rw [add_add'] at g0 g1
            exact ⟨⟨⟨t, bs⟩, c1⟩, fun _ => ⟨by simpa using g0, by simpa using g1, r, hb⟩⟩
      · exact ⟨⟨⟨0, []⟩, .slice none 0 0⟩, fun h => absurd h hi⟩
    obtain ⟨f, hf⟩ : ∃ f : Nat → WD × Value, ∀ i, i < len → (W.cell? (a.add (i * 2)) = some (.int .i64 (f i).1.blk) ∧ W.cell? (a.add (i * 2 + 1)) = some (f i).2 ∧ RdB W.heap.size W (f i).2 (f i).1.bs ∧ Byt (f i).1.bs) := ⟨fun i => Classical.choose (key i), fun i => Classical.choose_spec (key i)⟩
    refine ⟨_, (List.range len).map (fun i => (f i).1), rfl, ⟨some a, cap, by simp, by simp; omega, hm, fun i hi => ?_⟩, fun b hb => ?_⟩
    · have hi' : i < len := by simpa using hi
      have h00 := (hf 0 (by omega)).1
      rw [Nat.zero_mul] at h00
      obtain ⟨b, off, rfl, hb⟩ := addr_of h00
      obtain ⟨hc, hc1, hr, _⟩ := hf i hi'
      rw [add_at] at hc hc1
      refine ⟨b, off, (f i).2, rfl, hb, ?_, ?_, ?_⟩
      · simpa using hc
      · simpa [Nat.add_assoc] using hc1
      · simpa using hr
    · simp only [List.mem_map, List.mem_range] at hb
      obtain ⟨i, hi, rfl⟩ := hb
      exact (hf i hi).2.2.2

set_option maxRecDepth 100000 in
/-- A disk that came in, opened. -/
theorem open_disk {H : Type} {enc : TypeId × Value → H} {W : World} {b0 : Nat} {r : Reach} {v : Value} {d : DataW H} {ps : List MemPlace} {sp : Nat → Bool} {hd : Bool}
    (hv : Value.okWide Try.prog W r b0 25 v) (h : DataW.Trod enc Try.prog W 0 sp hd 25 v d ps) :
    ∃ (v1 v2 : Value) (D : DD), v = .agg #[v1, v2] ∧ RDisk W.heap.size W v1 v2 D ∧ (∀ b ∈ D.bb, Byt b) ∧ ∀ b ∈ D.ws, Byt b.bs := by
  obtain ⟨cs, rfl, hsz⟩ := okWide_struct Try.underlying25 hv
  obtain ⟨fuel, hf⟩ := h
  have hC : Try.prog.cellsOf 25 = 2 := by kernel_rfl
  have cB : Try.prog.cellsOf 22 = 1 := by kernel_rfl
  have cW : Try.prog.cellsOf 23 = 1 := by kernel_rfl
  rw [hC] at hsz
  obtain ⟨l⟩ := cs
  match l, hsz with
  | [c0, c1], _ =>
    obtain ⟨xs, m, rfl, _, _, hl, hx⟩ := DataW.trod_struct Try.underlying25 hf
    have h0 := hx 0 _ rfl
    have h1 := hx 1 _ rfl
    match xs, hl with
    | [x0, x1], _ =>
      obtain ⟨v1, L, e0, r1, b1⟩ := trod_BB h0
      obtain ⟨v2, M, e1, r2, b2⟩ := trod_WW h1
      simp [Value.cells, cB, cW] at e0 e1
      subst e0 e1
      exact ⟨_, _, ⟨L, M⟩, rfl, ⟨r1, r2⟩, b1, b2⟩
end Go.Proofs.YtepagknkhlpicabRRRR
