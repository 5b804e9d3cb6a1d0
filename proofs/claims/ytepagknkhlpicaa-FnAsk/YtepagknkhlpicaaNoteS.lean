/-
  Slices of notes: szNoteS, toNoteS, eqNoteS, and how an argument of notes is opened.
-/
import Derived.Test.YtepagknkhlpicaaDraw3
import Derived.Test.YtepagknkhlpicaaDiskOpen
namespace Go.Proofs.Ytepagknkhlpicaa
open Go.ChangeShapes Go.WideShapes Go.ChangeAt Go.RowKit Go.Deep
set_option linter.unusedVariables false
set_option linter.unusedSimpArgs false

/-- Five cells hold a note. -/
structure NAt (w : World) (b o : Nat) (d : ND) : Prop where
  t : w.cell? ⟨b, o, none⟩ = some (.int .i64 d.t)
  k : w.cell? ⟨b, o + 1, none⟩ = some (.int .i64 d.k)
  p : w.cell? ⟨b, o + 2, none⟩ = some (.int .i64 d.p)
  n : w.cell? ⟨b, o + 3, none⟩ = some (.int .i64 d.n)
  s : w.cell? ⟨b, o + 4, none⟩ = some (.string d.s)
theorem NAt.below {w w' : World} {N b o : Nat} {d : ND} (h : NAt w b o d) (hb : Below N w w') (hN : b < N) : NAt w' b o d :=
  ⟨by rw [hb.cell (p := ⟨b, o, none⟩) hN]; exact h.t, by rw [hb.cell (p := ⟨b, o + 1, none⟩) hN]; exact h.k, by rw [hb.cell (p := ⟨b, o + 2, none⟩) hN]; exact h.p, by rw [hb.cell (p := ⟨b, o + 3, none⟩) hN]; exact h.n, by rw [hb.cell (p := ⟨b, o + 4, none⟩) hN]; exact h.s⟩

/-- A slice of notes that can be read, in memory below N. -/
def RNS (N : Nat) (w : World) (v : Value) (ns : List ND) : Prop :=
  ∃ a cap, v = .slice a ns.length cap ∧ ns.length ≤ cap ∧ cap ≤ maxLen ∧ ∀ i (hi : i < ns.length), ∃ b off, a = some ⟨b, off, none⟩ ∧ b < N ∧ NAt w b (off + i * 5) ns[i]
theorem RNS.below {N : Nat} {w w' : World} {v : Value} {ns : List ND} (h : RNS N w v ns) (hb : Below N w w') : RNS N w' v ns := by
  obtain ⟨a, cap, rfl, h1, h2, h3⟩ := h
  refine ⟨a, cap, rfl, h1, h2, fun i hi => ?_⟩
  obtain ⟨b, off, rfl, hN, h⟩ := h3 i hi
  exact ⟨b, off, rfl, hN, h.below hb hN⟩
theorem RNS.mono {N N' : Nat} {w : World} {v : Value} {ns : List ND} (h : RNS N w v ns) (hN : N ≤ N') : RNS N' w v ns := by
  obtain ⟨a, cap, rfl, h1, h2, h3⟩ := h
  refine ⟨a, cap, rfl, h1, h2, fun i hi => ?_⟩
  obtain ⟨b, off, rfl, hb, h⟩ := h3 i hi
  exact ⟨b, off, rfl, by omega, h⟩
theorem RNS.drewN {N : Nat} {w : World} {v : Value} {ns : List ND} (h : RNS N w v ns) (n : Nat) : RNS N (w.drewN n) v ns := by
  obtain ⟨a, cap, rfl, h1, h2, h3⟩ := h
  refine ⟨a, cap, rfl, h1, h2, fun i hi => ?_⟩
  obtain ⟨b, off, rfl, hb, h⟩ := h3 i hi
  exact ⟨b, off, rfl, hb, ⟨h.t, h.k, h.p, h.n, h.s⟩⟩
theorem nCells_at : ∀ (ns : List ND) (j : Nat) (hj : j < ns.length) (i : Nat), i < 5 → (nCells ns)[j * 5 + i]? = (ns[j].cells)[i]?
  | [], j, hj, _, _ => by simp at hj
  | d :: r, 0, _, i, hi => by
    simp only [nCells, Nat.zero_mul, Nat.zero_add, List.getElem_cons_zero]
    rw [List.getElem?_append_left (by simp [ND.cells]; exact hi)]
  | d :: r, j + 1, hj, i, hi => by
    have := nCells_at r j (by simpa using hj) i hi
    simp only [nCells, List.getElem_cons_succ]
    rw [List.getElem?_append_right (by simp [ND.cells]; omega), ← this]
    congr 1
    simp [ND.cells]
    omega
theorem own_rns {w : World} {base T : Nat} {v : Value} {ns : List ND} (h : w.ownsRow base T 5 v ns.length (nCells ns)) : RNS w.heap.size w v ns := by
  obtain ⟨h1, h2⟩ := h
  rcases h2 with ⟨rfl, h0⟩ | ⟨g, cap, cur, rfl, hg, hh, hn, hm, hs, ht⟩
  · have : ns = [] := List.eq_nil_of_length_eq_zero h0
    subst this
    exact ⟨none, 0, rfl, Nat.le_refl _, by unfold maxLen; omega, fun i hi => by simp at hi⟩
  · refine ⟨_, cap, rfl, hn, hm, fun j hj => ⟨g, 0, rfl, lt_of_block hh, ?_⟩⟩
    have key : ∀ i, i < 5 → w.cell? ⟨g, j * 5 + i, none⟩ = (ns[j].cells)[i]? := by
      intro i hi
      rw [Joins.cell_of_block hh, ← nCells_at ns j hj i hi, ← ht, List.getElem?_take_of_lt (by omega)]
      simp
    rw [Nat.zero_add]
    exact ⟨key 0 (by omega), key 1 (by omega), key 2 (by omega), key 3 (by omega), key 4 (by omega)⟩

/-- How many places some notes have. -/
def sumN : List ND → Nat
  | [] => 0
  | d :: r => 1 + d.s.size + sumN r
theorem sumN_append : ∀ A B : List ND, sumN (A ++ B) = sumN A + sumN B
  | [], B => by simp [sumN]
  | d :: r, B => by simp [sumN, sumN_append r B]; omega
theorem sumN_succ (L : List ND) (j : Nat) (hlt : j < L.length) : sumN (L.take (j + 1)) = sumN (L.take j) + (1 + L[j].s.size) := by
  rw [List.take_succ_eq_append_getElem hlt, sumN_append]; simp [sumN]
theorem sumN_mem : ∀ (L : List ND), (∀ x ∈ L, x.s.size ≤ sumN L) ∧ L.length ≤ sumN L
  | [] => ⟨fun _ h => by simp at h, by simp [sumN]⟩
  | b :: r => by
    have ih := sumN_mem r
    refine ⟨fun x h => ?_, by simp [sumN]; omega⟩
    rcases List.mem_cons.1 h with rfl | h
    · simp [sumN]; omega
    · have := ih.1 x h; simp [sumN]; omega

theorem make_notes (n : Nat) (z : Int) (hz : z = n) (hn : n ≤ 1000000000) (w : World) :
    ∃ c : Array Value, c.size = n * 5 ∧ (Instr.makeSlice 23 (.int .i64 z) (.int .i64 z)).run Try.prog w = .ok (.slice (some ⟨w.heap.size, 0, none⟩) n n) (w.alloc (.cells c 26)) := by
  subst hz
  obtain ⟨i, hi, h1, h2, h3⟩ := info_parts info26
  refine ⟨madeCells (Value.cells (.agg #[.int .i64 0, .int .i64 0, .int .i64 0, .int .i64 0, .string ByteArray.empty])) ((n : Int).toNat * i.size), by rw [size_madeCells, h2]; simp, ?_⟩
  rw [run_make w 23 26 i (.agg #[.int .i64 0, .int .i64 0, .int .i64 0, .int .i64 0, .string ByteArray.empty]) Try.underlying23 hi h1 .i64 .i64 n n (by omega) (Int.le_refl _) (by rw [h3]; omega) (by omega)]
  simp

theorem take_set5 {c : Array Value} {j n : Nat} {rows : List Value} {v0 v1 v2 v3 v4 : Value} (hct : c.toList.take (j * 5) = rows) (hcs : c.size = n * 5) (hlt : j < n) : (((((c.setIfInBounds (j * 5) v0).setIfInBounds (j * 5 + 1) v1).setIfInBounds (j * 5 + 2) v2).setIfInBounds (j * 5 + 3) v3).setIfInBounds (j * 5 + 4) v4).toList.take ((j + 1) * 5) = rows ++ [v0, v1, v2, v3, v4] := by
  have h1 := take_set (v := v0) hct rfl (by omega : j * 5 < c.size)
  have h2 := take_set (c := c.setIfInBounds (j * 5) v0) (v := v1) h1 rfl (by simp; omega)
  have h3 := take_set (c := (c.setIfInBounds (j * 5) v0).setIfInBounds (j * 5 + 1) v1) (v := v2) h2 rfl (by simp; omega)
  have h4 := take_set (c := ((c.setIfInBounds (j * 5) v0).setIfInBounds (j * 5 + 1) v1).setIfInBounds (j * 5 + 1 + 1) v2) (v := v3) h3 rfl (by simp; omega)
  have h5 := take_set (c := (((c.setIfInBounds (j * 5) v0).setIfInBounds (j * 5 + 1) v1).setIfInBounds (j * 5 + 1 + 1) v2).setIfInBounds (j * 5 + 1 + 1 + 1) v3) (v := v4) h4 rfl (by simp; omega)
  have e : (j + 1) * 5 = j * 5 + 1 + 1 + 1 + 1 + 1 := by omega
  rw [e, h5]
  simp

end Go.Proofs.Ytepagknkhlpicaa
