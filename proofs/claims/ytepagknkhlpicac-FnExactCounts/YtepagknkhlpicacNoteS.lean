/-
  Slices of notes: szNoteS, toNoteS, eqNoteS, and how an argument of notes is opened.
-/
import Derived.Test.YtepagknkhlpicacDraw3
import Derived.Test.YtepagknkhlpicacDiskOpen
namespace Go.Proofs.Ytepagknkhlpicac
open Go.ChangeShapes Go.WideShapes Go.ChangeAt Go.RowKit Go.Deep
set_option linter.unusedVariables false
set_option linter.unusedSimpArgs false

/-- Five cells hold a note. -/
structure NAt (w : World) (b o : Nat) (d : ND) : Prop where
  t : w.cell? ⟨b, o, none⟩ = some (.int .i64 d.t)
  k : w.cell? ⟨b, o + 1, none⟩ = some (.int .i64 d.k)
  p : w.cell? ⟨b, o + 2, none⟩ = some (.int .i64 d.p)
  n : w.cell? ⟨b, o + 3, none⟩ = some (.int .i64 d.n)
  s : w.cell? ⟨b, o + 4, none⟩ = some (.string d.s)
theorem NAt.below {w w' : World} {N b o : Nat} {d : ND} (h : NAt w b o d) (hb : Below N w w') (hN : b < N) : NAt w' b o d :=
  ⟨by rw [hb.cell (p := ⟨b, o, none⟩) hN]; exact h.t, by rw [hb.cell (p := ⟨b, o + 1, none⟩) hN]; exact h.k, by rw [hb.cell (p := ⟨b, o + 2, none⟩) hN]; exact h.p, by rw [hb.cell (p := ⟨b, o + 3, none⟩) hN]; exact h.n, by rw [hb.cell (p := ⟨b, o + 4, none⟩) hN]; exact h.s⟩

/-- A slice of notes that can be read, in memory below N. -/
def RNS (N : Nat) (w : World) (v : Value) (ns : List ND) : Prop :=
  ∃ a cap, v = .slice a ns.length cap ∧ ns.length ≤ cap ∧ cap ≤ maxLen ∧ ∀ i (hi : i < ns.length), ∃ b off, a = some ⟨b, off, none⟩ ∧ b < N ∧ NAt w b (off + i * 5) ns[i]
theorem RNS.below {N : Nat} {w w' : World} {v : Value} {ns : List ND} (h : RNS N w v ns) (hb : Below N w w') : RNS N w' v ns := by
  obtain ⟨a, cap, rfl, h1, h2, h3⟩ := h
  refine ⟨a, cap, rfl, h1, h2, fun i hi => ?_⟩
  obtain ⟨b, off, rfl, hN, h⟩ := h3 i hi
  exact ⟨b, off, rfl, hN, h.below hb hN⟩
theorem RNS.mono {N N' : Nat} {w : World} {v : Value} {ns : List ND} (h : RNS N w v ns) (hN : N ≤ N') : RNS N' w v ns := by
  obtain ⟨a, cap, rfl, h1, h2, h3⟩ := h
  refine ⟨a, cap, rfl, h1, h2, fun i hi => ?_⟩
  obtain ⟨b, off, rfl, hb, h⟩ := h3 i hi
  exact ⟨b, off, rfl, by omega, h⟩
theorem RNS.drewN {N : Nat} {w : World} {v : Value} {ns : List ND} (h : RNS N w v ns) (n : Nat) : RNS N (w.drewN n) v ns := by
  obtain ⟨a, cap, rfl, h1, h2, h3⟩ := h
  refine ⟨a, cap, rfl, h1, h2, fun i hi => ?_⟩
  obtain ⟨b, off, rfl, hb, h⟩ := h3 i hi
  exact ⟨b, off, rfl, hb, ⟨h.t, h.k, h.p, h.n, h.s⟩⟩
theorem nCells_at : ∀ (ns : List ND) (j : Nat) (hj : j < ns.length) (i : Nat), i < 5 → (nCells ns)[j * 5 + i]? = (ns[j].cells)[i]?
  | [], j, hj, _, _ => by simp at hj
  | d :: r, 0, _, i, hi => by
    simp only [nCells, Nat.zero_mul, Nat.zero_add, List.getElem_cons_zero]
    rw [List.getElem?_append_left (by simp [ND.cells]; exact hi)]
  | d :: r, j + 1, hj, i, hi => by
    have := nCells_at r j (by simpa using hj) i hi
    simp only [nCells, List.getElem_cons_succ]
    rw [List.getElem?_append_right (by simp [ND.cells]; omega), ← this]
    congr 1
    simp [ND.cells]
    omega
theorem own_rns {w : World} {base T : Nat} {v : Value} {ns : List ND} (h : w.ownsRow base T 5 v ns.length (nCells ns)) : RNS w.heap.size w v ns := by
  obtain ⟨h1, h2⟩ := h
  rcases h2 with ⟨rfl, h0⟩ | ⟨g, cap, cur, rfl, hg, hh, hn, hm, hs, ht⟩
  · have : ns = [] := List.eq_nil_of_length_eq_zero h0
    subst this
    exact ⟨none, 0, rfl, Nat.le_refl _, by unfold maxLen; omega, fun i hi => by simp at hi⟩
  · refine ⟨_, cap, rfl, hn, hm, fun j hj => ⟨g, 0, rfl, lt_of_block hh, ?_⟩⟩
    have key : ∀ i, i < 5 → w.cell? ⟨g, j * 5 + i, none⟩ = (ns[j].cells)[i]? := by
      intro i hi
      rw [Joins.cell_of_block hh, ← nCells_at ns j hj i hi, ← ht, List.getElem?_take_of_lt (by omega)]
      simp
    rw [Nat.zero_add]
    exact ⟨key 0 (by omega), key 1 (by omega), key 2 (by omega), key 3 (by omega), key 4 (by omega)⟩

/-- How many places some notes have. -/
def sumN : List ND → Nat
  | [] => 0
  | d :: r => 1 + d.s.size + sumN r
theorem sumN_append : ∀ A B : List ND, sumN (A ++ B) = sumN A + sumN B
  | [], B => by simp [sumN]
  | d :: r, B => by simp [sumN, sumN_append r B]; omega
theorem sumN_succ (L : List ND) (j : Nat) (hlt : j < L.length) : sumN (L.take (j + 1)) = sumN (L.take j) + (1 + L[j].s.size) := by
  rw [List.take_succ_eq_append_getElem hlt, sumN_append]; simp [sumN]
theorem sumN_mem : ∀ (L : List ND), (∀ x ∈ L, x.s.size ≤ sumN L) ∧ L.length ≤ sumN L
  | [] => ⟨fun _ h => by simp at h, by simp [sumN]⟩
  | b :: r => by
    have ih := sumN_mem r
    refine ⟨fun x h => ?_, by simp [sumN]; omega⟩
    rcases List.mem_cons.1 h with rfl | h
    · simp [sumN]; omega
    · have := ih.1 x h; simp [sumN]; omega

set_option maxHeartbeats 1000000 in
theorem szNoteS_any (N : Nat) (v : Value) (L : List ND) (left : Int) (w : World) (h : RNS N w v L) (hs : ∀ d ∈ L, d.s.size ≤ maxLen) (hN : N ≤ w.heap.size) (h0 : 0 ≤ left) (h1 : left ≤ 1048576) :
    Calls Try.prog 5 #[v, .int .i64 left] w fun e w' => ∃ z, e = .returned (.int .i64 z) ∧ Fits left (sumN L) z ∧ Below w.heap.size w w' := by
  obtain ⟨a, cap, rfl, hc1, hm, hx⟩ := h
  unfold maxLen at hm
  by_cases hc : (L.length : Int) ≤ left
  · go_enter Try.func5, Try.ntmps5
    go_wp2
    go_loopw [1, 5] (fun q i wr => ∃ (j : Nat) (z : Int), j ≤ L.length ∧ i = .int .i64 j ∧ q = .int .i64 z ∧ 0 ≤ z ∧ z + (L.length - j) + sumN (L.take j) = left ∧ Below w.heap.size w wr) (fun _ i _ => L.length - (intOf i).toNat)
    case atStart => exact ⟨0, left - L.length, Nat.zero_le _, rfl, rfl, by omega, by simp [sumN], Below.refl _ _⟩
    case round =>
      obtain ⟨j, z, hj, rfl, rfl, hz0, hz, hb⟩ := hrel
      have HZ : Hid (z + (L.length - j) + sumN (L.take j) = left) := hz
      have hz1 : z ≤ 1048576 := by omega
      have hsz := hb.size
      clear hz
      by_cases hlt : j < L.length
      · obtain ⟨g, o, rfl, hgN, hat⟩ := hx j hlt
        obtain ⟨m0, m1, m2, m3, m4⟩ := hat.below hb (by omega)
        have HS : Hid (sumN (L.take (j + 1)) = sumN (L.take j) + (1 + L[j].s.size)) := sumN_succ L j hlt
        have hsj := hs L[j] (List.getElem_mem hlt)
        clear hx hat
        generalize hB : L[j] = B at m0 m1 m2 m3 m4 hsj
        have HB : Hid (L[j] = B) := hB
        clear hB
        by_cases hf : (B.s.size : Int) ≤ z
        · go_wp2_with (go_at_call 21; refine (szNote_any B.t B.k B.p B.n B.s _ _ hsj hz0 hz1).mono ?_; rintro e w1 ⟨rfl, b1⟩; rw [if_pos hf])
          go_roundw
          case rel => exact ⟨j + 1, z - B.s.size, by omega, by go_num, rfl, by omega, by have hS := HS.out; rw [HB.out] at hS; have hZ := HZ.out; omega, hb.trans (b1.mono (by omega))⟩
          case measure => simp [intOf]; omega
        · go_wp2_with (go_at_call 21; refine (szNote_any B.t B.k B.p B.n B.s _ _ hsj hz0 hz1).mono ?_; rintro e w1 ⟨rfl, b1⟩; rw [if_neg hf])
          go_ret
          exact ⟨-1, rfl, .inl rfl, hb.trans (b1.mono (by omega))⟩
      · have : j = L.length := by omega
        subst this
        go_wp2
        go_ret
        refine ⟨z, rfl, .inr ⟨hz0, ?_⟩, hb⟩
        have := HZ.out
        rw [List.take_length] at this
        omega
  · go_enter Try.func5, Try.ntmps5
    go_wp2
    go_ret
    exact ⟨-1, rfl, .inl rfl, Below.refl _ _⟩

theorem make_notes (n : Nat) (z : Int) (hz : z = n) (hn : n ≤ 1000000000) (w : World) :
    ∃ c : Array Value, c.size = n * 5 ∧ (Instr.makeSlice 29 (.int .i64 z) (.int .i64 z)).run Try.prog w = .ok (.slice (some ⟨w.heap.size, 0, none⟩) n n) (w.alloc (.cells c 46)) := by
  subst hz
  obtain ⟨i, hi, h1, h2, h3⟩ := info_parts info26
  refine ⟨madeCells (Value.cells (.agg #[.int .i64 0, .int .i64 0, .int .i64 0, .int .i64 0, .string ByteArray.empty])) ((n : Int).toNat * i.size), by rw [size_madeCells, h2]; simp, ?_⟩
  rw [run_make w 29 46 i (.agg #[.int .i64 0, .int .i64 0, .int .i64 0, .int .i64 0, .string ByteArray.empty]) Try.underlying29 hi h1 .i64 .i64 n n (by omega) (Int.le_refl _) (by rw [h3]; omega) (by omega)]
  simp

theorem take_set5 {c : Array Value} {j n : Nat} {rows : List Value} {v0 v1 v2 v3 v4 : Value} (hct : c.toList.take (j * 5) = rows) (hcs : c.size = n * 5) (hlt : j < n) : (((((c.setIfInBounds (j * 5) v0).setIfInBounds (j * 5 + 1) v1).setIfInBounds (j * 5 + 2) v2).setIfInBounds (j * 5 + 3) v3).setIfInBounds (j * 5 + 4) v4).toList.take ((j + 1) * 5) = rows ++ [v0, v1, v2, v3, v4] := by
  have h1 := take_set (v := v0) hct rfl (by omega : j * 5 < c.size)
  have h2 := take_set (c := c.setIfInBounds (j * 5) v0) (v := v1) h1 rfl (by simp; omega)
  have h3 := take_set (c := (c.setIfInBounds (j * 5) v0).setIfInBounds (j * 5 + 1) v1) (v := v2) h2 rfl (by simp; omega)
  have h4 := take_set (c := ((c.setIfInBounds (j * 5) v0).setIfInBounds (j * 5 + 1) v1).setIfInBounds (j * 5 + 1 + 1) v2) (v := v3) h3 rfl (by simp; omega)
  have h5 := take_set (c := (((c.setIfInBounds (j * 5) v0).setIfInBounds (j * 5 + 1) v1).setIfInBounds (j * 5 + 1 + 1) v2).setIfInBounds (j * 5 + 1 + 1 + 1) v3) (v := v4) h4 rfl (by simp; omega)
  have e : (j + 1) * 5 = j * 5 + 1 + 1 + 1 + 1 + 1 := by omega
  rw [e, h5]
  simp

set_option maxHeartbeats 2000000 in
theorem toNoteS_any (N : Nat) (v : Value) (L : List ND) (w : World) (h : RNS N w v L) (hN : N ≤ w.heap.size) (hl : L.length ≤ 100000000) :
    Calls Try.prog 8 #[v] w fun e w' => ∃ v', e = .returned v' ∧ w'.ownsRow w.heap.size 46 5 v' L.length (nCells L) ∧ Below w.heap.size w w' := by
  obtain ⟨a, cap, rfl, h1, h2, hx⟩ := h
  obtain ⟨c0, hc0, hmk⟩ := make_notes L.length (L.length : Int) rfl (by omega) w
  unfold maxLen at h2
  go_enter Try.func8, Try.ntmps8
  go_wp2
  go_loopw [4] (fun i wr => ∃ (j : Nat) (c : Array Value), j ≤ L.length ∧ i = .int .i64 j ∧ wr.heap[w.heap.size]? = some (.cells c 46 (0, 0)) ∧ c.size = L.length * 5 ∧ c.toList.take (j * 5) = nCells (L.take j) ∧ Below w.heap.size w wr ∧ w.heap.size < wr.heap.size) (fun i _ => L.length - (intOf i).toNat)
  case atStart => exact ⟨0, _, Nat.zero_le _, rfl, heap_alloc_new w _, hc0, by simp [nCells], (Below.refl _ w).alloc (Nat.le_refl _) _, by simp⟩
  case round =>
    obtain ⟨j, c, hj, rfl, hg, hcs, hct, hb, hsz⟩ := hrel
    by_cases hlt : j < L.length
    · obtain ⟨g, o, rfl, hgN, hat⟩ := hx j hlt
      obtain ⟨m0, m1, m2, m3, m4⟩ := hat.below hb (by omega)
      have htk : nCells (L.take (j + 1)) = nCells (L.take j) ++ L[j].cells := by rw [List.take_succ_eq_append_getElem hlt, nCells_append]; simp [nCells]
      generalize hbj : L[j] = d at m0 m1 m2 m3 m4 htk
      have HTK : Hid (nCells (L.take (j + 1)) = nCells (L.take j) ++ d.cells) := htk
      clear hx hat hbj htk
      go_wp2_with (go_at_call 23; refine (toNote_any d.t d.k d.p d.n d.s _).mono ?_; rintro e w1 ⟨rfl, b1⟩; have hg1 : w1.heap[w.heap.size]? = some (.cells c 46 (0, 0)) := (by rw [b1.block _ hsz]; exact hg); have hfz := (fun q => Joins.unfrozen_of_block hg1 q); have hcl : ∀ q, q < 5 → ∃ x, w1.cell? ⟨w.heap.size, j * 5 + q, none⟩ = some x := (fun q hq => by rw [Joins.cell_of_block hg1]; exact ⟨_, Array.getElem?_eq_getElem (by omega)⟩); obtain ⟨x0, hcl0⟩ := hcl 0 (by omega); obtain ⟨x1, hcl1⟩ := hcl 1 (by omega); obtain ⟨x2, hcl2⟩ := hcl 2 (by omega); obtain ⟨x3, hcl3⟩ := hcl 3 (by omega); obtain ⟨x4, hcl4⟩ := hcl 4 (by omega); clear hcl; rw [Nat.add_zero] at hcl0)
      go_roundw
      case rel =>
        have z1 := b1.size
        refine ⟨j + 1, _, by omega, by go_num, Joins.block_setCell (Joins.block_setCell (Joins.block_setCell (Joins.block_setCell (Joins.block_setCell hg1 _) _) _) _) _, by simp [hcs], ?_, (((((hb.trans (b1.mono (by omega))).setCell (by simp) _).setCell (by simp) _).setCell (by simp) _).setCell (by simp) _).setCell (by simp) _, by simp [World.setCell]; omega⟩
        rw [HTK.out]
        exact take_set5 hct hcs hlt
      case measure => simp [intOf]; omega
    · have : j = L.length := by omega
      subst this
      go_wp2
      go_ret
      rw [List.take_length] at hct
      exact ⟨.slice (some ⟨w.heap.size, 0, none⟩) L.length L.length, rfl, ⟨by rw [nCells_length], .inr ⟨w.heap.size, L.length, c, rfl, Nat.le_refl _, hg, Nat.le_refl _, by unfold maxLen; omega, by omega, hct⟩⟩, hb⟩

set_option maxHeartbeats 2000000 in
theorem eqNoteS_same (N : Nat) (v1 v2 : Value) (L : List ND) (w : World) (h1 : RNS N w v1 L) (h2 : RNS N w v2 L) (hN : N ≤ w.heap.size) (hl : L.length ≤ 1000000000) :
    Calls Try.prog 12 #[v1, v2] w fun e w' => e = .returned (.bool true) ∧ Below w.heap.size w w' := by
  obtain ⟨a, c1, rfl, hc1, hm1, hx⟩ := h1
  obtain ⟨b, c2, rfl, hc2, hm2, hy⟩ := h2
  unfold maxLen at hm1 hm2
  have hne : ((L.length : Int) != L.length) = false := by simp
  go_enter Try.func12, Try.ntmps12
  go_wp2
  go_loopw [5] (fun i wr => ∃ (j : Nat), j ≤ L.length ∧ i = .int .i64 j ∧ Below w.heap.size w wr) (fun i _ => L.length - (intOf i).toNat)
  case atStart => exact ⟨0, Nat.zero_le _, rfl, Below.refl _ _⟩
  case round =>
    obtain ⟨j, hj, rfl, hb⟩ := hrel
    by_cases hlt : j < L.length
    · obtain ⟨g1, o1, rfl, hg1, p1⟩ := hx j hlt
      obtain ⟨g2, o2, rfl, hg2, p2⟩ := hy j hlt
      have hz := hb.size
      have q1 := p1.below hb (by omega)
      have q2 := p2.below hb (by omega)
      generalize L[j] = d at q1 q2
      have HK : Hid (∀ W, Below wr.heap.size wr W → NAt W g1 (o1 + j * 5) d ∧ NAt W g2 (o2 + j * 5) d) := fun W hW => ⟨q1.below hW (by omega), q2.below hW (by omega)⟩
      have HQ : Hid (NAt wr g1 (o1 + j * 5) d ∧ NAt wr g2 (o2 + j * 5) d) := ⟨q1, q2⟩
      obtain ⟨a0, a1, a2, a3, a4⟩ := q1
      obtain ⟨b0, b1, b2, b3, b4⟩ := q2
      have i0 : (0 : Int) ≤ (j : Int) := by omega
      have i1 : (j : Int) < (L.length : Int) := by omega
      clear hx hy p1 p2
      go_wp2
      go_region_held3 (fun w' => (w'.cell? ⟨g1, o1 + j * 5, none⟩ = some (.int .i64 d.t) ∧ w'.cell? ⟨g1, o1 + j * 5 + 1, none⟩ = some (.int .i64 d.k) ∧ w'.cell? ⟨g1, o1 + j * 5 + 2, none⟩ = some (.int .i64 d.p) ∧ w'.cell? ⟨g1, o1 + j * 5 + 3, none⟩ = some (.int .i64 d.n) ∧ w'.cell? ⟨g1, o1 + j * 5 + 4, none⟩ = some (.string d.s)) ∧ w'.cell? ⟨g2, o2 + j * 5, none⟩ = some (.int .i64 d.t) ∧ w'.cell? ⟨g2, o2 + j * 5 + 1, none⟩ = some (.int .i64 d.k) ∧ w'.cell? ⟨g2, o2 + j * 5 + 2, none⟩ = some (.int .i64 d.p) ∧ w'.cell? ⟨g2, o2 + j * 5 + 3, none⟩ = some (.int .i64 d.n) ∧ w'.cell? ⟨g2, o2 + j * 5 + 4, none⟩ = some (.string d.s)) (first | exact ⟨⟨a0, a1, a2, a3, a4⟩, b0, b1, b2, b3, b4⟩ | (obtain ⟨⟨e0, e1, e2, e3, e4⟩, f0, f1, f2, f3, f4⟩ := HK.out _ (undrew bb1); exact ⟨⟨e0, e1, e2, e3, e4⟩, f0, f1, f2, f3, f4⟩))
        ((go_at_call 30; refine (eqNote_same d.t d.k d.p d.n d.s _).mono ?_; rintro e w1 ⟨rfl, bb1⟩))
      have b1' : Below wr.heap.size wr w1 := undrew bb1
      clear bb1
      go_wp2
      go_roundw
      case rel => exact ⟨j + 1, by omega, by go_num, hb.trans (b1'.mono (by omega))⟩
      case measure => simp [intOf]; omega
    · go_wp2
      go_ret
      exact ⟨rfl, hb⟩
end Go.Proofs.Ytepagknkhlpicac
