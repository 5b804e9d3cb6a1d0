/-
  Slices of counts: eqCountS, markCountS, heldCountS.
-/
import Derived.Test.YtepagknkhlpicacNoteMark
namespace Go.Proofs.Ytepagknkhlpicac
open Go.ChangeShapes Go.WideShapes Go.ChangeAt Go.RowKit Go.Deep
set_option linter.unusedVariables false
set_option linter.unusedSimpArgs false

/-- A count as data. -/
structure CD where
  k : Int
  n : Int
  s : Int
def CD.cells (d : CD) : List Value := [.int .i64 d.k, .int .i64 d.n, .int .i64 d.s]
def cCells : List CD → List Value
  | [] => []
  | d :: r => d.cells ++ cCells r
theorem cCells_length : ∀ l : List CD, (cCells l).length = l.length * 3
  | [] => rfl
  | d :: r => by simp [cCells, cCells_length r, CD.cells]; omega
theorem cCells_append : ∀ a b : List CD, cCells (a ++ b) = cCells a ++ cCells b
  | [], b => rfl
  | d :: r, b => by simp [cCells, cCells_append r b]
theorem cCells_at : ∀ (ns : List CD) (j : Nat) (hj : j < ns.length) (i : Nat), i < 3 → (cCells ns)[j * 3 + i]? = (ns[j].cells)[i]?
  | [], j, hj, _, _ => by simp at hj
  | d :: r, 0, _, i, hi => by
    simp only [cCells, Nat.zero_mul, Nat.zero_add, List.getElem_cons_zero]
    rw [List.getElem?_append_left (by simp [CD.cells]; exact hi)]
  | d :: r, j + 1, hj, i, hi => by
    have := cCells_at r j (by simpa using hj) i hi
    simp only [cCells, List.getElem_cons_succ]
    rw [List.getElem?_append_right (by simp [CD.cells]; omega), ← this]
    congr 1
    simp [CD.cells]
    omega
/-- Three cells hold a count. -/
structure CAt (w : World) (b o : Nat) (d : CD) : Prop where
  k : w.cell? ⟨b, o, none⟩ = some (.int .i64 d.k)
  n : w.cell? ⟨b, o + 1, none⟩ = some (.int .i64 d.n)
  s : w.cell? ⟨b, o + 2, none⟩ = some (.int .i64 d.s)
theorem CAt.below {w w' : World} {N b o : Nat} {d : CD} (h : CAt w b o d) (hb : Below N w w') (hN : b < N) : CAt w' b o d :=
  ⟨by rw [hb.cell (p := ⟨b, o, none⟩) hN]; exact h.k, by rw [hb.cell (p := ⟨b, o + 1, none⟩) hN]; exact h.n, by rw [hb.cell (p := ⟨b, o + 2, none⟩) hN]; exact h.s⟩
/-- A slice of counts that can be read. -/
def RdC (w : World) (v : Value) (xs : List CD) : Prop :=
  ∃ a cap, v = .slice a xs.length cap ∧ xs.length ≤ cap ∧ cap ≤ maxLen ∧ ∀ i (hi : i < xs.length), ∃ b off, a = some ⟨b, off, none⟩ ∧ b < w.heap.size ∧ CAt w b (off + i * 3) xs[i]
theorem own_rdc {w : World} {base T : Nat} {v : Value} {ns : List CD} (h : w.ownsRow base T 3 v ns.length (cCells ns)) : RdC w v ns := by
  obtain ⟨h1, h2⟩ := h
  rcases h2 with ⟨rfl, h0⟩ | ⟨g, cap, cur, rfl, hg, hh, hn, hm, hs, ht⟩
  · have : ns = [] := List.eq_nil_of_length_eq_zero h0
    subst this
    exact ⟨none, 0, rfl, Nat.le_refl _, by unfold maxLen; omega, fun i hi => by simp at hi⟩
  · refine ⟨_, cap, rfl, hn, hm, fun j hj => ⟨g, 0, rfl, lt_of_block hh, ?_⟩⟩
    have key : ∀ i, i < 3 → w.cell? ⟨g, j * 3 + i, none⟩ = (ns[j].cells)[i]? := by
      intro i hi
      rw [Joins.cell_of_block hh, ← cCells_at ns j hj i hi, ← ht, List.getElem?_take_of_lt (by omega)]
      simp
    rw [Nat.zero_add]
    exact ⟨key 0 (by omega), key 1 (by omega), key 2 (by omega)⟩

set_option maxHeartbeats 1000000 in
theorem eqCount_same (d : CD) (w : World) :
    Calls Try.prog 33 #[.agg #[.int .i64 d.k, .int .i64 d.n, .int .i64 d.s], .agg #[.int .i64 d.k, .int .i64 d.n, .int .i64 d.s]] w fun e w' => e = .returned (.bool true) ∧ Below w.heap.size w w' := by
  go_enter Try.func33, Try.ntmps33
  go_wp2
  go_ret
  exact ⟨rfl, ((Below.refl _ _).alloc (Nat.le_refl _) _).alloc (by simp) _⟩

set_option maxHeartbeats 2000000 in
theorem eqCountS_same (v1 v2 : Value) (L : List CD) (w : World) (h1 : RdC w v1 L) (h2 : RdC w v2 L) (hl : L.length ≤ 1000000000) :
    Calls Try.prog 18 #[v1, v2] w fun e w' => e = .returned (.bool true) ∧ Below w.heap.size w w' := by
  obtain ⟨a, c1, rfl, hc1, hm1, hx⟩ := h1
  obtain ⟨b, c2, rfl, hc2, hm2, hy⟩ := h2
  unfold maxLen at hm1 hm2
  have hne : ((L.length : Int) != L.length) = false := by simp
  go_enter Try.func18, Try.ntmps18
  go_wp2
  go_loopw [5] (fun i wr => ∃ (j : Nat), j ≤ L.length ∧ i = .int .i64 j ∧ Below w.heap.size w wr) (fun i _ => L.length - (intOf i).toNat)
  case atStart => exact ⟨0, Nat.zero_le _, rfl, Below.refl _ _⟩
  case round =>
    obtain ⟨j, hj, rfl, hb⟩ := hrel
    by_cases hlt : j < L.length
    · obtain ⟨g1, o1, rfl, hg1, p1⟩ := hx j hlt
      obtain ⟨g2, o2, rfl, hg2, p2⟩ := hy j hlt
      have hz := hb.size
      have q1 := p1.below hb (by omega)
      have q2 := p2.below hb (by omega)
      generalize L[j] = d at q1 q2
      have HK : Hid (∀ W, Below wr.heap.size wr W → CAt W g1 (o1 + j * 3) d ∧ CAt W g2 (o2 + j * 3) d) := fun W hW => ⟨q1.below hW (by omega), q2.below hW (by omega)⟩
      obtain ⟨a0, a1, a2⟩ := q1
      obtain ⟨b0, b1, b2⟩ := q2
      have i0 : (0 : Int) ≤ (j : Int) := by omega
      have i1 : (j : Int) < (L.length : Int) := by omega
      clear hx hy p1 p2
      go_wp2
      go_region_held3 (fun w' => (w'.cell? ⟨g1, o1 + j * 3, none⟩ = some (.int .i64 d.k) ∧ w'.cell? ⟨g1, o1 + j * 3 + 1, none⟩ = some (.int .i64 d.n) ∧ w'.cell? ⟨g1, o1 + j * 3 + 2, none⟩ = some (.int .i64 d.s)) ∧ w'.cell? ⟨g2, o2 + j * 3, none⟩ = some (.int .i64 d.k) ∧ w'.cell? ⟨g2, o2 + j * 3 + 1, none⟩ = some (.int .i64 d.n) ∧ w'.cell? ⟨g2, o2 + j * 3 + 2, none⟩ = some (.int .i64 d.s)) (first | exact ⟨⟨a0, a1, a2⟩, b0, b1, b2⟩ | (obtain ⟨⟨e0, e1, e2⟩, f0, f1, f2⟩ := HK.out _ (undrew bb1); exact ⟨⟨e0, e1, e2⟩, f0, f1, f2⟩))
        ((go_at_call 33; refine (eqCount_same d _).mono ?_; rintro e w1 ⟨rfl, bb1⟩))
      have b1' : Below wr.heap.size wr w1 := undrew bb1
      clear bb1
      go_wp2
      go_roundw
      case rel => exact ⟨j + 1, by omega, by go_num, hb.trans (b1'.mono (by omega))⟩
      case measure => simp [intOf]; omega
    · go_wp2
      go_ret
      exact ⟨rfl, hb⟩

/-- The marks of counts. -/
def marksC (k : Int) : Nat → List CD
  | 0 => []
  | n + 1 => marksC k n ++ [⟨k + n * 3, k + n * 3 + 1, k + n * 3 + 1 + 1⟩]
theorem marksC_length (k : Int) (n : Nat) : (marksC k n).length = n := by
  induction n with
  | zero => rfl
  | succ n ih => simp [marksC, ih]
theorem marksC_get (k : Int) : ∀ {n j : Nat} (h : j < (marksC k n).length), (marksC k n)[j] = ⟨k + j * 3, k + j * 3 + 1, k + j * 3 + 1 + 1⟩
  | 0, _, h => by simp [marksC] at h
  | n + 1, j, h => by
    simp only [marksC]
    by_cases e : j < n
    · rw [List.getElem_append_left (by rw [marksC_length]; exact e)]
      exact marksC_get k _
    · have hl : (marksC k n).length = n := marksC_length k n
      have : j = n := by rw [marksC_length] at h; omega
      subst this
      rw [List.getElem_append_right (by omega)]
      simp [hl]
theorem take_set3 {c : Array Value} {j n : Nat} {rows : List Value} {v0 v1 v2 : Value} (hct : c.toList.take (j * 3) = rows) (hcs : c.size = n * 3) (hlt : j < n) : (((c.setIfInBounds (j * 3) v0).setIfInBounds (j * 3 + 1) v1).setIfInBounds (j * 3 + 2) v2).toList.take ((j + 1) * 3) = rows ++ [v0, v1, v2] := by
  have h1 := take_set (v := v0) hct rfl (by omega : j * 3 < c.size)
  have h2 := take_set (c := c.setIfInBounds (j * 3) v0) (v := v1) h1 rfl (by simp; omega)
  have h3 := take_set (c := (c.setIfInBounds (j * 3) v0).setIfInBounds (j * 3 + 1) v1) (v := v2) h2 rfl (by simp; omega)
  have e : (j + 1) * 3 = j * 3 + 1 + 1 + 1 := by omega
  rw [e, h3]
  simp

set_option maxRecDepth 5000 in
set_option maxHeartbeats 2000000 in
theorem markCountS_own {ety : Nat} (base : Nat) (v : Value) (xs : List CD) (k : Int) (w : World) (hk : 0 ≤ k) (hk' : k ≤ 100000000) (hl : xs.length ≤ 100000000) (h : w.ownsRow base ety 3 v xs.length (cCells xs)) :
    Calls Try.prog 19 #[v, .int .i64 k] w fun e w' => e = .returned (.int .i64 (k + xs.length * 3)) ∧ w'.ownsRow base ety 3 v xs.length (cCells (marksC k xs.length)) ∧ Kp (fun b => v.ownBlock = some b) w w' := by
  obtain ⟨h1, h2⟩ := h
  rcases h2 with ⟨rfl, h0⟩ | ⟨g, cap, cur, rfl, hg, hh, hn, hm, hs, ht⟩
  · have hx : xs = [] := List.eq_nil_of_length_eq_zero h0
    subst hx
    go_enter Try.func19, Try.ntmps19
    go_wp2
    refine wp_loop_rounds 1 ?_
    rw [rounds_succ]
    go_wp2
    go_ret
    exact ⟨by simp, World.ownsRow_nil _ _ _ _, Kp.refl _ _⟩
  · unfold maxLen at hm
    go_enter Try.func19, Try.ntmps19
    go_wp2
    go_loopw [1, 5] (fun q i wr => ∃ (j : Nat) (c : Array Value), j ≤ xs.length ∧ i = .int .i64 j ∧ q = .int .i64 (k + j * 3) ∧ wr.heap[g]? = some (.cells c ety (0, 0)) ∧ c.size = cap * 3 ∧ c.toList.take (j * 3) = cCells (marksC k j) ∧ Kp (fun b => b = g) w wr) (fun _ i _ => xs.length - (intOf i).toNat)
    case atStart => exact ⟨0, cur, Nat.zero_le _, rfl, by simp, hh, by omega, rfl, Kp.refl _ _⟩
    case round =>
      obtain ⟨j, c, hj, rfl, rfl, hc, hcs, hct, hb⟩ := hrel
      by_cases hlt : j < xs.length
      · have hcl : ∀ q, q < 3 → ∃ x, wr.cell? ⟨g, j * 3 + q, none⟩ = some x := fun q hq => by
          rw [Joins.cell_of_block hc]
          exact ⟨_, Array.getElem?_eq_getElem (by omega)⟩
        obtain ⟨x0, hcl0⟩ := hcl 0 (by omega)
        obtain ⟨x1, hcl1⟩ := hcl 1 (by omega)
        obtain ⟨x2, hcl2⟩ := hcl 2 (by omega)
        rw [Nat.add_zero] at hcl0
        have hfz := fun q => Joins.unfrozen_of_block hc q
        clear hcl
        go_wp2
        go_roundw
        case rel =>
          refine ⟨j + 1, _, by omega, by go_num, by go_num, Joins.block_setCell (Joins.block_setCell (Joins.block_setCell hc _) _) _, by simp [hcs], ?_, ((hb.setIn _ _ rfl).setIn _ _ rfl).setIn _ _ rfl⟩
          rw [marksC, cCells_append]
          exact take_set3 hct hcs (by omega)
        case measure => simp [intOf]; omega
      · have : j = xs.length := by omega
        subst this
        go_wp2
        go_ret
        refine ⟨rfl, ⟨by rw [cCells_length, marksC_length], .inr ⟨g, cap, c, rfl, hg, hc, hn, by unfold maxLen; exact hm, by omega, hct⟩⟩, ?_⟩
        exact ⟨hb.os, hb.tape, hb.output, hb.size, fun b hbl hne => hb.block b hbl (fun e => hne (by rw [e]; rfl))⟩

set_option maxHeartbeats 2000000 in
theorem heldCountS_any (v : Value) (k : Int) (n : Nat) (w : World) (hk : 0 ≤ k) (hk' : k ≤ 100000000) (hl : n ≤ 100000000) (h : RdC w v (marksC k n)) :
    Calls Try.prog 20 #[v, .int .i64 k] w fun e w' => e = .returned (.int .i64 (k + n * 3)) ∧ ∃ m, w' = w.drewN m := by
  obtain ⟨a, c1, rfl, hc1, hm1, hx⟩ := h
  have hml := marksC_length k n
  rw [hml] at hc1 ⊢
  have hx' : ∀ i, i < n → ∃ b off, a = some ⟨b, off, none⟩ ∧ b < w.heap.size ∧ CAt w b (off + i * 3) ⟨k + i * 3, k + i * 3 + 1, k + i * 3 + 1 + 1⟩ := fun i hi => by
    obtain ⟨b, off, e, hb, hc⟩ := hx i (by rw [hml]; exact hi)
    rw [marksC_get] at hc
    exact ⟨b, off, e, hb, hc⟩
  clear hx hml
  unfold maxLen at hm1
  go_enter Try.func20, Try.ntmps20
  go_wp2
  go_loopw [1, 5] (fun q i wr => ∃ (j m : Nat), j ≤ n ∧ i = .int .i64 j ∧ q = .int .i64 (k + j * 3) ∧ wr = w.drewN m) (fun _ i _ => n - (intOf i).toNat)
  case atStart => exact ⟨0, 0, Nat.zero_le _, rfl, by simp, rfl⟩
  case round =>
    obtain ⟨j, m, hj, rfl, rfl, rfl⟩ := hrel
    by_cases hlt : j < n
    · obtain ⟨g1, o1, rfl, _, m0, m1, m2⟩ := hx' j hlt
      dsimp only at m0 m1 m2
      clear hx'
      have q0 : ((k + (j : Int) * 3) != (k + (j : Int) * 3)) = false := by simp
      have q1 : ((k + (j : Int) * 3 + 1) != (k + (j : Int) * 3 + 1)) = false := by simp
      have q2 : ((k + (j : Int) * 3 + 1 + 1) != (k + (j : Int) * 3 + 1 + 1)) = false := by simp
      go_wp2
      go_roundw
      case rel => exact ⟨j + 1, m, by omega, by go_num, by go_num, rfl⟩
      case measure => simp [intOf]; omega
    · have : j = n := by omega
      subst this
      go_wp2
      go_ret
      exact ⟨rfl, m, rfl⟩
end Go.Proofs.Ytepagknkhlpicac
