/-
  Arguments of notes and questions, opened.
-/
import Derived.Test.YtepagknkhlpicacSpecFind
import Derived.Test.YtepagknkhlpicacSpecCounts
import Derived.HandedShaped
namespace Go.Proofs.Ytepagknkhlpicac
open Go.ChangeShapes Go.WideShapes Go.ChangeAt Go.RowKit Go.Deep
set_option linter.unusedVariables false
set_option linter.unusedSimpArgs false

set_option maxRecDepth 100000 in
theorem trod_notes {H : Type} {enc : TypeId × Value → H} {W : World} {base : Nat} {sp : Nat → Bool} {hd : Bool} {fuel : Nat} {cs : List Value} {x : DataW H × List MemPlace}
    (h : DataW.trod enc Try.prog W base sp hd fuel 22 cs = some x) : ∃ v L, cs = [v] ∧ RNS W.heap.size W v L ∧ ∀ d ∈ L, d.s.size ≤ maxLen := by
  have c5 : Try.prog.cellsOf 45 = 5 := by kernel_rfl
  have c3' : Try.prog.cellsOf 3 = 1 := by kernel_rfl
  have c2' : Try.prog.cellsOf 2 = 1 := by kernel_rfl
  have c9' : Try.prog.cellsOf 9 = 1 := by kernel_rfl
  rcases open_slice Try.underlying22 h with ⟨rfl, _⟩ | ⟨a, len, cap, m, n, D, Pl, rfl, _, hl, hm, hmm, _, hx⟩
  · exact ⟨_, [], rfl, ⟨none, 0, rfl, Nat.le_refl _, by unfold maxLen; omega, fun i hi => by simp at hi⟩, fun b hb => by simp at hb⟩
  · have hml : len ≤ m := by rw [hmm]; split <;> omega
    rw [c5] at hx
    have key : ∀ i, ∃ d : ND, i < len → (W.cell? (a.add (i * 5)) = some (.int .i64 d.t) ∧ W.cell? (a.add (i * 5 + 1)) = some (.int .i64 d.k) ∧ W.cell? (a.add (i * 5 + 2)) = some (.int .i64 d.p) ∧ W.cell? (a.add (i * 5 + 3)) = some (.int .i64 d.n) ∧ W.cell? (a.add (i * 5 + 4)) = some (.string d.s) ∧ d.s.size ≤ maxLen) := fun i => by
      by_cases hi : i < len
      · obtain ⟨cs', h1, h2⟩ := hx i (by omega)
        obtain ⟨_, hl2, hcc⟩ := World.cells?_some h1
        obtain ⟨xs, m', rfl, _, _, hxl, hxf⟩ := DataW.trod_struct Try.underlying45 h2
        match cs', hl2 with
        | [c0, c1, c2, c3, c4], _ =>
          have f0 := hxf 0 _ rfl
          have f1 := hxf 1 _ rfl
          have f2 := hxf 2 _ rfl
          have f3 := hxf 3 _ rfl
          have f4 := hxf 4 _ rfl
          match xs, hxl with
          | [x0, x1, x2, x3, x4], _ =>
            obtain ⟨t, e0, _, _⟩ := DataW.trod_int Try.underlying3 f0
            obtain ⟨k, e1, _, _⟩ := DataW.trod_int Try.underlying3 f1
            obtain ⟨p, e2, _, _⟩ := DataW.trod_int Try.underlying3 f2
            obtain ⟨n, e3, _, wn⟩ := DataW.trod_int Try.underlying2 f3
            obtain ⟨s, e4, _, hs⟩ := DataW.trod_string Try.underlying9 f4
            simp [c3', c2', c9'] at e0 e1 e2 e3 e4
            subst e0 e1 e2 e3 e4
            have g0 := hcc 0 (by omega)
            have g1 := hcc 1 (by omega)
            have g2 := hcc 2 (by omega)
            have g3 := hcc 3 (by omega)
            have g4 := hcc 4 (by omega)
            rw [add_add'] at g0 g1 g2 g3 g4
            exact ⟨⟨t, k, p, n, s⟩, fun _ => ⟨by simpa using g0, by simpa using g1, by simpa using g2, by simpa using g3, by simpa using g4, hs⟩⟩
      · exact ⟨⟨0, 0, 0, 0, ByteArray.empty⟩, fun h => absurd h hi⟩
    obtain ⟨f, hf⟩ : ∃ f : Nat → ND, ∀ i, i < len → (W.cell? (a.add (i * 5)) = some (.int .i64 (f i).t) ∧ W.cell? (a.add (i * 5 + 1)) = some (.int .i64 (f i).k) ∧ W.cell? (a.add (i * 5 + 2)) = some (.int .i64 (f i).p) ∧ W.cell? (a.add (i * 5 + 3)) = some (.int .i64 (f i).n) ∧ W.cell? (a.add (i * 5 + 4)) = some (.string (f i).s) ∧ (f i).s.size ≤ maxLen) := ⟨fun i => Classical.choose (key i), fun i => Classical.choose_spec (key i)⟩
    refine ⟨_, (List.range len).map f, rfl, ⟨some a, cap, by simp, by simp; omega, hm, fun i hi => ?_⟩, fun b hb => ?_⟩
    · have hi' : i < len := by simpa using hi
      have h00 := (hf 0 (by omega)).1
      rw [Nat.zero_mul] at h00
      obtain ⟨b, off, rfl, hb⟩ := addr_of h00
      obtain ⟨q0, q1, q2, q3, q4, _⟩ := hf i hi'
      rw [add_at] at q0 q1 q2 q3 q4
      refine ⟨b, off, rfl, hb, ?_⟩
      simp only [List.getElem_map, List.getElem_range]
      exact ⟨q0, by simpa [Nat.add_assoc] using q1, by simpa [Nat.add_assoc] using q2, by simpa [Nat.add_assoc] using q3, by simpa [Nat.add_assoc] using q4⟩
    · simp only [List.mem_map, List.mem_range] at hb
      obtain ⟨i, hi, rfl⟩ := hb
      exact (hf i hi).2.2.2.2.2

/-- Notes that came in, opened. -/
theorem open_notes {H : Type} {enc : TypeId × Value → H} {W : World} {b0 : Nat} {r : Reach} {v : Value} {d : DataW H} {ps : List MemPlace} {sp : Nat → Bool} {hd : Bool}
    (hv : Value.okWide Try.prog W r b0 22 v) (h : DataW.Trod enc Try.prog W 0 sp hd 22 v d ps) :
    ∃ ns, RNS W.heap.size W v ns ∧ ∀ d ∈ ns, d.s.size ≤ maxLen := by
  obtain ⟨a, len, cap, rfl⟩ := okWide_slice Try.underlying22 hv
  obtain ⟨fuel, hf⟩ := h
  obtain ⟨v', L, e, h1, h2⟩ := trod_notes hf
  simp [Value.cells] at e
  subst e
  exact ⟨L, h1, h2⟩

set_option maxRecDepth 100000 in
/-- A question that came in, opened. -/
theorem open_ask {H : Type} {enc : TypeId × Value → H} {W : World} {b0 : Nat} {r : Reach} {v : Value} {d : DataW H} {ps : List MemPlace} {sp : Nat → Bool} {hd : Bool}
    (hv : Value.okWide Try.prog W r b0 24 v) (h : DataW.Trod enc Try.prog W 0 sp hd 24 v d ps) :
    ∃ a : AD, v = a.val ∧ a.part.size ≤ maxLen := by
  obtain ⟨cs, rfl, hsz⟩ := okWide_struct Try.underlying24 hv
  obtain ⟨fuel, hf⟩ := h
  have hC : Try.prog.cellsOf 24 = 5 := by kernel_rfl
  rw [hC] at hsz
  obtain ⟨l⟩ := cs
  match l, hsz with
  | [c0, c1, c2, c3, c4], _ =>
    obtain ⟨xs, m, rfl, _, _, hl, hx⟩ := DataW.trod_struct Try.underlying24 hf
    have h0 := hx 0 _ rfl
    have h1 := hx 1 _ rfl
    have h2 := hx 2 _ rfl
    have h3 := hx 3 _ rfl
    have h4 := hx 4 _ rfl
    match xs, hl with
    | [x0, x1, x2, x3, x4], _ =>
      have c3' : Try.prog.cellsOf 3 = 1 := by kernel_rfl
      have c9' : Try.prog.cellsOf 9 = 1 := by kernel_rfl
      obtain ⟨t, e0, _, _⟩ := DataW.trod_int Try.underlying3 h0
      obtain ⟨k, e1, _, _⟩ := DataW.trod_int Try.underlying3 h1
      obtain ⟨p, e2, _, _⟩ := DataW.trod_int Try.underlying3 h2
      obtain ⟨n, e3, _, _⟩ := DataW.trod_int Try.underlying3 h3
      obtain ⟨s, e4, _, hs⟩ := DataW.trod_string Try.underlying9 h4
      simp [Value.cells, c3', c9'] at e0 e1 e2 e3 e4
      subst e0 e1 e2 e3 e4
      exact ⟨⟨t, k, p, n, s⟩, rfl, hs⟩

theorem szAsk_any (a : AD) (left : Int) (w : World) (hs : a.part.size ≤ maxLen) (hl : 0 ≤ left) (hl' : left ≤ 1048576) :
    Calls Try.prog 6 #[a.val, .int .i64 left] w fun e w' => e = .returned (.int .i64 (if (a.part.size : Int) ≤ left then left - a.part.size else -1)) ∧ Below w.heap.size w w' := by
  unfold maxLen at hs
  unfold AD.val
  by_cases h : (a.part.size : Int) ≤ left
  all_goals
    go_enter Try.func6, Try.ntmps6
    go_wp2
    go_ret
    exact ⟨by simp [h], (Below.refl _ _).alloc (Nat.le_refl _) _⟩

set_option maxHeartbeats 1000000 in
theorem toAsk_any (a : AD) (w : World) :
    Calls Try.prog 9 #[a.val] w fun e w' => e = .returned a.val ∧ Below w.heap.size w w' := by
  unfold AD.val
  go_enter Try.func9, Try.ntmps9
  go_wp2
  exact bodyPost_ret (v := .agg #[.int .i64 a.lo, .int .i64 a.hi, .int .i64 a.kind, .int .i64 a.who, .string a.part]) (by simp [results, Try.results9, go_sem]) rfl ⟨rfl, (((Below.refl _ _).alloc (Nat.le_refl _) _).alloc (by simp) _).alloc (by simp; omega) _⟩

/-- A world behind a start: the program's own variables are there. -/
def Grd (W : World) : Prop := ∃ W0 : World, W0.ShapedOpen Try.prog ∧ Below W0.heap.size W0 W
theorem Grd.below {W W' : World} (h : Grd W) (hb : Below W.heap.size W W') : Grd W' := by
  obtain ⟨W0, h1, h2⟩ := h
  exact ⟨W0, h1, h2.trans (hb.mono h2.size)⟩
/-- What a function that finds, and one that counts, keeps to. -/
def FindC (F : Nat) : Prop := ∀ (N : Nat) (v : Value) (ns : List ND) (a : AD) (w : World), Grd w → RNS N w v ns → N ≤ w.heap.size → ns.length ≤ 100000000 → (∀ d ∈ ns, d.s.size ≤ 1000000000) → a.part.size ≤ 1000000000 →
  Calls Try.prog F #[v, a.val] w fun e w' => ∃ vo, e = .returned vo ∧ w'.ownsRow w.heap.size 3 1 vo (findL ns a).length ((findL ns a).map (Value.int .i64)) ∧ Below w.heap.size w w'
def CountsC (F : Nat) : Prop := ∀ (N : Nat) (v : Value) (ns : List ND) (w : World), Grd w → RNS N w v ns → N ≤ w.heap.size → ns.length ≤ 100000000 →
  Calls Try.prog F #[v] w fun e w' => ∃ vo, e = .returned vo ∧ w'.ownsRow w.heap.size 58 3 vo (countsL ns).length (cCells (countsL ns)) ∧ Below w.heap.size w w'
theorem specFindC : FindC 7 := fun N v ns a w _ h1 h2 h3 h4 h5 => specFind_any N v ns a w h1 h2 h3 h4 h5
theorem specCountsC : CountsC 16 := fun N v ns w _ h1 h2 h3 => specCounts_any N v ns w h1 h2 h3
end Go.Proofs.Ytepagknkhlpicac
