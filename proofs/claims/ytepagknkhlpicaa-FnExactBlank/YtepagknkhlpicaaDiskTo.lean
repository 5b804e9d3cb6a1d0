/-
  A disk that a call has made: what it owns. toByteSS, toWrite, toWriteS, toDisk.
-/
import Derived.Test.YtepagknkhlpicaaDiskRep
namespace Go.Proofs.Ytepagknkhlpicaa
open Go.ChangeShapes Go.WideShapes Go.ChangeAt Go.RowKit
set_option linter.unusedVariables false
set_option linter.unusedSimpArgs false

/-- The blocks of some values. -/
def fps (vs : List Value) : List Nat := vs.filterMap Value.ownBlock
theorem fps_append (a b : List Value) : fps (a ++ b) = fps a ++ fps b := by simp [fps]

/-- Rows of bytes, each owned. -/
def OwnRows (lo : Nat) (w : World) : List Value → List (List Int) → Prop
  | [], [] => True
  | v :: vs, b :: bs => (∃ e, w.ownsRow lo e 1 v b.length (b.map (Value.int .u8))) ∧ OwnRows lo w vs bs
  | _, _ => False
theorem OwnRows.length {lo : Nat} {w : World} : ∀ {vs : List Value} {L : List (List Int)}, OwnRows lo w vs L → vs.length = L.length
  | [], [], _ => rfl
  | [], _ :: _, h => h.elim
  | _ :: _, [], h => h.elim
  | _ :: vs, _ :: L, h => by simp [OwnRows.length h.2]
theorem OwnRows.snoc {lo e : Nat} {w : World} {v : Value} {b : List Int} : ∀ {vs : List Value} {L : List (List Int)}, OwnRows lo w vs L → w.ownsRow lo e 1 v b.length (b.map (Value.int .u8)) → OwnRows lo w (vs ++ [v]) (L ++ [b])
  | [], [], _, h => ⟨⟨_, h⟩, trivial⟩
  | [], _ :: _, h, _ => h.elim
  | _ :: _, [], h, _ => h.elim
  | _ :: vs, _ :: L, h, h' => ⟨h.1, OwnRows.snoc h.2 h'⟩
theorem OwnRows.get {lo : Nat} {w : World} : ∀ {vs : List Value} {L : List (List Int)}, OwnRows lo w vs L → ∀ (i : Nat) (h1 : i < vs.length) (h2 : i < L.length), ∃ e, w.ownsRow lo e 1 vs[i] L[i].length (L[i].map (Value.int .u8))
  | [], [], _, i, h1, _ => by simp at h1
  | [], _ :: _, h, _, _, _ => h.elim
  | _ :: _, [], h, _, _, _ => h.elim
  | _ :: vs, _ :: L, h, 0, _, _ => h.1
  | _ :: vs, _ :: L, h, i + 1, h1, h2 => by simpa using OwnRows.get h.2 i (by simpa using h1) (by simpa using h2)
theorem OwnRows.lt {lo : Nat} {w : World} : ∀ {vs : List Value} {L : List (List Int)}, OwnRows lo w vs L → ∀ k ∈ fps vs, lo ≤ k ∧ k < w.heap.size
  | [], [], _, k, hk => by simp [fps] at hk
  | [], _ :: _, h, _, _ => h.elim
  | _ :: _, [], h, _, _ => h.elim
  | v :: vs, _ :: L, h, k, hk => by
    simp only [fps, List.filterMap_cons] at hk
    cases hv : v.ownBlock with
    | none => rw [hv] at hk; exact OwnRows.lt h.2 k hk
    | some k' =>
      rw [hv] at hk
      simp only [List.mem_cons] at hk
      rcases hk with rfl | hk
      · exact h.1.elim fun _ h1 => h1.lt _ hv
      · exact OwnRows.lt h.2 k hk
/-- What is owned stays owned where its blocks are as they were. -/
theorem own_same {w w' : World} {lo e size : Nat} {v : Value} {n : Nat} {xs : List Value} (h : w.ownsRow lo e size v n xs) (hs : ∀ k, v.ownBlock = some k → w'.heap[k]? = w.heap[k]?) : w'.ownsRow lo e size v n xs := by
  obtain ⟨h1, h2⟩ := h
  refine ⟨h1, ?_⟩
  rcases h2 with h2 | ⟨g, cap, cur, hv, hg, hh, r⟩
  · exact .inl h2
  · exact .inr ⟨g, cap, cur, hv, hg, by rw [hs g (by rw [hv]; rfl)]; exact hh, r⟩
theorem OwnRows.same {lo : Nat} {w w' : World} : ∀ {vs : List Value} {L : List (List Int)}, OwnRows lo w vs L → (∀ k ∈ fps vs, w'.heap[k]? = w.heap[k]?) → OwnRows lo w' vs L
  | [], [], _, _ => trivial
  | [], _ :: _, h, _ => h.elim
  | _ :: _, [], h, _ => h.elim
  | v :: vs, _ :: L, h, hs => by
    refine ⟨h.1.imp fun _ h1 => own_same h1 (fun k hk => hs k ?_), OwnRows.same h.2 (fun k hk => hs k ?_)⟩
    · simp [fps, List.filterMap_cons, hk]
    · simp only [fps, List.filterMap_cons] at hk ⊢
      cases hv : v.ownBlock with
      | none => exact hk
      | some k' => exact List.mem_cons_of_mem _ hk
theorem OwnRows.low {lo lo' : Nat} {w : World} (hlo : lo' ≤ lo) : ∀ {vs : List Value} {L : List (List Int)}, OwnRows lo w vs L → OwnRows lo' w vs L
  | [], [], _ => trivial
  | [], _ :: _, h => h.elim
  | _ :: _, [], h => h.elim
  | v :: vs, _ :: L, h => by
    refine ⟨?_, OwnRows.low hlo h.2⟩
    obtain ⟨e, h1, h2⟩ := h.1
    refine ⟨e, h1, ?_⟩
    rcases h2 with h2 | ⟨g, cap, cur, hv, hg, r⟩
    · exact .inl h2
    · exact .inr ⟨g, cap, cur, hv, by omega, r⟩

/-- A slice of slices of bytes that a call has made, no two of which share memory. -/
structure OBB (lo : Nat) (w : World) (v : Value) (rows : List Value) (L : List (List Int)) : Prop where
  outer : w.ownsRow lo 22 1 v L.length rows
  inner : OwnRows lo w rows L
  apart : (fps (v :: rows)).Nodup

theorem infoBB : (Try.prog.info? 22).map (fun i => (i.zero, i.size, i.bytes)) = some (some (.slice none 0 0), 1, 24) := by kernel_rfl

theorem make_BB (n : Nat) (z : Int) (hz : z = n) (hn : n ≤ 1000000000) (w : World) :
    (Instr.makeSlice 55 (.int .i64 z) (.int .i64 z)).run Try.prog w = .ok (.slice (some ⟨w.heap.size, 0, none⟩) n n) (w.alloc (.cells (Array.replicate n (Value.slice none 0 0)) 22)) := by
  subst hz
  obtain ⟨i, hi, h1, h2, h3⟩ := info_parts infoBB
  rw [run_make w 55 22 i (.slice none 0 0) Try.underlying55 hi h1 .i64 .i64 n n (by omega) (Int.le_refl _) (by rw [h3]; omega) (by omega)]
  have e : madeCells (Value.cells (.slice none 0 0)) ((n : Int).toNat * i.size) = (Array.replicate n (Value.slice none 0 0)) := by
    apply Array.ext'
    rw [h2]
    simp only [Value.cells, Int.toNat_natCast, Nat.mul_one, Array.toList_replicate]
    exact toList_madeCells_one _ _
  rw [e]
  simp

theorem own_form {w : World} {lo e size : Nat} {v : Value} {n : Nat} {xs : List Value} (h : w.ownsRow lo e size v n xs) : ∃ a n' cap, v = .slice a n' cap := by
  rcases h.2 with ⟨h, _⟩ | ⟨g, cap, cur, h, _⟩
  · exact ⟨_, _, _, h⟩
  · exact ⟨_, _, _, h⟩
theorem own_low {w : World} {lo lo' e size : Nat} {v : Value} {n : Nat} {xs : List Value} (h : w.ownsRow lo e size v n xs) (hlo : lo' ≤ lo) : w.ownsRow lo' e size v n xs := by
  obtain ⟨h1, h2⟩ := h
  refine ⟨h1, ?_⟩
  rcases h2 with h2 | ⟨g, cap, cur, hv, hg, r⟩
  · exact .inl h2
  · exact .inr ⟨g, cap, cur, hv, by omega, r⟩
theorem fps_one (v : Value) : fps [v] = v.ownBlock.toList := by
  simp only [fps, List.filterMap_cons, List.filterMap_nil]
  cases v.ownBlock <;> rfl
theorem nodup_fps {rows : List Value} {v : Value} {M : Nat} (h : (fps rows).Nodup) (h1 : ∀ k ∈ fps rows, k < M) (h2 : ∀ k, v.ownBlock = some k → M ≤ k) : (fps (rows ++ [v])).Nodup := by
  rw [fps_append, fps_one]
  cases hv : v.ownBlock with
  | none => simpa using h
  | some k =>
    rw [Option.toList_some, List.nodup_append]
    exact ⟨h, by simp, fun a ha b hb => by simp at hb; subst hb; have := h1 a ha; have := h2 b hv; omega⟩
theorem take_set {c : Array Value} {j n : Nat} {rows : List Value} {v : Value} (hct : c.toList.take j = rows) (hcs : c.size = n) (hlt : j < n) : (c.setIfInBounds j v).toList.take (j + 1) = rows ++ [v] := by
  rw [List.take_succ_eq_append_getElem (by simp; omega)]
  simp only [Array.toList_setIfInBounds]
  rw [List.take_set_of_le (Nat.le_refl _), hct]
  simp

theorem nodup_snoc {l : List Nat} {x : Nat} (h : l.Nodup) (hx : x ∉ l) : (l ++ [x]).Nodup := by
  rw [List.nodup_append]
  exact ⟨h, by simp, fun a ha b hb => by simp at hb; subst hb; exact fun e => hx (e ▸ ha)⟩

theorem b2cells {w : World} {b : Nat} {x0 x1 : Value} {T : TypeId} (h : w.heap[b]? = some (.cells #[x0, x1] T (0, 0))) :
    (w.cell? ⟨b, 0, none⟩ = some x0 ∧ w.cell? ⟨b, 1, none⟩ = some x1) ∧ ∀ j, w.frozen? ⟨b, j, none⟩ = false := by
  refine ⟨⟨?_, ?_⟩, fun j => Joins.unfrozen_of_block h j⟩ <;> (rw [Joins.cell_of_block h]; rfl)

/-- The cells of some writes. -/
def wCells : List Value → List WD → List Value
  | v :: vs, d :: ds => .int .i64 d.blk :: v :: wCells vs ds
  | _, _ => []
theorem wCells_length : ∀ (vs : List Value) (L : List WD), vs.length = L.length → (wCells vs L).length = L.length * 2
  | [], [], _ => rfl
  | [], _ :: _, h => by simp at h
  | _ :: _, [], h => by simp at h
  | _ :: vs, _ :: L, h => by simp [wCells, wCells_length vs L (by simpa using h)]; omega
theorem wCells_snoc : ∀ (vs : List Value) (L : List WD) (v : Value) (d : WD), vs.length = L.length → wCells (vs ++ [v]) (L ++ [d]) = wCells vs L ++ [.int .i64 d.blk, v]
  | [], [], _, _, _ => rfl
  | [], _ :: _, _, _, h => by simp at h
  | _ :: _, [], _, _, h => by simp at h
  | _ :: vs, _ :: L, v, d, h => by simp [wCells, wCells_snoc vs L v d (by simpa using h)]

/-- A slice of writes that a call has made, no two lists of which share memory. -/
structure OWW (lo : Nat) (w : World) (v : Value) (rows : List Value) (L : List WD) : Prop where
  outer : w.ownsRow lo 130 2 v L.length (wCells rows L)
  inner : OwnRows lo w rows (L.map WD.bs)
  apart : (fps (v :: rows)).Nodup

theorem infoW : (Try.prog.info? 130).map (fun i => (i.zero, i.size, i.bytes)) = some (some (.agg #[.int .i64 0, .slice none 0 0]), 2, 32) := by kernel_rfl

theorem make_WW (n : Nat) (z : Int) (hz : z = n) (hn : n ≤ 1000000000) (w : World) :
    ∃ c : Array Value, c.size = n * 2 ∧ (Instr.makeSlice 56 (.int .i64 z) (.int .i64 z)).run Try.prog w = .ok (.slice (some ⟨w.heap.size, 0, none⟩) n n) (w.alloc (.cells c 130)) := by
  subst hz
  obtain ⟨i, hi, h1, h2, h3⟩ := info_parts infoW
  refine ⟨madeCells (Value.cells (.agg #[.int .i64 0, .slice none 0 0])) ((n : Int).toNat * i.size), by rw [size_madeCells, h2]; simp, ?_⟩
  rw [run_make w 56 130 i (.agg #[.int .i64 0, .slice none 0 0]) Try.underlying56 hi h1 .i64 .i64 n n (by omega) (Int.le_refl _) (by rw [h3]; omega) (by omega)]
  simp

theorem take_set2 {c : Array Value} {j n : Nat} {rows : List Value} {v u : Value} (hct : c.toList.take (j * 2) = rows) (hcs : c.size = n * 2) (hlt : j < n) : ((c.setIfInBounds (j * 2) v).setIfInBounds (j * 2 + 1) u).toList.take ((j + 1) * 2) = rows ++ [v, u] := by
  have h1 := take_set (v := v) hct rfl (by omega : j * 2 < c.size)
  have h2 := take_set (c := c.setIfInBounds (j * 2) v) (v := u) h1 rfl (by simp; omega)
  have e : (j + 1) * 2 = j * 2 + 1 + 1 := by omega
  rw [e, h2]
  simp

/-- A disk as data. -/
structure DD where
  bb : List (List Int)
  ws : List WD
/-- How many places it has. -/
def sumL : List (List Int) → Nat
  | [] => 0
  | b :: r => b.length + sumL r
def DD.small (D : DD) : Prop := D.bb.length ≤ 100000000 ∧ D.ws.length ≤ 100000000 ∧ (∀ x ∈ D.bb, x.length ≤ 100000000) ∧ (∀ x ∈ D.ws, x.bs.length ≤ 100000000)
structure RDisk (N : Nat) (w : World) (v1 v2 : Value) (D : DD) : Prop where
  bb : RBB N w v1 D.bb
  ws : RWW N w v2 D.ws
theorem RDisk.below {N : Nat} {w w' : World} {v1 v2 : Value} {D : DD} (h : RDisk N w v1 v2 D) (hb : Below N w w') : RDisk N w' v1 v2 D := ⟨h.bb.below hb, h.ws.below hb⟩
theorem RDisk.mono {N N' : Nat} {w : World} {v1 v2 : Value} {D : DD} (h : RDisk N w v1 v2 D) (hN : N ≤ N') : RDisk N' w v1 v2 D := ⟨h.bb.mono hN, h.ws.mono hN⟩
structure ODisk (lo : Nat) (w : World) (v1 v2 : Value) (r1 r2 : List Value) (D : DD) : Prop where
  bb : OBB lo w v1 r1 D.bb
  ws : OWW lo w v2 r2 D.ws
  apart : ∀ k ∈ fps (v1 :: r1), k ∉ fps (v2 :: r2)

theorem fps_cons_mem {v : Value} {vs : List Value} {k : Nat} : k ∈ fps (v :: vs) ↔ v.ownBlock = some k ∨ k ∈ fps vs := by
  simp only [fps, List.filterMap_cons]
  cases v.ownBlock with
  | none => simp
  | some x => simp [eq_comm]
theorem OBB.lt {lo : Nat} {w : World} {v : Value} {rows : List Value} {L : List (List Int)} (h : OBB lo w v rows L) : ∀ k ∈ fps (v :: rows), lo ≤ k ∧ k < w.heap.size := by
  intro k hk
  rcases fps_cons_mem.1 hk with hk | hk
  · exact h.outer.lt k hk
  · exact h.inner.lt k hk
theorem OWW.lt {lo : Nat} {w : World} {v : Value} {rows : List Value} {L : List WD} (h : OWW lo w v rows L) : ∀ k ∈ fps (v :: rows), lo ≤ k ∧ k < w.heap.size := by
  intro k hk
  rcases fps_cons_mem.1 hk with hk | hk
  · exact h.outer.lt k hk
  · exact h.inner.lt k hk
theorem OBB.same {lo : Nat} {w w' : World} {v : Value} {rows : List Value} {L : List (List Int)} (h : OBB lo w v rows L) (hs : ∀ k ∈ fps (v :: rows), w'.heap[k]? = w.heap[k]?) : OBB lo w' v rows L :=
  ⟨own_same h.outer (fun k hk => hs k (fps_cons_mem.2 (.inl hk))), h.inner.same (fun k hk => hs k (fps_cons_mem.2 (.inr hk))), h.apart⟩
theorem OWW.same {lo : Nat} {w w' : World} {v : Value} {rows : List Value} {L : List WD} (h : OWW lo w v rows L) (hs : ∀ k ∈ fps (v :: rows), w'.heap[k]? = w.heap[k]?) : OWW lo w' v rows L :=
  ⟨own_same h.outer (fun k hk => hs k (fps_cons_mem.2 (.inl hk))), h.inner.same (fun k hk => hs k (fps_cons_mem.2 (.inr hk))), h.apart⟩
theorem OBB.low {lo lo' : Nat} {w : World} {v : Value} {rows : List Value} {L : List (List Int)} (h : OBB lo w v rows L) (hlo : lo' ≤ lo) : OBB lo' w v rows L := ⟨own_low h.outer hlo, h.inner.low hlo, h.apart⟩
theorem OWW.low {lo lo' : Nat} {w : World} {v : Value} {rows : List Value} {L : List WD} (h : OWW lo w v rows L) (hlo : lo' ≤ lo) : OWW lo' w v rows L := ⟨own_low h.outer hlo, h.inner.low hlo, h.apart⟩

end Go.Proofs.Ytepagknkhlpicaa
