/-
  A disk that a call has made: what it owns. toByteSS, toWrite, toWriteS, toDisk.
-/
import Derived.Test.YtepagknkhlpicabRRRRDiskRep
namespace Go.Proofs.YtepagknkhlpicabRRRR
open Go.ChangeShapes Go.WideShapes Go.ChangeAt Go.RowKit
set_option linter.unusedVariables false
set_option linter.unusedSimpArgs false

/-- The blocks of some values. -/
def fps (vs : List Value) : List Nat := vs.filterMap Value.ownBlock
theorem fps_append (a b : List Value) : fps (a ++ b) = fps a ++ fps b := by simp [fps]

/-- Rows of bytes, each owned. -/
def OwnRows (lo : Nat) (w : World) : List Value → List (List Int) → Prop
  | [], [] => True
  | v :: vs, b :: bs => (∃ e, w.ownsRow lo e 1 v b.length (b.map (Value.int .u8))) ∧ OwnRows lo w vs bs
  | _, _ => False
theorem OwnRows.length {lo : Nat} {w : World} : ∀ {vs : List Value} {L : List (List Int)}, OwnRows lo w vs L → vs.length = L.length
  | [], [], _ => rfl
  | [], _ :: _, h => h.elim
  | _ :: _, [], h => h.elim
  | _ :: vs, _ :: L, h => by simp [OwnRows.length h.2]
theorem OwnRows.snoc {lo e : Nat} {w : World} {v : Value} {b : List Int} : ∀ {vs : List Value} {L : List (List Int)}, OwnRows lo w vs L → w.ownsRow lo e 1 v b.length (b.map (Value.int .u8)) → OwnRows lo w (vs ++ [v]) (L ++ [b])
  | [], [], _, h => ⟨⟨_, h⟩, trivial⟩
  | [], _ :: _, h, _ => h.elim
  | _ :: _, [], h, _ => h.elim
  | _ :: vs, _ :: L, h, h' => ⟨h.1, OwnRows.snoc h.2 h'⟩
theorem OwnRows.get {lo : Nat} {w : World} : ∀ {vs : List Value} {L : List (List Int)}, OwnRows lo w vs L → ∀ (i : Nat) (h1 : i < vs.length) (h2 : i < L.length), ∃ e, w.ownsRow lo e 1 vs[i] L[i].length (L[i].map (Value.int .u8))
  | [], [], _, i, h1, _ => by simp at h1
  | [], _ :: _, h, _, _, _ => h.elim
  | _ :: _, [], h, _, _, _ => h.elim
  | _ :: vs, _ :: L, h, 0, _, _ => h.1
  | _ :: vs, _ :: L, h, i + 1, h1, h2 => by simpa using OwnRows.get h.2 i (by simpa using h1) (by simpa using h2)
theorem OwnRows.lt {lo : Nat} {w : World} : ∀ {vs : List Value} {L : List (List Int)}, OwnRows lo w vs L → ∀ k ∈ fps vs, lo ≤ k ∧ k < w.heap.size
  | [], [], _, k, hk => by simp [fps] at hk
  | [], _ :: _, h, _, _ => h.elim
  | _ :: _, [], h, _, _ => h.elim
  | v :: vs, _ :: L, h, k, hk => by
    simp only [fps, List.filterMap_cons] at hk
    cases hv : v.ownBlock with
    | none => rw [hv] at hk; exact OwnRows.lt h.2 k hk
    | some k' =>
      rw [hv] at hk
      simp only [List.mem_cons] at hk
      rcases hk with rfl | hk
      · exact h.1.elim fun _ h1 => h1.lt _ hv
      · exact OwnRows.lt h.2 k hk
/-- What is owned stays owned where its blocks are as they were. -/
theorem own_same {w w' : World} {lo e size : Nat} {v : Value} {n : Nat} {xs : List Value} (h : w.ownsRow lo e size v n xs) (hs : ∀ k, v.ownBlock = some k → w'.heap[k]? = w.heap[k]?) : w'.ownsRow lo e size v n xs := by
  obtain ⟨h1, h2⟩ := h
  refine ⟨h1, ?_⟩
  rcases h2 with h2 | ⟨g, cap, cur, hv, hg, hh, r⟩
  · exact .inl h2
  · exact .inr ⟨g, cap, cur, hv, hg, by rw [hs g (by rw [hv]; rfl)]; exact hh, r⟩
theorem OwnRows.same {lo : Nat} {w w' : World} : ∀ {vs : List Value} {L : List (List Int)}, OwnRows lo w vs L → (∀ k ∈ fps vs, w'.heap[k]? = w.heap[k]?) → OwnRows lo w' vs L
  | [], [], _, _ => trivial
  | [], _ :: _, h, _ => h.elim
  | _ :: _, [], h, _ => h.elim
  | v :: vs, _ :: L, h, hs => by
    refine ⟨h.1.imp fun _ h1 => own_same h1 (fun k hk => hs k ?_), OwnRows.same h.2 (fun k hk => hs k ?_)⟩
    · simp [fps, List.filterMap_cons, hk]
    · simp only [fps, List.filterMap_cons] at hk ⊢
      cases hv : v.ownBlock with
      | none => exact hk
      | some k' => exact List.mem_cons_of_mem _ hk
theorem OwnRows.low {lo lo' : Nat} {w : World} (hlo : lo' ≤ lo) : ∀ {vs : List Value} {L : List (List Int)}, OwnRows lo w vs L → OwnRows lo' w vs L
  | [], [], _ => trivial
  | [], _ :: _, h => h.elim
  | _ :: _, [], h => h.elim
  | v :: vs, _ :: L, h => by
    refine ⟨?_, OwnRows.low hlo h.2⟩
    obtain ⟨e, h1, h2⟩ := h.1
    refine ⟨e, h1, ?_⟩
    rcases h2 with h2 | ⟨g, cap, cur, hv, hg, r⟩
    · exact .inl h2
    · exact .inr ⟨g, cap, cur, hv, by omega, r⟩

/-- A slice of slices of bytes that a call has made, no two of which share memory. -/
structure OBB (lo : Nat) (w : World) (v : Value) (rows : List Value) (L : List (List Int)) : Prop where
  outer : w.ownsRow lo 34 1 v L.length rows
  inner : OwnRows lo w rows L
  apart : (fps (v :: rows)).Nodup

theorem infoBB : (Try.prog.info? 34).map (fun i => (i.zero, i.size, i.bytes)) = some (some (.slice none 0 0), 1, 24) := by kernel_rfl

theorem make_BB (n : Nat) (z : Int) (hz : z = n) (hn : n ≤ 1000000000) (w : World) :
    (Instr.makeSlice 22 (.int .i64 z) (.int .i64 z)).run Try.prog w = .ok (.slice (some ⟨w.heap.size, 0, none⟩) n n) (w.alloc (.cells (Array.replicate n (Value.slice none 0 0)) 34)) := by
  subst hz
  obtain ⟨i, hi, h1, h2, h3⟩ := info_parts infoBB
  rw [run_make w 22 34 i (.slice none 0 0) Try.underlying22 hi h1 .i64 .i64 n n (by omega) (Int.le_refl _) (by rw [h3]; omega) (by omega)]
  have e : madeCells (Value.cells (.slice none 0 0)) ((n : Int).toNat * i.size) = (Array.replicate n (Value.slice none 0 0)) := by
    apply Array.ext'
    rw [h2]
    simp only [Value.cells, Int.toNat_natCast, Nat.mul_one, Array.toList_replicate]
    exact toList_madeCells_one _ _
  rw [e]
  simp

theorem own_form {w : World} {lo e size : Nat} {v : Value} {n : Nat} {xs : List Value} (h : w.ownsRow lo e size v n xs) : ∃ a n' cap, v = .slice a n' cap := by
  rcases h.2 with ⟨h, _⟩ | ⟨g, cap, cur, h, _⟩
  · exact ⟨_, _, _, h⟩
  · exact ⟨_, _, _, h⟩
theorem own_low {w : World} {lo lo' e size : Nat} {v : Value} {n : Nat} {xs : List Value} (h : w.ownsRow lo e size v n xs) (hlo : lo' ≤ lo) : w.ownsRow lo' e size v n xs := by
  obtain ⟨h1, h2⟩ := h
  refine ⟨h1, ?_⟩
  rcases h2 with h2 | ⟨g, cap, cur, hv, hg, r⟩
  · exact .inl h2
  · exact .inr ⟨g, cap, cur, hv, by omega, r⟩
theorem fps_one (v : Value) : fps [v] = v.ownBlock.toList := by
  simp only [fps, List.filterMap_cons, List.filterMap_nil]
  cases v.ownBlock <;> rfl
theorem nodup_fps {rows : List Value} {v : Value} {M : Nat} (h : (fps rows).Nodup) (h1 : ∀ k ∈ fps rows, k < M) (h2 : ∀ k, v.ownBlock = some k → M ≤ k) : (fps (rows ++ [v])).Nodup := by
  rw [fps_append, fps_one]
  cases hv : v.ownBlock with
  | none => simpa using h
  | some k =>
    rw [Option.toList_some, List.nodup_append]
    exact ⟨h, by simp, fun a ha b hb => by simp at hb; subst hb; have := h1 a ha; have := h2 b hv; omega⟩
theorem take_set {c : Array Value} {j n : Nat} {rows : List Value} {v : Value} (hct : c.toList.take j = rows) (hcs : c.size = n) (hlt : j < n) : (c.setIfInBounds j v).toList.take (j + 1) = rows ++ [v] := by
  rw [List.take_succ_eq_append_getElem (by simp; omega)]
  simp only [Array.toList_setIfInBounds]
  rw [List.take_set_of_le (Nat.le_refl _), hct]
  simp

theorem nodup_snoc {l : List Nat} {x : Nat} (h : l.Nodup) (hx : x ∉ l) : (l ++ [x]).Nodup := by
  rw [List.nodup_append]
  exact ⟨h, by simp, fun a ha b hb => by simp at hb; subst hb; exact fun e => hx (e ▸ ha)⟩

set_option maxHeartbeats 2000000 in
theorem toBB_any (N : Nat) (v : Value) (L : List (List Int)) (w : World) (h : RBB N w v L) (hN : N ≤ w.heap.size) (hl : L.length ≤ 100000000) (hL : ∀ x ∈ L, x.length ≤ 100000000) :
    Calls Try.prog 27 #[v] w fun e w' => ∃ v' rows, e = .returned v' ∧ OBB w.heap.size w' v' rows L ∧ Below w.heap.size w w' := by
  have HR : Hid (RBB N w v L) := h
  obtain ⟨a, cap, rfl, h1, h2, hx⟩ := h
  have hmk := make_BB L.length (L.length : Int) rfl (by omega)
  unfold maxLen at h2
  go_enter Try.func27, Try.ntmps27
  go_wp2
  go_loopw [4] (fun i wr => ∃ (j : Nat) (c : Array Value) (rows : List Value), j ≤ L.length ∧ i = .int .i64 j ∧ wr.heap[w.heap.size]? = some (.cells c 34 (0, 0)) ∧ c.size = L.length ∧ c.toList.take j = rows ∧ OwnRows (w.heap.size + 1) wr rows (L.take j) ∧ (fps rows).Nodup ∧ Below w.heap.size w wr ∧ w.heap.size < wr.heap.size) (fun i _ => L.length - (intOf i).toNat)
  case atStart => exact ⟨0, _, [], Nat.zero_le _, rfl, heap_alloc_new w _, by simp, by simp, trivial, by simp [fps], (Below.refl _ w).alloc (Nat.le_refl _) _, by simp⟩
  case round =>
    obtain ⟨j, c, rows, hj, rfl, hg, hcs, hct, hrows, hnd, hb, hsz⟩ := hrel
    by_cases hlt : j < L.length
    · obtain ⟨g, o, vi, rfl, hgN, hc, hr⟩ := hx j hlt
      have hc' : wr.cell? ⟨g, o + j, none⟩ = some vi := by rw [hb.cell (p := ⟨g, o + j, none⟩) (show g < w.heap.size by omega)]; exact hc
      have hri : RdB N wr vi L[j] := hr.below (hb.mono hN)
      have hLj := hL L[j] (List.getElem_mem hlt)
      have htk : L.take (j + 1) = L.take j ++ [L[j]] := List.take_succ_eq_append_getElem hlt
      generalize hbj : L[j] = bj at hri hLj htk
      have HTK : Hid (L.take (j + 1) = L.take j ++ [bj]) := htk
      clear hx hc hr hbj htk
      go_wp2_with (go_at_call 21; refine (toBytes_any vi bj _ hri.1 (by omega) (fun k hk => by rcases hri.2 k hk with h | h; exact .inl h; exact .inr (by omega))).mono ?_; rintro e w1 ⟨v1, rfl, own1, b1⟩; obtain ⟨a1, n1, k1, rfl⟩ := own_form own1; have hg1 : w1.heap[w.heap.size]? = some (.cells c 34 (0, 0)) := (by rw [b1.block _ hsz]; exact hg); have hfz := Joins.unfrozen_of_block hg1 j; have hcl : ∃ x, w1.cell? ⟨w.heap.size, j, none⟩ = some x := (by rw [Joins.cell_of_block hg1]; exact ⟨_, Array.getElem?_eq_getElem (by omega)⟩); obtain ⟨x, hcl⟩ := hcl)
      go_roundw
      case rel =>
        have z1 := b1.size
        have hrl := hrows.lt
        have hbw : But (fun k => k = w.heap.size) w1 (w1.setCell ⟨w.heap.size, j, none⟩ (.slice a1 n1 k1)) := ⟨rfl, rfl, rfl, by simp [World.setCell], fun k hk => by rw [Below.heap_setCell _ _ _ _ hk]⟩
        refine ⟨j + 1, c.setIfInBounds j (.slice a1 n1 k1), rows ++ [.slice a1 n1 k1], by omega, by go_num, Joins.block_setCell hg1 _, by simp [hcs], take_set hct hcs hlt, ?_, nodup_fps hnd (fun k hk => (hrl k hk).2) (fun k hk => (own1.lt k hk).1), (hb.trans (b1.mono (by omega))).setCell (by simp) _, by simp [World.setCell]; omega⟩
        rw [HTK.out]
        refine OwnRows.snoc (hrows.same (fun k hk => ?_)) (own_low (own_same own1 (fun k hk => hbw.block k ?_)) (by omega))
        · have := hrl k hk
          rw [hbw.block k (by omega), b1.block k (by omega)]
        · have := own1.lt k hk
          omega
      case measure => simp [intOf]; omega
    · have : j = L.length := by omega
      subst this
      go_wp2
      go_ret
      rw [List.take_length] at hrows
      have hrl := hrows.length
      have hlt := hrows.lt
      refine ⟨.slice (some ⟨w.heap.size, 0, none⟩) L.length L.length, rows, rfl, ⟨⟨by simpa using hrl, .inr ⟨w.heap.size, L.length, c, rfl, Nat.le_refl _, hg, Nat.le_refl _, by unfold maxLen; omega, by omega, by rw [Nat.mul_one]; exact hct⟩⟩, hrows.low (by omega), ?_⟩, hb⟩
      have e : fps (Value.slice (some ⟨w.heap.size, 0, none⟩) L.length L.length :: rows) = w.heap.size :: fps rows := by simp [fps, Value.ownBlock]
      rw [e, List.nodup_cons]
      exact ⟨fun h => by have := hlt _ h; omega, hnd⟩

theorem b2cells {w : World} {b : Nat} {x0 x1 : Value} {T : TypeId} (h : w.heap[b]? = some (.cells #[x0, x1] T (0, 0))) :
    (w.cell? ⟨b, 0, none⟩ = some x0 ∧ w.cell? ⟨b, 1, none⟩ = some x1) ∧ ∀ j, w.frozen? ⟨b, j, none⟩ = false := by
  refine ⟨⟨?_, ?_⟩, fun j => Joins.unfrozen_of_block h j⟩ <;> (rw [Joins.cell_of_block h]; rfl)

set_option maxHeartbeats 2000000 in
theorem toWrite_any (N : Nat) (vi : Value) (blk : Int) (bs : List Int) (w : World) (h : RdB N w vi bs) (hN : N ≤ w.heap.size) (hl : bs.length ≤ 100000000) :
    Calls Try.prog 40 #[.agg #[.int .i64 blk, vi]] w fun e w' => ∃ v', e = .returned (.agg #[.int .i64 blk, v']) ∧ w'.ownsRow w.heap.size 5 1 v' bs.length (bs.map (Value.int .u8)) ∧ Below w.heap.size w w' := by
  obtain ⟨ai, ni, ci, rfl⟩ : ∃ a n cap, vi = .slice a n cap := by obtain ⟨a, cap, e, _⟩ := h.1; exact ⟨a, _, cap, e⟩
  have hb3 : Below w.heap.size w (((w.alloc (.cells #[.int .i64 blk, .slice ai ni ci] 69)).alloc (.cells #[.int .i64 0, .slice none 0 0] 52)).alloc (.cells #[.int .i64 blk, .slice none 0 0] 52)) := (((Below.refl _ w).alloc (Nat.le_refl _) _).alloc (by simp) _).alloc (by simp; omega) _
  go_enter Try.func40, Try.ntmps40
  go_wp2_with fail
  refine (toBytes_any _ bs _ (h.below (hb3.mono hN)).1 (by omega) (fun k hk => by rcases h.2 k hk with h | h; exact .inl h; exact .inr (by simp; omega))).mono ?_; rintro e w1 ⟨v1, rfl, own1, b1⟩
  obtain ⟨a1, n1, k1, rfl⟩ := own_form own1
  have z1 := b1.size
  simp only [World.size_alloc] at z1
  have hr : w1.heap[w.heap.size + 1]? = some (.cells #[.int .i64 0, .slice none 0 0] 52 (0, 0)) := by
    rw [b1.block _ (by simp)]
    rw [Below.heap_alloc _ _ _ (by simp)]
    exact alloc2_snd w _ _
  have ho : w1.heap[w.heap.size + 1 + 1]? = some (.cells #[.int .i64 blk, .slice none 0 0] 52 (0, 0)) := by
    rw [b1.block _ (by simp)]
    have h := heap_alloc_new ((w.alloc (.cells #[.int .i64 blk, .slice ai ni ci] 69)).alloc (.cells #[.int .i64 0, .slice none 0 0] 52)) (.cells #[.int .i64 blk, .slice none 0 0] 52)
    have e : ((w.alloc (.cells #[.int .i64 blk, .slice ai ni ci] 69)).alloc (.cells #[.int .i64 0, .slice none 0 0] 52)).heap.size = w.heap.size + 1 + 1 := by simp
    rw [e] at h
    exact h
  obtain ⟨⟨r0, r1⟩, fr⟩ := b2cells hr
  obtain ⟨⟨o0, o1⟩, fo⟩ := b2cells ho
  clear hr ho
  go_wp2
  have q1 : w.heap.size + 1 + 1 ≠ w.heap.size + 1 := by omega
  have q2 : w.heap.size + 1 ≠ w.heap.size + 1 + 1 := by omega
  have ownF : (((w1.setCell ⟨w.heap.size + 1 + 1, 1, none⟩ (.slice a1 n1 k1)).setCell ⟨w.heap.size + 1, 0, none⟩ (.int .i64 blk)).setCell ⟨w.heap.size + 1, 1, none⟩ (.slice a1 n1 k1)).ownsRow w.heap.size 5 1 (.slice a1 n1 k1) bs.length (bs.map (Value.int .u8)) := by
    refine own_low (own_same own1 (fun k hk => ?_)) (by simp; omega)
    have := (own1.lt k hk).1
    simp only [World.size_alloc] at this
    rw [Below.heap_setCell _ _ _ _ (by simp; omega), Below.heap_setCell _ _ _ _ (by simp; omega), Below.heap_setCell _ _ _ _ (by simp; omega)]
  refine bodyPost_ret (v := .agg #[.int .i64 blk, .slice a1 n1 k1]) (by simp [results, Try.results40, go_sem, r0, r1, o0, o1, q1, q2]) rfl ⟨_, rfl, ownF, ?_⟩
  iterate 3 refine Below.setCell ?_ (by simp <;> omega) _
  exact hb3.trans (b1.mono (by simp; omega))

/-- The cells of some writes. -/
def wCells : List Value → List WD → List Value
  | v :: vs, d :: ds => .int .i64 d.blk :: v :: wCells vs ds
  | _, _ => []
theorem wCells_length : ∀ (vs : List Value) (L : List WD), vs.length = L.length → (wCells vs L).length = L.length * 2
  | [], [], _ => rfl
  | [], _ :: _, h => by simp at h
  | _ :: _, [], h => by simp at h
  | _ :: vs, _ :: L, h => by simp [wCells, wCells_length vs L (by simpa using h)]; omega
theorem wCells_snoc : ∀ (vs : List Value) (L : List WD) (v : Value) (d : WD), vs.length = L.length → wCells (vs ++ [v]) (L ++ [d]) = wCells vs L ++ [.int .i64 d.blk, v]
  | [], [], _, _, _ => rfl
  | [], _ :: _, _, _, h => by simp at h
  | _ :: _, [], _, _, h => by simp at h
  | _ :: vs, _ :: L, v, d, h => by simp [wCells, wCells_snoc vs L v d (by simpa using h)]

/-- A slice of writes that a call has made, no two lists of which share memory. -/
structure OWW (lo : Nat) (w : World) (v : Value) (rows : List Value) (L : List WD) : Prop where
  outer : w.ownsRow lo 52 2 v L.length (wCells rows L)
  inner : OwnRows lo w rows (L.map WD.bs)
  apart : (fps (v :: rows)).Nodup

theorem infoW : (Try.prog.info? 52).map (fun i => (i.zero, i.size, i.bytes)) = some (some (.agg #[.int .i64 0, .slice none 0 0]), 2, 32) := by kernel_rfl

theorem make_WW (n : Nat) (z : Int) (hz : z = n) (hn : n ≤ 1000000000) (w : World) :
    ∃ c : Array Value, c.size = n * 2 ∧ (Instr.makeSlice 28 (.int .i64 z) (.int .i64 z)).run Try.prog w = .ok (.slice (some ⟨w.heap.size, 0, none⟩) n n) (w.alloc (.cells c 52)) := by
  subst hz
  obtain ⟨i, hi, h1, h2, h3⟩ := info_parts infoW
  refine ⟨madeCells (Value.cells (.agg #[.int .i64 0, .slice none 0 0])) ((n : Int).toNat * i.size), by rw [size_madeCells, h2]; simp, ?_⟩
  rw [run_make w 28 52 i (.agg #[.int .i64 0, .slice none 0 0]) Try.underlying28 hi h1 .i64 .i64 n n (by omega) (Int.le_refl _) (by rw [h3]; omega) (by omega)]
  simp

theorem take_set2 {c : Array Value} {j n : Nat} {rows : List Value} {v u : Value} (hct : c.toList.take (j * 2) = rows) (hcs : c.size = n * 2) (hlt : j < n) : ((c.setIfInBounds (j * 2) v).setIfInBounds (j * 2 + 1) u).toList.take ((j + 1) * 2) = rows ++ [v, u] := by
  have h1 := take_set (v := v) hct rfl (by omega : j * 2 < c.size)
  have h2 := take_set (c := c.setIfInBounds (j * 2) v) (v := u) h1 rfl (by simp; omega)
  have e : (j + 1) * 2 = j * 2 + 1 + 1 := by omega
  rw [e, h2]
  simp

set_option maxHeartbeats 2000000 in
theorem toWW_any (N : Nat) (v : Value) (L : List WD) (w : World) (h : RWW N w v L) (hN : N ≤ w.heap.size) (hl : L.length ≤ 100000000) (hL : ∀ x ∈ L, x.bs.length ≤ 100000000) :
    Calls Try.prog 28 #[v] w fun e w' => ∃ v' rows, e = .returned v' ∧ OWW w.heap.size w' v' rows L ∧ Below w.heap.size w w' := by
  obtain ⟨a, cap, rfl, h1, h2, hx⟩ := h
  obtain ⟨c0, hc0, hmk⟩ := make_WW L.length (L.length : Int) rfl (by omega) w
  unfold maxLen at h2
  go_enter Try.func28, Try.ntmps28
  go_wp2
  go_loopw [4] (fun i wr => ∃ (j : Nat) (c : Array Value) (rows : List Value), j ≤ L.length ∧ i = .int .i64 j ∧ wr.heap[w.heap.size]? = some (.cells c 52 (0, 0)) ∧ c.size = L.length * 2 ∧ c.toList.take (j * 2) = wCells rows (L.take j) ∧ OwnRows (w.heap.size + 1) wr rows ((L.take j).map WD.bs) ∧ (fps rows).Nodup ∧ Below w.heap.size w wr ∧ w.heap.size < wr.heap.size) (fun i _ => L.length - (intOf i).toNat)
  case atStart => exact ⟨0, _, [], Nat.zero_le _, rfl, heap_alloc_new w _, hc0, by simp [wCells], trivial, by simp [fps], (Below.refl _ w).alloc (Nat.le_refl _) _, by simp⟩
  case round =>
    obtain ⟨j, c, rows, hj, rfl, hg, hcs, hct, hrows, hnd, hb, hsz⟩ := hrel
    by_cases hlt : j < L.length
    · obtain ⟨g, o, vi, rfl, hgN, hc, hcc, hr⟩ := hx j hlt
      have hc' : wr.cell? ⟨g, o + j * 2, none⟩ = some (.int .i64 L[j].blk) := by rw [hb.cell (p := ⟨g, o + j * 2, none⟩) (show g < w.heap.size by omega)]; exact hc
      have hcc' : wr.cell? ⟨g, o + j * 2 + 1, none⟩ = some vi := by rw [hb.cell (p := ⟨g, o + j * 2 + 1, none⟩) (show g < w.heap.size by omega)]; exact hcc
      have hri : RdB N wr vi L[j].bs := hr.below (hb.mono hN)
      have hLj := hL L[j] (List.getElem_mem hlt)
      have htk : L.take (j + 1) = L.take j ++ [L[j]] := List.take_succ_eq_append_getElem hlt
      generalize hbj : L[j] = bj at hri hLj htk hc'
      have HTK : Hid (L.take (j + 1) = L.take j ++ [bj]) := htk
      clear hx hc hcc hr hbj htk
      go_wp2_with (go_at_call 40; refine (toWrite_any N vi bj.blk bj.bs _ hri (by omega) (by omega)).mono ?_; rintro e w1 ⟨v1, rfl, own1, b1⟩; obtain ⟨a1, n1, k1, rfl⟩ := own_form own1; have hg1 : w1.heap[w.heap.size]? = some (.cells c 52 (0, 0)) := (by rw [b1.block _ hsz]; exact hg); have hfz := (fun q => Joins.unfrozen_of_block hg1 q); have hcl : ∃ x, w1.cell? ⟨w.heap.size, j * 2, none⟩ = some x := (by rw [Joins.cell_of_block hg1]; exact ⟨_, Array.getElem?_eq_getElem (by omega)⟩); obtain ⟨x, hcl⟩ := hcl; have hcl2 : ∃ x, w1.cell? ⟨w.heap.size, j * 2 + 1, none⟩ = some x := (by rw [Joins.cell_of_block hg1]; exact ⟨_, Array.getElem?_eq_getElem (by omega)⟩); obtain ⟨y, hcl2⟩ := hcl2)
      go_roundw
      case rel =>
        have z1 := b1.size
        have hrl := hrows.lt
        have hlen := hrows.length
        have hbw : But (fun k => k = w.heap.size) w1 ((w1.setCell ⟨w.heap.size, j * 2, none⟩ (.int .i64 bj.blk)).setCell ⟨w.heap.size, j * 2 + 1, none⟩ (.slice a1 n1 k1)) := ⟨rfl, rfl, rfl, by simp [World.setCell], fun k hk => by rw [Below.heap_setCell _ _ _ _ hk, Below.heap_setCell _ _ _ _ hk]⟩
        refine ⟨j + 1, (c.setIfInBounds (j * 2) (.int .i64 bj.blk)).setIfInBounds (j * 2 + 1) (.slice a1 n1 k1), rows ++ [.slice a1 n1 k1], by omega, by go_num, Joins.block_setCell (Joins.block_setCell hg1 _) _, by simp [hcs], ?_, ?_, nodup_fps hnd (fun k hk => (hrl k hk).2) (fun k hk => (own1.lt k hk).1), ((hb.trans (b1.mono (by omega))).setCell (by simp) _).setCell (by simp) _, by simp [World.setCell]; omega⟩
        · rw [HTK.out, wCells_snoc _ _ _ _ (by rw [hlen]; simp)]
          exact take_set2 hct hcs hlt
        · rw [HTK.out, List.map_append, List.map_cons, List.map_nil]
          refine OwnRows.snoc (hrows.same (fun k hk => ?_)) (own_low (own_same own1 (fun k hk => hbw.block k ?_)) (by omega))
          · have := hrl k hk
            rw [hbw.block k (by omega), b1.block k (by omega)]
          · have := own1.lt k hk
            omega
      case measure => simp [intOf]; omega
    · have : j = L.length := by omega
      subst this
      go_wp2
      go_ret
      rw [List.take_length] at hrows hct
      have hrl := hrows.length
      have hlt := hrows.lt
      refine ⟨.slice (some ⟨w.heap.size, 0, none⟩) L.length L.length, rows, rfl, ⟨⟨wCells_length _ _ (by simpa using hrl), .inr ⟨w.heap.size, L.length, c, rfl, Nat.le_refl _, hg, Nat.le_refl _, by unfold maxLen; omega, by omega, hct⟩⟩, hrows.low (by omega), ?_⟩, hb⟩
      have e : fps (Value.slice (some ⟨w.heap.size, 0, none⟩) L.length L.length :: rows) = w.heap.size :: fps rows := by simp [fps, Value.ownBlock]
      rw [e, List.nodup_cons]
      exact ⟨fun h => by have := hlt _ h; omega, hnd⟩

/-- A disk as data. -/
structure DD where
  bb : List (List Int)
  ws : List WD
/-- How many places it has. -/
def sumL : List (List Int) → Nat
  | [] => 0
  | b :: r => b.length + sumL r
def DD.small (D : DD) : Prop := D.bb.length ≤ 100000000 ∧ D.ws.length ≤ 100000000 ∧ (∀ x ∈ D.bb, x.length ≤ 100000000) ∧ (∀ x ∈ D.ws, x.bs.length ≤ 100000000)
structure RDisk (N : Nat) (w : World) (v1 v2 : Value) (D : DD) : Prop where
  bb : RBB N w v1 D.bb
  ws : RWW N w v2 D.ws
theorem RDisk.below {N : Nat} {w w' : World} {v1 v2 : Value} {D : DD} (h : RDisk N w v1 v2 D) (hb : Below N w w') : RDisk N w' v1 v2 D := ⟨h.bb.below hb, h.ws.below hb⟩
theorem RDisk.mono {N N' : Nat} {w : World} {v1 v2 : Value} {D : DD} (h : RDisk N w v1 v2 D) (hN : N ≤ N') : RDisk N' w v1 v2 D := ⟨h.bb.mono hN, h.ws.mono hN⟩
structure ODisk (lo : Nat) (w : World) (v1 v2 : Value) (r1 r2 : List Value) (D : DD) : Prop where
  bb : OBB lo w v1 r1 D.bb
  ws : OWW lo w v2 r2 D.ws
  apart : ∀ k ∈ fps (v1 :: r1), k ∉ fps (v2 :: r2)

theorem fps_cons_mem {v : Value} {vs : List Value} {k : Nat} : k ∈ fps (v :: vs) ↔ v.ownBlock = some k ∨ k ∈ fps vs := by
  simp only [fps, List.filterMap_cons]
  cases v.ownBlock with
  | none => simp
  | some x => simp [eq_comm]
theorem OBB.lt {lo : Nat} {w : World} {v : Value} {rows : List Value} {L : List (List Int)} (h : OBB lo w v rows L) : ∀ k ∈ fps (v :: rows), lo ≤ k ∧ k < w.heap.size := by
  intro k hk
  rcases fps_cons_mem.1 hk with hk | hk
  · exact h.outer.lt k hk
  · exact h.inner.lt k hk
theorem OWW.lt {lo : Nat} {w : World} {v : Value} {rows : List Value} {L : List WD} (h : OWW lo w v rows L) : ∀ k ∈ fps (v :: rows), lo ≤ k ∧ k < w.heap.size := by
  intro k hk
  rcases fps_cons_mem.1 hk with hk | hk
  · exact h.outer.lt k hk
  · exact h.inner.lt k hk
theorem OBB.same {lo : Nat} {w w' : World} {v : Value} {rows : List Value} {L : List (List Int)} (h : OBB lo w v rows L) (hs : ∀ k ∈ fps (v :: rows), w'.heap[k]? = w.heap[k]?) : OBB lo w' v rows L :=
  ⟨own_same h.outer (fun k hk => hs k (fps_cons_mem.2 (.inl hk))), h.inner.same (fun k hk => hs k (fps_cons_mem.2 (.inr hk))), h.apart⟩
theorem OWW.same {lo : Nat} {w w' : World} {v : Value} {rows : List Value} {L : List WD} (h : OWW lo w v rows L) (hs : ∀ k ∈ fps (v :: rows), w'.heap[k]? = w.heap[k]?) : OWW lo w' v rows L :=
  ⟨own_same h.outer (fun k hk => hs k (fps_cons_mem.2 (.inl hk))), h.inner.same (fun k hk => hs k (fps_cons_mem.2 (.inr hk))), h.apart⟩
theorem OBB.low {lo lo' : Nat} {w : World} {v : Value} {rows : List Value} {L : List (List Int)} (h : OBB lo w v rows L) (hlo : lo' ≤ lo) : OBB lo' w v rows L := ⟨own_low h.outer hlo, h.inner.low hlo, h.apart⟩
theorem OWW.low {lo lo' : Nat} {w : World} {v : Value} {rows : List Value} {L : List WD} (h : OWW lo w v rows L) (hlo : lo' ≤ lo) : OWW lo' w v rows L := ⟨own_low h.outer hlo, h.inner.low hlo, h.apart⟩

set_option maxHeartbeats 2000000 in
theorem toDisk_any (N : Nat) (v1 v2 : Value) (D : DD) (w : World) (h : RDisk N w v1 v2 D) (hN : N ≤ w.heap.size) (hD : D.small) :
    Calls Try.prog 8 #[.agg #[v1, v2]] w fun e w' => ∃ u1 u2 r1 r2, e = .returned (.agg #[u1, u2]) ∧ ODisk w.heap.size w' u1 u2 r1 r2 D ∧ Below w.heap.size w w' := by
  obtain ⟨a1, n1, c1, rfl⟩ : ∃ a n cap, v1 = .slice a n cap := by obtain ⟨a, cap, e, _⟩ := h.bb; exact ⟨a, _, cap, e⟩
  obtain ⟨a2, n2, c2, rfl⟩ : ∃ a n cap, v2 = .slice a n cap := by obtain ⟨a, cap, e, _⟩ := h.ws; exact ⟨a, _, cap, e⟩
  have hb3 : Below w.heap.size w (((w.alloc (.cells #[.slice a1 n1 c1, .slice a2 n2 c2] 25)).alloc (.cells #[.slice none 0 0, .slice none 0 0] 30)).alloc (.cells #[.slice none 0 0, .slice none 0 0] 30)) := (((Below.refl _ w).alloc (Nat.le_refl _) _).alloc (by simp) _).alloc (by simp; omega) _
  go_enter Try.func8, Try.ntmps8
  go_wp2_with fail
  refine (toBB_any N _ D.bb _ (h.bb.below (hb3.mono hN)) (by simp; omega) hD.1 hD.2.2.1).mono ?_; rintro e w1 ⟨x1, r1, rfl, o1, b1⟩
  obtain ⟨y1, m1, k1, rfl⟩ := own_form o1.outer
  have z1 := b1.size
  simp only [World.size_alloc] at z1
  have g0 : w1.heap[w.heap.size]? = some (.cells #[.slice a1 n1 c1, .slice a2 n2 c2] 25 (0, 0)) := by
    rw [b1.block _ (by simp; omega), Below.heap_alloc _ _ _ (by simp; omega)]
    exact alloc2_fst w _ _
  have g1 : w1.heap[w.heap.size + 1]? = some (.cells #[.slice none 0 0, .slice none 0 0] 30 (0, 0)) := by
    rw [b1.block _ (by simp), Below.heap_alloc _ _ _ (by simp)]
    exact alloc2_snd w _ _
  have g2 : w1.heap[w.heap.size + 1 + 1]? = some (.cells #[.slice none 0 0, .slice none 0 0] 30 (0, 0)) := by
    rw [b1.block _ (by simp)]
    have h := heap_alloc_new ((w.alloc (.cells #[.slice a1 n1 c1, .slice a2 n2 c2] 25)).alloc (.cells #[.slice none 0 0, .slice none 0 0] 30)) (.cells #[.slice none 0 0, .slice none 0 0] 30)
    have e : ((w.alloc (.cells #[.slice a1 n1 c1, .slice a2 n2 c2] 25)).alloc (.cells #[.slice none 0 0, .slice none 0 0] 30)).heap.size = w.heap.size + 1 + 1 := by simp
    rw [e] at h
    exact h
  obtain ⟨⟨p0, p1⟩, fp⟩ := b2cells g0
  obtain ⟨⟨q0, q1⟩, fq⟩ := b2cells g2
  have ne1 : w.heap.size ≠ w.heap.size + 1 + 1 := by omega
  have ne2 : w.heap.size + 1 ≠ w.heap.size + 1 + 1 := by omega
  have ne3 : w.heap.size + 1 + 1 ≠ w.heap.size + 1 := by omega
  have bs1 : But (fun k => k = w.heap.size + 1 + 1) w1 (w1.setCell ⟨w.heap.size + 1 + 1, 0, none⟩ (.slice y1 m1 k1)) := ⟨rfl, rfl, rfl, by simp [World.setCell], fun k hk => by rw [Below.heap_setCell _ _ _ _ hk]⟩
  have B1 : Below w.heap.size w w1 := hb3.trans (b1.mono (by simp; omega))
  have B1s : Below w.heap.size w (w1.setCell ⟨w.heap.size + 1 + 1, 0, none⟩ (.slice y1 m1 k1)) := B1.setCell (by simp; omega) _
  have o1s : OBB w.heap.size (w1.setCell ⟨w.heap.size + 1 + 1, 0, none⟩ (.slice y1 m1 k1)) (.slice y1 m1 k1) r1 D.bb :=
    (o1.same (fun k hk => bs1.block k (by have := (o1.lt k hk).1; simp at this; omega))).low (by simp; omega)
  have o1lt : ∀ k ∈ fps (Value.slice y1 m1 k1 :: r1), w.heap.size + 1 + 1 + 1 ≤ k ∧ k < w1.heap.size := fun k hk => by have := o1.lt k hk; simp at this; omega
  go_wp2_with fail
  refine (toWW_any N _ D.ws _ (h.ws.below (B1s.mono hN)) (by have := B1s.size; omega) hD.2.1 hD.2.2.2).mono ?_; rintro e w2 ⟨x2, r2, rfl, o2, b2⟩
  obtain ⟨y2, m2, k2, rfl⟩ := own_form o2.outer
  have z2 := b2.size
  have zs : (w1.setCell ⟨w.heap.size + 1 + 1, 0, none⟩ (.slice y1 m1 k1)).heap.size = w1.heap.size := by simp [World.setCell]
  rw [zs] at z2 b2 o2
  have g1' : w2.heap[w.heap.size + 1]? = some (.cells #[.slice none 0 0, .slice none 0 0] 30 (0, 0)) := by
    rw [b2.block _ (by omega), bs1.block _ (by omega)]; exact g1
  have g2' : w2.heap[w.heap.size + 1 + 1]? = some (.cells #[.slice y1 m1 k1, .slice none 0 0] 30 (0, 0)) := by
    rw [b2.block _ (by omega), Joins.block_setCell g2]; rfl
  clear p0 p1 fp q0 q1 fq
  obtain ⟨⟨p0, p1⟩, fp⟩ := b2cells g1'
  obtain ⟨⟨q0, q1⟩, fq⟩ := b2cells g2'
  have o1t : OBB w.heap.size w2 (.slice y1 m1 k1) r1 D.bb := o1s.same (fun k hk => b2.block k (o1lt k hk).2)
  clear g0 g1 g2 g1' g2'
  go_wp2
  have bF : But (fun k => k = w.heap.size + 1 ∨ k = w.heap.size + 1 + 1) w2 (((w2.setCell ⟨w.heap.size + 1 + 1, 1, none⟩ (.slice y2 m2 k2)).setCell ⟨w.heap.size + 1, 0, none⟩ (.slice y1 m1 k1)).setCell ⟨w.heap.size + 1, 1, none⟩ (.slice y2 m2 k2)) :=
    ⟨rfl, rfl, rfl, by simp [World.setCell], fun k hk => by rw [Below.heap_setCell _ _ _ _ (fun e => hk (.inl e)), Below.heap_setCell _ _ _ _ (fun e => hk (.inl e)), Below.heap_setCell _ _ _ _ (fun e => hk (.inr e))]⟩
  refine bodyPost_ret (v := .agg #[.slice y1 m1 k1, .slice y2 m2 k2]) (by simp [results, Try.results8, go_sem, p0, p1, q0, q1, ne2, ne3]) rfl ⟨_, _, r1, r2, rfl, ⟨o1t.same (fun k hk => bF.block k ?_), (o2.same (fun k hk => bF.block k ?_)).low (by omega), fun k hk hk2 => ?_⟩, ?_⟩
  · have := (o1lt k hk).1
    rintro (e | e) <;> omega
  · have := (o2.lt k hk).1
    rintro (e | e) <;> omega
  · have := (o1lt k hk).2
    have := (o2.lt k hk2).1
    omega
  · iterate 3 refine Below.setCell ?_ (by simp <;> omega) _
    exact B1s.trans (b2.mono (by omega))
end Go.Proofs.YtepagknkhlpicabRRRR
