/-
  eqWrite, eqWriteS, eqDisk, of two disks that read the same.
-/
import Derived.Test.YtepagknkhlpicabRRRRDiskTo
namespace Go.Proofs.YtepagknkhlpicabRRRR
open Go.ChangeShapes Go.WideShapes Go.ChangeAt Go.RowKit
set_option linter.unusedVariables false
set_option linter.unusedSimpArgs false
attribute [local go_sem ↓] Go.wp_at_zero Go.wp_at_succ

theorem own_rdb {w : World} {lo e : Nat} {v : Value} {bs : List Int} (h : w.ownsRow lo e 1 v bs.length (bs.map (Value.int .u8))) : RdB w.heap.size w v bs :=
  ⟨(Reads.of_own h).1, fun k hk => .inr (h.lt k hk).2⟩
theorem OBB.reads {lo : Nat} {w : World} {v : Value} {rows : List Value} {L : List (List Int)} (h : OBB lo w v rows L) : RBB w.heap.size w v L := by
  have hlen := h.inner.length
  obtain ⟨h1, h2⟩ := h.outer
  rcases h2 with ⟨rfl, h0⟩ | ⟨g, cap, cur, rfl, hg, hh, hn, hm, hs, ht⟩
  · exact ⟨none, 0, by rw [h0], by omega, by unfold maxLen; omega, fun i hi => by omega⟩
  · refine ⟨_, cap, rfl, hn, hm, fun i hi => ⟨g, 0, rows[i], rfl, lt_of_block hh, ?_, (h.inner.get i (by omega) hi).elim fun _ h1 => own_rdb h1⟩⟩
    rw [Nat.zero_add, Joins.cell_of_block hh]
    have : (cur.toList.take (L.length * 1))[i]? = rows[i]? := by rw [ht]
    rw [List.getElem?_take_of_lt (by omega)] at this
    simpa [List.getElem?_eq_getElem (show i < rows.length by omega)] using this
theorem wCells_get : ∀ (vs : List Value) (L : List WD), vs.length = L.length → ∀ (i : Nat) (h1 : i < vs.length) (h2 : i < L.length), (wCells vs L)[i * 2]? = some (.int .i64 L[i].blk) ∧ (wCells vs L)[i * 2 + 1]? = some vs[i]
  | [], [], _, i, h1, _ => by simp at h1
  | [], _ :: _, h, _, _, _ => by simp at h
  | _ :: _, [], h, _, _, _ => by simp at h
  | v :: vs, d :: L, h, 0, _, _ => by simp [wCells]
  | v :: vs, d :: L, h, i + 1, h1, h2 => by
    have := wCells_get vs L (by simpa using h) i (by simpa using h1) (by simpa using h2)
    have e : (i + 1) * 2 = i * 2 + 1 + 1 := by omega
    rw [e]
    simpa [wCells] using this
theorem OWW.reads {lo : Nat} {w : World} {v : Value} {rows : List Value} {L : List WD} (h : OWW lo w v rows L) : RWW w.heap.size w v L := by
  have hlen : rows.length = L.length := by simpa using h.inner.length
  obtain ⟨h1, h2⟩ := h.outer
  rcases h2 with ⟨rfl, h0⟩ | ⟨g, cap, cur, rfl, hg, hh, hn, hm, hs, ht⟩
  · exact ⟨none, 0, by rw [h0], by omega, by unfold maxLen; omega, fun i hi => by omega⟩
  · refine ⟨_, cap, rfl, hn, hm, fun i hi => ?_⟩
    have hc := wCells_get rows L hlen i (by omega) hi
    rw [← ht, List.getElem?_take_of_lt (by omega), List.getElem?_take_of_lt (by omega)] at hc
    obtain ⟨_, hr⟩ := h.inner.get i (by omega) (by simpa using hi)
    simp only [List.getElem_map] at hr
    refine ⟨g, 0, rows[i], rfl, lt_of_block hh, ?_, ?_, own_rdb hr⟩
    · rw [Nat.zero_add, Joins.cell_of_block hh]; simpa using hc.1
    · rw [Nat.zero_add, Joins.cell_of_block hh]; simpa using hc.2
theorem ODisk.reads {lo : Nat} {w : World} {v1 v2 : Value} {r1 r2 : List Value} {D : DD} (h : ODisk lo w v1 v2 r1 r2 D) : RDisk w.heap.size w v1 v2 D := ⟨h.bb.reads, h.ws.reads⟩

set_option maxHeartbeats 1000000 in
theorem eqWrite_same (v1 v2 : Value) (blk : Int) (bs : List Int) (w : World) (h1 : RdB w.heap.size w v1 bs) (h2 : RdB w.heap.size w v2 bs) (hl : bs.length ≤ 1000000000) :
    Calls Try.prog 42 #[.agg #[.int .i64 blk, v1], .agg #[.int .i64 blk, v2]] w fun e w' => e = .returned (.bool true) ∧ Below w.heap.size w w' := by
  obtain ⟨a1, n1, c1, rfl⟩ : ∃ a n cap, v1 = .slice a n cap := by obtain ⟨a, cap, e, _⟩ := h1.1; exact ⟨a, _, cap, e⟩
  obtain ⟨a2, n2, c2, rfl⟩ : ∃ a n cap, v2 = .slice a n cap := by obtain ⟨a, cap, e, _⟩ := h2.1; exact ⟨a, _, cap, e⟩
  have hb : Below w.heap.size w ((w.alloc (.cells #[.int .i64 blk, .slice a1 n1 c1] 52)).alloc (.cells #[.int .i64 blk, .slice a2 n2 c2] 52)) := ((Below.refl _ w).alloc (Nat.le_refl _) _).alloc (by simp) _
  have r1 := (h1.below hb).1
  have r2 := (h2.below hb).1
  go_enter Try.func42, Try.ntmps42
  go_wp2_with fail
  refine (eqBytes_any _ _ bs bs _ r1 r2 (by omega) (by omega)).mono ?_; rintro e w1 ⟨rfl, m, rfl⟩
  have hd : decide (bs = bs) = true := by simp
  rw [hd]
  go_wp2
  go_ret
  exact ⟨rfl, below_drewN hb m⟩

theorem undrew {B : Nat} {w w' : World} (h : Below B w.drew w') : Below B w w' := ⟨h.os, h.tape, h.output, h.size, h.block⟩

set_option maxHeartbeats 2000000 in
theorem eqWW_same (N : Nat) (v1 v2 : Value) (L : List WD) (w : World) (h1 : RWW N w v1 L) (h2 : RWW N w v2 L) (hN : N ≤ w.heap.size) (hl : L.length ≤ 1000000000) (hL : ∀ x ∈ L, x.bs.length ≤ 1000000000) :
    Calls Try.prog 31 #[v1, v2] w fun e w' => e = .returned (.bool true) ∧ Below w.heap.size w w' := by
  obtain ⟨a, c1, rfl, hc1, hm1, hx⟩ := h1
  obtain ⟨b, c2, rfl, hc2, hm2, hy⟩ := h2
  unfold maxLen at hm1 hm2
  have hne : ((L.length : Int) != L.length) = false := by simp
  go_enter Try.func31, Try.ntmps31
  go_wp2
  go_loopw [5] (fun i wr => ∃ (j : Nat), j ≤ L.length ∧ i = .int .i64 j ∧ Below w.heap.size w wr) (fun i _ => L.length - (intOf i).toNat)
  case atStart => exact ⟨0, Nat.zero_le _, rfl, Below.refl _ _⟩
  case round =>
    obtain ⟨j, hj, rfl, hb⟩ := hrel
    by_cases hlt : j < L.length
    · obtain ⟨g1, o1, x1, rfl, hg1, p1, q1, r1⟩ := hx j hlt
      obtain ⟨g2, o2, x2, rfl, hg2, p2, q2, r2⟩ := hy j hlt
      have hz := hb.size
      have p1 : wr.cell? ⟨g1, o1 + j * 2, none⟩ = some (.int .i64 L[j].blk) := by rw [hb.cell (p := ⟨g1, o1 + j * 2, none⟩) (show g1 < w.heap.size by omega)]; exact p1
      have q1 : wr.cell? ⟨g1, o1 + j * 2 + 1, none⟩ = some x1 := by rw [hb.cell (p := ⟨g1, o1 + j * 2 + 1, none⟩) (show g1 < w.heap.size by omega)]; exact q1
      have p2 : wr.cell? ⟨g2, o2 + j * 2, none⟩ = some (.int .i64 L[j].blk) := by rw [hb.cell (p := ⟨g2, o2 + j * 2, none⟩) (show g2 < w.heap.size by omega)]; exact p2
      have q2 : wr.cell? ⟨g2, o2 + j * 2 + 1, none⟩ = some x2 := by rw [hb.cell (p := ⟨g2, o2 + j * 2 + 1, none⟩) (show g2 < w.heap.size by omega)]; exact q2
      have r1 : RdB wr.heap.size wr x1 L[j].bs := (r1.below (hb.mono hN)).mono (by omega)
      have r2 : RdB wr.heap.size wr x2 L[j].bs := (r2.below (hb.mono hN)).mono (by omega)
      have hLj := hL L[j] (List.getElem_mem hlt)
      generalize L[j] = d at p1 p2 r1 r2 hLj
      have i0 : (0 : Int) ≤ (j : Int) := by omega
      have i1 : (j : Int) < (L.length : Int) := by omega
      have hK : ∀ W, Below wr.heap.size wr W → W.cell? ⟨g1, o1 + j * 2, none⟩ = some (.int .i64 d.blk) ∧ W.cell? ⟨g1, o1 + j * 2 + 1, none⟩ = some x1 ∧ W.cell? ⟨g2, o2 + j * 2, none⟩ = some (.int .i64 d.blk) ∧ W.cell? ⟨g2, o2 + j * 2 + 1, none⟩ = some x2 := fun W hW =>
        ⟨by rw [hW.cell (p := ⟨g1, o1 + j * 2, none⟩) (show g1 < wr.heap.size by omega)]; exact p1, by rw [hW.cell (p := ⟨g1, o1 + j * 2 + 1, none⟩) (show g1 < wr.heap.size by omega)]; exact q1, by rw [hW.cell (p := ⟨g2, o2 + j * 2, none⟩) (show g2 < wr.heap.size by omega)]; exact p2, by rw [hW.cell (p := ⟨g2, o2 + j * 2 + 1, none⟩) (show g2 < wr.heap.size by omega)]; exact q2⟩
      have HK : Hid (∀ W, Below wr.heap.size wr W → W.cell? ⟨g1, o1 + j * 2, none⟩ = some (.int .i64 d.blk) ∧ W.cell? ⟨g1, o1 + j * 2 + 1, none⟩ = some x1 ∧ W.cell? ⟨g2, o2 + j * 2, none⟩ = some (.int .i64 d.blk) ∧ W.cell? ⟨g2, o2 + j * 2 + 1, none⟩ = some x2) := hK
      clear hx hy hK
      go_wp2
      go_region_held3 (fun w' => w'.cell? ⟨g1, o1 + j * 2, none⟩ = some (.int .i64 d.blk) ∧ w'.cell? ⟨g1, o1 + j * 2 + 1, none⟩ = some x1 ∧ w'.cell? ⟨g2, o2 + j * 2, none⟩ = some (.int .i64 d.blk) ∧ w'.cell? ⟨g2, o2 + j * 2 + 1, none⟩ = some x2) (first | exact ⟨p1, q1, p2, q2⟩ | exact HK.out _ (undrew b1))
        ((go_at_call 42; refine (eqWrite_same x1 x2 d.blk d.bs _ ?_ ?_ (by omega)).mono ?_; (exact r1); (exact r2); rintro e w1 ⟨rfl, b1⟩))
      have b1' : Below wr.heap.size wr w1 := undrew b1
      clear b1
      go_wp2
      go_roundw
      case rel => exact ⟨j + 1, by omega, by go_num, hb.trans (b1'.mono (by omega))⟩
      case measure => simp [intOf]; omega
    · go_wp2
      go_ret
      exact ⟨rfl, hb⟩

set_option maxHeartbeats 2000000 in
theorem eqDisk_same (N : Nat) (v1 v2 u1 u2 : Value) (D : DD) (w : World) (h1 : RDisk N w v1 v2 D) (h2 : RDisk N w u1 u2 D) (hN : N ≤ w.heap.size) (hD : D.small) :
    Calls Try.prog 10 #[.agg #[v1, v2], .agg #[u1, u2]] w fun e w' => e = .returned (.bool true) ∧ Below w.heap.size w w' := by
  obtain ⟨a1, n1, c1, rfl⟩ : ∃ a n cap, v1 = .slice a n cap := by obtain ⟨a, cap, e, _⟩ := h1.bb; exact ⟨a, _, cap, e⟩
  obtain ⟨a2, n2, c2, rfl⟩ : ∃ a n cap, v2 = .slice a n cap := by obtain ⟨a, cap, e, _⟩ := h1.ws; exact ⟨a, _, cap, e⟩
  obtain ⟨a3, n3, c3, rfl⟩ : ∃ a n cap, u1 = .slice a n cap := by obtain ⟨a, cap, e, _⟩ := h2.bb; exact ⟨a, _, cap, e⟩
  obtain ⟨a4, n4, c4, rfl⟩ : ∃ a n cap, u2 = .slice a n cap := by obtain ⟨a, cap, e, _⟩ := h2.ws; exact ⟨a, _, cap, e⟩
  have hb : Below w.heap.size w ((w.alloc (.cells #[.slice a1 n1 c1, .slice a2 n2 c2] 30)).alloc (.cells #[.slice a3 n3 c3, .slice a4 n4 c4] 30)) := ((Below.refl _ w).alloc (Nat.le_refl _) _).alloc (by simp) _
  have r1 := h1.below (hb.mono hN)
  have r2 := h2.below (hb.mono hN)
  obtain ⟨hD1, hD2, hD3, hD4⟩ := hD
  go_enter Try.func10, Try.ntmps10
  go_wp2_with fail
  refine (eqBB_any N _ _ D.bb D.bb _ r1.bb r2.bb (fun x hx => by have := hD3 x hx; omega) (fun x hx => by have := hD3 x hx; omega) (by omega) (by omega)).mono ?_; rintro e w1 ⟨rfl, m, rfl⟩
  have hd : decide (D.bb = D.bb) = true := by simp
  rw [hd]
  clear hd
  go_wp2_with fail
  refine (eqWW_same N _ _ D.ws _ (h1.ws.below ((below_drewN hb m).mono hN)) (h2.ws.below ((below_drewN hb m).mono hN)) (by simp; omega) (by omega) (fun x hx => by have := hD4 x hx; omega)).mono ?_; rintro e w2 ⟨rfl, b2⟩
  go_wp2
  go_ret
  exact ⟨rfl, (below_drewN hb m).trans (b2.mono (by simp; omega))⟩
end Go.Proofs.YtepagknkhlpicabRRRR
