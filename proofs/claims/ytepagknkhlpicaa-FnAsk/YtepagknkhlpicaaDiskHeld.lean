/-
  heldByteSS, markWriteS, heldWriteS, markDisk, heldDisk.
-/
import Derived.Test.YtepagknkhlpicaaDiskMark
namespace Go.Proofs.Ytepagknkhlpicaa
open Go.ChangeShapes Go.WideShapes Go.ChangeAt Go.RowKit
set_option linter.unusedVariables false
set_option linter.unusedSimpArgs false

theorem mkBB_get : ∀ (L : List (List Int)) (k : Int) (i : Nat) (h1 : i < (mkBB k L).length) (h2 : i < L.length), (mkBB k L)[i] = marks (k + sumL (L.take i)) L[i].length
  | [], _, _, h1, _ => by simp [mkBB] at h1
  | b :: r, k, 0, _, _ => by simp [mkBB, sumL]
  | b :: r, k, i + 1, h1, h2 => by
    have := mkBB_get r (k + b.length) i (by simpa [mkBB] using h1) (by simpa using h2)
    simp only [mkBB, List.getElem_cons_succ, List.take_succ_cons, sumL]
    rw [this, Int.add_assoc]
    simp

set_option maxHeartbeats 2000000 in
theorem heldBB_any (N : Nat) (v : Value) (L : List (List Int)) (k : Int) (w : World) (hk : 0 ≤ k) (hk' : k + sumL L ≤ 1000000000) (hl : L.length ≤ 1000000000) (h : RBB N w v (mkBB k L)) :
    Calls Try.prog 73 #[v, .int .i64 k] w fun e w' => e = .returned (.int .i64 (k + sumL L)) ∧ w' = w := by
  obtain ⟨a, cap, e, hc1, hm, hx⟩ := h
  rw [mkBB_length] at e hc1
  subst e
  unfold maxLen at hm
  go_enter Try.func73, Try.ntmps73
  go_wp2
  go_loop [1, 5] (fun q i => ∃ (j : Nat), j ≤ L.length ∧ i = .int .i64 j ∧ q = .int .i64 (k + sumL (L.take j))) (fun _ i => L.length - (intOf i).toNat)
  case atStart => exact ⟨0, Nat.zero_le _, rfl, by simp [sumL]⟩
  case round =>
    obtain ⟨j, hj, rfl, rfl⟩ := hrel
    by_cases hlt : j < L.length
    · obtain ⟨g, o, vi, rfl, _, hc, hr⟩ := hx j (by rw [mkBB_length]; exact hlt)
      rw [mkBB_get L k j (by rw [mkBB_length]; exact hlt) hlt] at hr
      have htk : L.take (j + 1) = L.take j ++ [L[j]] := List.take_succ_eq_append_getElem hlt
      have hsum : sumL (L.take (j + 1)) = sumL (L.take j) + L[j].length := by rw [htk, sumL_append]; simp [sumL]
      have hsum2 := sumL_take_le L (j + 1)
      generalize sumL (L.take j) = S at hr hsum
      have hr1 := hr.1
      generalize L[j].length = m at hr1 hsum
      have HS : Hid (sumL (L.take (j + 1)) = S + m) := hsum
      have hb1 : k + S + m ≤ 1000000000 := by omega
      clear hx hr htk hsum hsum2
      go_wp2_with (go_at_call 31; refine (held_any vi _ m _ (by omega) (by omega) (by omega) hr1).mono ?_; rintro e w1 ⟨rfl, rfl⟩)
      go_round
      case rel => exact ⟨j + 1, by omega, by go_num, by rw [HS.out]; go_num⟩
      case measure => simp [intOf]; omega
    · have : j = L.length := by omega
      subst this
      rw [List.take_length]
      go_wp2
      go_ret
      exact ⟨rfl, rfl⟩

/-- The marks of some writes. -/
def sumW : List WD → Nat
  | [] => 0
  | d :: r => 1 + d.bs.length + sumW r
def mkWW (k : Int) : List WD → List WD
  | [] => []
  | d :: r => ⟨k, marks (k + 1) d.bs.length⟩ :: mkWW (k + 1 + d.bs.length) r
theorem mkWW_length : ∀ (L : List WD) (k : Int), (mkWW k L).length = L.length
  | [], _ => rfl
  | b :: r, k => by simp [mkWW, mkWW_length r]
theorem sumW_append : ∀ A B : List WD, sumW (A ++ B) = sumW A + sumW B
  | [], B => by simp [sumW]
  | a :: A, B => by simp [sumW, sumW_append A B]; omega
theorem mkWW_append : ∀ (A B : List WD) (k : Int), mkWW k (A ++ B) = mkWW k A ++ mkWW (k + sumW A) B
  | [], B, k => by simp [mkWW, sumW]
  | a :: A, B, k => by
    simp only [List.cons_append, mkWW, mkWW_append A B, sumW]
    have : k + 1 + ↑a.bs.length + ↑(sumW A) = k + ↑(1 + a.bs.length + sumW A) := by omega
    rw [this]
theorem sumW_take_le (L : List WD) (j : Nat) : sumW (L.take j) ≤ sumW L := by
  have := sumW_append (L.take j) (L.drop j)
  rw [List.take_append_drop] at this
  omega
theorem mkWW_get : ∀ (L : List WD) (k : Int) (i : Nat) (h1 : i < (mkWW k L).length) (h2 : i < L.length), (mkWW k L)[i] = ⟨k + sumW (L.take i), marks (k + sumW (L.take i) + 1) L[i].bs.length⟩
  | [], _, _, h1, _ => by simp [mkWW] at h1
  | b :: r, k, 0, _, _ => by simp [mkWW, sumW]
  | b :: r, k, i + 1, h1, h2 => by
    have := mkWW_get r (k + 1 + b.bs.length) i (by simpa [mkWW] using h1) (by simpa using h2)
    simp only [mkWW, List.getElem_cons_succ, List.take_succ_cons, sumW]
    have e : k + 1 + ↑b.bs.length + ↑(sumW (r.take i)) = k + ↑(1 + b.bs.length + sumW (r.take i)) := by omega
    rw [this, e]

set_option maxHeartbeats 2000000 in
theorem heldWW_any (N : Nat) (v : Value) (L : List WD) (k : Int) (w : World) (hk : 0 ≤ k) (hk' : k + sumW L ≤ 1000000000) (hl : L.length ≤ 1000000000) (h : RWW N w v (mkWW k L)) :
    Calls Try.prog 74 #[v, .int .i64 k] w fun e w' => e = .returned (.int .i64 (k + sumW L)) ∧ w' = w := by
  obtain ⟨a, cap, e, hc1, hm, hx⟩ := h
  rw [mkWW_length] at e hc1
  subst e
  unfold maxLen at hm
  go_enter Try.func74, Try.ntmps74
  go_wp2
  go_loop [1, 5] (fun q i => ∃ (j : Nat), j ≤ L.length ∧ i = .int .i64 j ∧ q = .int .i64 (k + sumW (L.take j))) (fun _ i => L.length - (intOf i).toNat)
  case atStart => exact ⟨0, Nat.zero_le _, rfl, by simp [sumW]⟩
  case round =>
    obtain ⟨j, hj, rfl, rfl⟩ := hrel
    by_cases hlt : j < L.length
    · obtain ⟨g, o, vi, rfl, _, hc, hcc, hr⟩ := hx j (by rw [mkWW_length]; exact hlt)
      rw [mkWW_get L k j (by rw [mkWW_length]; exact hlt) hlt] at hr hc
      have htk : L.take (j + 1) = L.take j ++ [L[j]] := List.take_succ_eq_append_getElem hlt
      have hsum : sumW (L.take (j + 1)) = sumW (L.take j) + (1 + L[j].bs.length) := by rw [htk, sumW_append]; simp [sumW]
      have hsum2 := sumW_take_le L (j + 1)
      simp only at hr hc
      generalize sumW (L.take j) = S at hr hsum hc
      have hr1 := hr.1
      generalize L[j].bs.length = m at hr1 hsum
      have HS : Hid (sumW (L.take (j + 1)) = S + (1 + m)) := hsum
      have hb1 : k + S + 1 + m ≤ 1000000000 := by omega
      have hne : ((k + (S : Int)) != (k + (S : Int))) = false := by simp
      clear hx hr htk hsum hsum2
      go_wp2_with (go_at_call 31; refine (held_any vi _ m _ (by omega) (by omega) (by omega) hr1).mono ?_; rintro e w1 ⟨rfl, rfl⟩)
      go_round
      case rel => exact ⟨j + 1, by omega, by go_num, by rw [HS.out]; go_num⟩
      case measure => simp [intOf]; omega
    · have : j = L.length := by omega
      subst this
      rw [List.take_length]
      go_wp2
      go_ret
      exact ⟨rfl, rfl⟩

theorem wCells_set : ∀ (rows : List Value) (A C : List WD) (d d' : WD), rows.length = (A ++ d :: C).length → (wCells rows (A ++ d :: C)).set (A.length * 2) (.int .i64 d'.blk) = wCells rows (A ++ d' :: C)
  | [], [], _, _, _, h => by simp at h
  | [], _ :: _, _, _, _, h => by simp at h
  | v :: vs, [], C, d, d', _ => by simp [wCells]
  | v :: vs, a :: A, C, d, d', h => by
    have := wCells_set vs A C d d' (by simpa using h)
    have e : (a :: A).length * 2 = A.length * 2 + 1 + 1 := by simp; omega
    rw [e]
    simp [wCells, this]

set_option maxHeartbeats 4000000 in
theorem markWW_own (lo : Nat) (v : Value) (rows : List Value) (L : List WD) (k : Int) (w : World) (hk : 0 ≤ k) (hk' : k + sumW L ≤ 1000000000) (hl : L.length ≤ 1000000000) (h : OWW lo w v rows L) :
    Calls Try.prog 72 #[v, .int .i64 k] w fun e w' => e = .returned (.int .i64 (k + sumW L)) ∧ OWW lo w' v rows (mkWW k L) ∧ But (fun b => b ∈ fps (v :: rows)) w w' := by
  obtain ⟨ho, hi, ha⟩ := h
  have hlen : rows.length = L.length := by simpa using hi.length
  have hnd : (fps rows).Nodup ∧ ∀ k, v.ownBlock = some k → k ∉ fps rows := by
    simp only [fps, List.filterMap_cons] at ha
    cases hv : v.ownBlock with
    | none => rw [hv] at ha; exact ⟨ha, fun k hk => by simp at hk⟩
    | some x =>
      rw [hv] at ha
      have := List.nodup_cons.1 ha
      exact ⟨this.2, fun k hk => by simp at hk; subst hk; exact this.1⟩
  obtain ⟨av, nv, cv, rfl⟩ := own_form ho
  have hnv : nv = L.length := by
    rcases ho.2 with ⟨e, e0⟩ | ⟨g, cap, cur, e, _⟩
    · simp at e; omega
    · simp at e; omega
  subst hnv
  go_enter Try.func72, Try.ntmps72
  go_wp2
  go_loopw [1, 5] (fun q i wr => ∃ (j : Nat), j ≤ L.length ∧ i = .int .i64 j ∧ q = .int .i64 (k + sumW (L.take j)) ∧ wr.ownsRow lo 130 2 (.slice av L.length cv) L.length (wCells rows (mkWW k (L.take j) ++ L.drop j)) ∧ OwnRows lo wr rows ((mkWW k (L.take j) ++ L.drop j).map WD.bs) ∧ But (fun b => b ∈ fps (Value.slice av L.length cv :: rows)) w wr) (fun _ i _ => L.length - (intOf i).toNat)
  case atStart => exact ⟨0, Nat.zero_le _, rfl, by simp [sumW], by simpa [mkWW] using ho, by simpa [mkWW] using hi, But.refl _ _⟩
  case round =>
    obtain ⟨j, hj, rfl, rfl, hown, hr, hb⟩ := hrel
    by_cases hlt : j < L.length
    · have hAl : (mkWW k (L.take j)).length = j := by rw [mkWW_length]; simp; omega
      have hdr : L.drop j = L[j] :: L.drop (j + 1) := List.drop_eq_getElem_cons hlt
      have htk : L.take (j + 1) = L.take j ++ [L[j]] := List.take_succ_eq_append_getElem hlt
      have hsum : sumW (L.take (j + 1)) = sumW (L.take j) + (1 + L[j].bs.length) := by rw [htk, sumW_append]; simp [sumW]
      have hsum2 := sumW_take_le L (j + 1)
      have hmk : mkWW k (L.take (j + 1)) = mkWW k (L.take j) ++ [⟨k + sumW (L.take j), marks (k + sumW (L.take j) + 1) L[j].bs.length⟩] := by rw [htk, mkWW_append]; simp [mkWW]
      rw [hdr] at hr hown
      obtain ⟨g, rfl, hcell0, hcell1, hfz⟩ : ∃ g, av = some ⟨g, 0, none⟩ ∧ (∃ x, wr.cell? ⟨g, j * 2, none⟩ = some x) ∧ wr.cell? ⟨g, j * 2 + 1, none⟩ = some rows[j] ∧ ∀ q, wr.frozen? ⟨g, q, none⟩ = false := by
        rcases hown.2 with ⟨_, e0⟩ | ⟨g, cap, cur, e, hg, hh, hn, hm, hs, ht⟩
        · omega
        · simp only [Value.slice.injEq] at e
          obtain ⟨rfl, _, rfl⟩ := e
          have hc := wCells_get rows (mkWW k (L.take j) ++ L[j] :: L.drop (j + 1)) (by simp [hAl, hlen]; omega) j (by omega) (by simp [hAl]; omega)
          rw [← ht, List.getElem?_take_of_lt (by omega), List.getElem?_take_of_lt (by omega)] at hc
          exact ⟨g, rfl, ⟨_, by rw [Joins.cell_of_block hh]; simpa using hc.1⟩, by rw [Joins.cell_of_block hh]; simpa using hc.2, fun q => Joins.unfrozen_of_block hh q⟩
      obtain ⟨x, hcell0⟩ := hcell0
      obtain ⟨ety, hrj⟩ := hr.get j (by omega) (by simp [hAl]; omega)
      have egj : ((mkWW k (L.take j) ++ L[j] :: L.drop (j + 1)).map WD.bs)[j]'(by simp [hAl]; omega) = L[j].bs := by
        simp only [List.getElem_map]
        rw [List.getElem_append_right (by omega)]
        simp [hAl]
      rw [egj] at hrj
      have hgn : ∀ b, rows[j].ownBlock = some b → b ≠ g := fun b hbk e => hnd.2 g rfl (by rw [← e]; exact fps_get_mem (by omega) hbk)
      generalize hrv : rows[j] = rj at hrj hcell1 hgn
      generalize hS : sumW (L.take j) = S at hsum hmk
      obtain ⟨aj, nj, cj, rfl⟩ := own_form hrj
      have bS : But (fun b => b = g) wr (wr.setCell ⟨g, j * 2, none⟩ (.int .i64 (k + S))) := ⟨rfl, rfl, rfl, by simp [World.setCell], fun b hb => by rw [Below.heap_setCell _ _ _ _ hb]⟩
      have hrj' := own_same (w' := wr.setCell ⟨g, j * 2, none⟩ (.int .i64 (k + S))) hrj (fun b hbk => bS.block b (hgn b hbk))
      have HO : Hid (wr.ownsRow lo 130 2 (.slice (some ⟨g, 0, none⟩) L.length cv) L.length (wCells rows (mkWW k (L.take j) ++ L[j] :: L.drop (j + 1)))) := hown
      have HR : Hid (OwnRows lo wr rows ((mkWW k (L.take j) ++ L[j] :: L.drop (j + 1)).map WD.bs)) := hr
      have HM : Hid (mkWW k (L.take (j + 1)) = mkWW k (L.take j) ++ [⟨k + S, marks (k + S + 1) L[j].bs.length⟩]) := hmk
      have HS : Hid (sumW (L.take (j + 1)) = S + (1 + L[j].bs.length)) := hsum
      have HRV : Hid (rows[j] = .slice aj nj cj) := hrv
      have HG : Hid (∀ b, (Value.slice aj nj cj).ownBlock = some b → b ≠ g) := hgn
      clear hr hdr htk hmk hrv egj hS hown hrj hgn
      go_wp2_with (go_at_call 30; refine (mark_but lo _ L[j].bs _ _ (by omega) (by omega) (by omega) hrj').mono ?_; rintro e w1 ⟨rfl, own1, b1⟩)
      go_roundw
      case rel =>
        have bT : But (fun b => b ∈ fps (Value.slice (some ⟨g, 0, none⟩) L.length cv :: rows)) wr w1 := by
          refine But.trans (bS.mono (fun b e => ?_)) (b1.mono (fun b hbb => ?_))
          · exact fps_cons_mem.2 (.inl (by rw [e]; rfl))
          · exact fps_cons_mem.2 (.inr (fps_get_mem (j := j) (by omega) (by rw [HRV.out]; exact hbb)))
        refine ⟨j + 1, by omega, by go_num, by rw [HS.out]; go_num, ?_, ?_, hb.trans bT⟩
        · have h1 := (HO.out.stored (j * 2) (.int .i64 (k + S))).1
          have h2 := wCells_set rows (mkWW k (L.take j)) (L.drop (j + 1)) L[j] ⟨k + S, marks (k + S + 1) L[j].bs.length⟩ (by simp [hAl, hlen]; omega)
          rw [hAl] at h2
          simp only at h2
          rw [h2] at h1
          have h3 := own_same (w' := w1) h1 (fun b hbk => b1.block b (fun e => HG.out b e (by simp [Value.ownBlock] at hbk; exact hbk.symm)))
          rw [HM.out]
          simpa using h3
        · have h0 := OwnRows.same (w' := wr.setCell ⟨g, j * 2, none⟩ (.int .i64 (k + S))) HR.out (fun b hbk => bS.block b (fun e => hnd.2 g rfl (e ▸ hbk)))
          rw [List.map_append, List.map_cons] at h0
          have hAl' : ((mkWW k (L.take j)).map WD.bs).length = j := by simp [hAl]
          have := OwnRows.upd (w' := w1) (b' := marks (k + S + 1) L[j].bs.length) h0 hnd.1 (by omega) (by simp only [hAl']; rw [HRV.out]; exact own1) (by simp only [hAl']; rw [HRV.out]; exact b1)
          rw [HM.out]
          simpa using this
      case measure => simp [intOf]; omega
    · have : j = L.length := by omega
      subst this
      go_wp2
      go_ret
      rw [List.take_length, List.drop_length, List.append_nil] at hr hown
      rw [List.take_length]
      exact ⟨rfl, ⟨by rw [mkWW_length]; exact hown, hr, ha⟩, hb⟩

/-- A disk's marks. -/
def mkD (k : Int) (D : DD) : DD := ⟨mkBB k D.bb, mkWW (k + sumL D.bb) D.ws⟩
def DD.sum (D : DD) : Nat := sumL D.bb + sumW D.ws

set_option maxHeartbeats 2000000 in
theorem markDisk_own (lo : Nat) (v1 v2 : Value) (r1 r2 : List Value) (D : DD) (k : Int) (w : World) (hk : 0 ≤ k) (hk' : k + D.sum ≤ 1000000000) (hD : D.small) (h : ODisk lo w v1 v2 r1 r2 D) :
    Calls Try.prog 38 #[.agg #[v1, v2], .int .i64 k] w fun e w' => e = .returned (.int .i64 (k + D.sum)) ∧ ODisk lo w' v1 v2 r1 r2 (mkD k D) ∧ Kp (fun b => b ∈ fps (v1 :: r1) ∨ b ∈ fps (v2 :: r2)) w w' := by
  obtain ⟨a1, n1, c1, rfl⟩ := own_form h.bb.outer
  obtain ⟨a2, n2, c2, rfl⟩ := own_form h.ws.outer
  unfold DD.sum at hk' ⊢
  have l1 := h.bb.lt
  have l2 := h.ws.lt
  have bA := (Below.refl _ w).alloc (Nat.le_refl _) (.cells #[.slice a1 n1 c1, .slice a2 n2 c2] 58)
  have o1 := h.bb.same (w' := w.alloc (.cells #[.slice a1 n1 c1, .slice a2 n2 c2] 58)) (fun b hb => bA.block b (l1 b hb).2)
  have o2 := h.ws.same (w' := w.alloc (.cells #[.slice a1 n1 c1, .slice a2 n2 c2] 58)) (fun b hb => bA.block b (l2 b hb).2)
  have hg : (w.alloc (.cells #[.slice a1 n1 c1, .slice a2 n2 c2] 58)).heap[w.heap.size]? = some (.cells #[.slice a1 n1 c1, .slice a2 n2 c2] 58 (0, 0)) := heap_alloc_new w _
  go_enter Try.func38, Try.ntmps38
  go_wp2_with fail
  refine (markBB_own lo _ r1 D.bb k _ hk (by omega) (by have := hD.1; omega) o1).mono ?_; rintro e w1 ⟨rfl, m1, b1⟩
  have g1 : w1.heap[w.heap.size]? = some (.cells #[.slice a1 n1 c1, .slice a2 n2 c2] 58 (0, 0)) := by
    rw [b1.block _ (fun e => by have := (l1 _ (fps_cons_mem.2 (.inr e))).2; omega)]; exact hg
  obtain ⟨⟨p0, p1⟩, fp⟩ := b2cells g1
  have o2' := o2.same (w' := w1) (fun b hb => b1.block b (fun e => h.apart b (fps_cons_mem.2 (.inr e)) hb))
  go_wp2_with fail
  refine (markWW_own lo _ r2 D.ws _ _ (by omega) (by omega) (by have := hD.2.1; omega) o2').mono ?_; rintro e w2 ⟨rfl, m2, b2⟩
  have m1' := m1.same (w' := w2) (fun b hb => b2.block b (fun e => h.apart b hb e))
  go_wp2
  go_ret
  refine ⟨by simp; omega, ⟨m1', m2, h.apart⟩, ?_⟩
  have k0 : Kp (fun b => b ∈ fps (Value.slice a1 n1 c1 :: r1) ∨ b ∈ fps (Value.slice a2 n2 c2 :: r2)) w w1 := (Below.kp bA).trans (b1.mono (fun b hb => .inl (fps_cons_mem.2 (.inr hb)))).kp
  exact k0.trans (b2.mono (fun b hb => .inr hb)).kp

set_option maxHeartbeats 2000000 in
theorem heldDisk_any (N : Nat) (v1 v2 : Value) (D : DD) (k : Int) (w : World) (hk : 0 ≤ k) (hk' : k + D.sum ≤ 1000000000) (hD : D.small) (h : RDisk N w v1 v2 (mkD k D)) (hN : N ≤ w.heap.size) :
    Calls Try.prog 39 #[.agg #[v1, v2], .int .i64 k] w fun e w' => e = .returned (.int .i64 (k + D.sum)) ∧ Below w.heap.size w w' := by
  obtain ⟨a1, n1, c1, rfl⟩ : ∃ a n cap, v1 = .slice a n cap := by obtain ⟨a, cap, e, _⟩ := h.bb; exact ⟨a, _, cap, e⟩
  obtain ⟨a2, n2, c2, rfl⟩ : ∃ a n cap, v2 = .slice a n cap := by obtain ⟨a, cap, e, _⟩ := h.ws; exact ⟨a, _, cap, e⟩
  unfold DD.sum at hk' ⊢
  have bA := (Below.refl _ w).alloc (Nat.le_refl _) (.cells #[.slice a1 n1 c1, .slice a2 n2 c2] 58)
  have hr := h.below (bA.mono hN)
  go_enter Try.func39, Try.ntmps39
  go_wp2_with fail
  refine (heldBB_any N _ D.bb k _ hk (by omega) (by have := hD.1; omega) hr.bb).mono ?_; rintro e w1 ⟨rfl, rfl⟩
  go_wp2_with fail
  refine (heldWW_any N _ D.ws _ _ (by omega) (by omega) (by have := hD.2.1; omega) hr.ws).mono ?_; rintro e w1 ⟨rfl, rfl⟩
  go_wp2
  go_ret
  exact ⟨by simp; omega, bA⟩
end Go.Proofs.Ytepagknkhlpicaa
