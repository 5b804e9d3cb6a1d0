/-
  What draws a page from bytes: l5Cur's bytes and page, DrawPageBlock.
-/
import Derived.Test.YtepagknkhlpicaaDraw2
import Derived.Test.YtepagknkhlpicaaSpecPage
namespace Go.Proofs.Ytepagknkhlpicaa
open Go.ChangeShapes Go.WideShapes Go.ChangeAt Go.RowKit
set_option linter.unusedVariables false
set_option linter.unusedSimpArgs false

theorem own_kp {w w' : World} {S : Nat → Prop} {lo e size : Nat} {v : Value} {n : Nat} {xs : List Value} (h : w.ownsRow lo e size v n xs) (hb : Kp S w w') (hS : ∀ k, S k → k < lo) : w'.ownsRow lo e size v n xs := by
  have hlt := h.lt
  obtain ⟨h1, h2⟩ := h
  refine ⟨h1, ?_⟩
  rcases h2 with h2 | ⟨g, cap, cur, hv, hg, hh, r⟩
  · exact .inl h2
  · have := hlt g (by rw [hv]; rfl)
    exact .inr ⟨g, cap, cur, hv, hg, by rw [hb.block g this.2 (fun e => by have := hS g e; omega)]; exact hh, r⟩
theorem Cur.below' {w w' : World} {N B : Nat} {v : Value} {bs : List Int} {M : Nat} (h : Cur w B v bs M) (hb : Below N w w') (hv : ∀ k, v.ownBlock = some k → bs.length = 0 ∨ k < N) (hB : B < N) : Cur w' B v bs M := by
  obtain ⟨a', s, h1, h2, h3, h4, h5, h6⟩ := h
  have hsz := hb.size
  refine ⟨a', s, by rw [hb.block B hB]; exact h1, h2, ?_, h4, h5, fun k hk => ?_⟩
  · obtain ⟨a, cap, rfl, g1, g2, g3⟩ := h3
    refine ⟨a, cap, rfl, g1, g2, fun i hi => ?_⟩
    obtain ⟨b, off, rfl, hc⟩ := g3 i hi
    exact ⟨b, off, rfl, by rw [hb.cell (p := ⟨b, off + i, none⟩) (by rcases hv b rfl with h | h; omega; exact h)]; exact hc⟩
  · rcases h6 k hk with h | h
    · exact .inl h
    · exact .inr ⟨by omega, h.2⟩
theorem Kp.thenBelow {S : Nat → Prop} {w w1 w2 : World} (h : Kp S w w1) (hb : Below w.heap.size w1 w2) : Kp S w w2 :=
  ⟨hb.os.trans h.os, hb.tape.trans h.tape, hb.output.trans h.output, Nat.le_trans h.size hb.size, fun k hk hs => (hb.block k hk).trans (h.block k hk hs)⟩
theorem p3cells {w : World} {b : Nat} {x0 x1 x2 : Value} {T : TypeId} (h : w.heap[b]? = some (.cells #[x0, x1, x2] T (0, 0))) :
    (w.cell? ⟨b, 0, none⟩ = some x0 ∧ w.cell? ⟨b, 1, none⟩ = some x1 ∧ w.cell? ⟨b, 2, none⟩ = some x2) ∧ ∀ j, w.frozen? ⟨b, j, none⟩ = false := by
  refine ⟨⟨?_, ?_, ?_⟩, fun j => Joins.unfrozen_of_block h j⟩ <;> (rw [Joins.cell_of_block h]; rfl)

set_option maxRecDepth 5000 in
set_option maxHeartbeats 1000000 in
theorem bytes_cur (B : Nat) (v : Value) (bs : List Int) (M n : Nat) (z : Int) (hzn : z = n) (w : World) (h : Cur w B v bs M) (hM : M ≤ 1000000) (hn : n ≤ 1000) :
    Calls Try.prog 79 #[.pointer (some ⟨B, 0, none⟩), .int .i64 z] w fun e w' => ∃ (v' : Value) (Y : List Int), e = .returned v' ∧ Y.length = n ∧ Byt Y ∧ w'.ownsRow w.heap.size 5 1 v' Y.length (Y.map (Value.int .u8)) ∧ Cur w' B v bs (M + n) ∧ Kp (fun k => k = B) w w' := by
  subst hzn
  have hB := h.lt
  have hold := h.old
  obtain ⟨i0, hi, hz0, hz1, hz2⟩ := info_parts info5
  go_enter Try.func79, Try.ntmps79
  go_wp2
  go_loopw [1, 5] (fun q o wr => ∃ (m : Nat) (Y : List Int), m ≤ n ∧ q = .int .i64 m ∧ Y.length + m = n ∧ Byt Y ∧ wr.ownsRow w.heap.size 5 1 o Y.length (Y.map (Value.int .u8)) ∧ Cur wr B v bs (M + Y.length) ∧ Kp (fun k => k = B) w wr) (fun q _ _ => (intOf q).toNat)
  case atStart => exact ⟨n, [], Nat.le_refl _, rfl, by simp, fun b hb => by simp at hb, World.ownsRow_nil _ _ _ _, by simpa using h, Kp.refl _ _⟩
  case round =>
    obtain ⟨m, Y, hm, rfl, hY, hby, hown, hcur, hkp⟩ := hrel
    have hsz := hkp.size
    by_cases hlt : 0 < m
    · have hlt' : (0 : Int) < (m : Int) := by omega
      go_wp2_with fail
      refine (next_cur B v bs _ _ hcur (by omega)).mono ?_; rintro e w1 ⟨x, rfl, hx, h1, b1⟩
      have z1 := b1.size
      have own1 := own_kp hown b1.kp (fun k hk => by omega)
      have hxm : (x : Int) % 256 = x := by omega
      have HZ1 : Hid (w1.heap.size = wr.heap.size) := z1
      clear hown hcur z1
      go_wp2_with (at_builtin; refine wpList_append_own _ rfl _ _ 22 rfl w.heap.size 5 i0 (.int .u8 0) 1 1 Try.underlying22 hi hz0 hz1 hz2 rfl (by decide) _ _ _ rfl (own1.alloc _) ⟨w1.heap.size, 0, none⟩ 1 1 [.int .u8 (x : Int)] rfl rfl ?c1 ?c2 ?c3 ?c4 ?c5 ?_)
      case c1 =>
        intro j u hj
        match j, hj with
        | 0, hj => simp at hj; subst hj; simp [Addr.add]
      case c2 => intro u hu; simp at hu; subst hu; rfl
      case c3 => unfold maxLen; omega
      case c4 => omega
      case c5 => have z1 := HZ1.out; simp; omega
      intro v2 w2 own2 grow2 _
      have z1 := HZ1.out
      have hb2 : Below w.heap.size w1 w2 := ((Below.refl _ w1).alloc (by omega) _).grown grow2 (by simp; omega) (fun k hk => (own1.lt k hk).1)
      have h2 : Cur w2 B v bs (M + Y.length + 1) := h1.below' hb2 hold hB
      go_wp2
      go_roundw
      case rel => exact ⟨m - 1, Y ++ [(x : Int)], by omega, by go_num, by simp; omega, fun b hb => by
          rcases List.mem_append.1 hb with hb | hb
          · exact hby b hb
          · simp at hb; omega, by simpa using own2, by rw [List.length_append, ← Nat.add_assoc]; exact h2, (hkp.trans b1.kp).thenBelow hb2⟩
      case measure => simp [intOf]; omega
    · have : m = 0 := by omega
      subst this
      go_wp2
      go_ret
      have e : M + n = M + Y.length := by omega
      rw [e]
      exact ⟨_, Y, rfl, by omega, hby, hown, hcur, hkp⟩

set_option maxRecDepth 5000 in
set_option maxHeartbeats 4000000 in
theorem page_cur (B : Nat) (v : Value) (bs : List Int) (M : Nat) (w : World) (h : Cur w B v bs M) (hM : M ≤ 100000) :
    Calls Try.prog 51 #[.pointer (some ⟨B, 0, none⟩)] w fun e w' => ∃ (ok : Bool) (gen : Int) (a : Option Addr) (k : Nat) (Y : List Int), e = .returned (.agg #[.bool ok, .int .i64 gen, .slice a Y.length k]) ∧ Byt Y ∧ Y.length ≤ 57 ∧ w'.ownsRow w.heap.size 5 1 (.slice a Y.length k) Y.length (Y.map (Value.int .u8)) ∧ Kp (fun k => k = B) w w' := by
  have hBlt := h.lt
  have hold := h.old
  have bA := (Below.refl _ w).alloc (Nat.le_refl _) (.cells #[.bool false, .int .i64 0, .slice none 0 0] 33)
  have ha := h.below' bA hold hBlt
  have gA := heap_alloc_new w (.cells #[.bool false, .int .i64 0, .slice none 0 0] 33)
  go_enter Try.func51, Try.ntmps51
  go_wp2_with fail
  refine (pick_cur B v bs M 12 _ ha (by omega) (by omega) (by omega)).mono ?_; rintro e w1 ⟨x1, rfl, hx1, h1, b1⟩
  go_wp2_with fail
  refine (pick_cur B v bs _ 9 _ h1 (by omega) (by omega) (by omega)).mono ?_; rintro e w2 ⟨x2, rfl, hx2, h2, b2⟩
  go_wp2_with fail
  refine (pick_cur B v bs _ 30 _ h2 (by omega) (by omega) (by omega)).mono ?_; rintro e w3 ⟨x3, rfl, hx3, h3, b3⟩
  go_wp2_with fail
  refine (bytes_cur B v bs _ x3 _ rfl _ h3 (by omega) (by omega)).mono ?_; rintro e w4 ⟨v4, Y4, rfl, hY4, hby4, own4, h4, k4⟩
  obtain ⟨a4, c4, rfl⟩ := own_len own4
  have k14 : Kp (fun k => k = B) (w.alloc (.cells #[.bool false, .int .i64 0, .slice none 0 0] 33)) w4 := (((b1.trans b2).trans b3).kp).trans k4
  have z4 := k14.size
  have z3 : w3.heap.size = w.heap.size + 1 := by
    have a1 := b1.size
    have a2 := b2.size
    have a3 := b3.size
    simp only [World.size_alloc] at a1
    omega
  simp only [World.size_alloc] at z4
  have K4 : Kp (fun k => k = B) w w4 := (Below.kp bA).trans k14
  have r4 : w4.heap[w.heap.size]? = some (.cells #[.bool false, .int .i64 0, .slice none 0 0] 33 (0, 0)) := by
    rw [k14.block _ (by simp) (by omega)]
    exact gA
  have own4' : w4.ownsRow (w.heap.size + 1) 5 1 (.slice a4 Y4.length c4) Y4.length (Y4.map (Value.int .u8)) := by rw [← z3]; exact own4
  have hYl : Y4.length ≤ 57 := by omega
  have hP4 := h4.lt
  generalize hok : decide (0 < x1) = ok
  clear hY4 own4 hok h1 h2 h3 b1 b2 b3 k4 ha
  have bP : Below w4.heap.size w4 (w4.alloc (.cells #[.bool ok, .int .i64 (1 + (x2 : Int)), .slice a4 Y4.length c4] 33)) := (Below.refl _ w4).alloc (Nat.le_refl _) _
  have gP := heap_alloc_new w4 (.cells #[.bool ok, .int .i64 (1 + (x2 : Int)), .slice a4 Y4.length c4] 33)
  have h4P := h4.below' (bP.mono (show w.heap.size ≤ _ by omega)) hold hBlt
  have K4P : Kp (fun k => k = B) w (w4.alloc (.cells #[.bool ok, .int .i64 (1 + (x2 : Int)), .slice a4 Y4.length c4] 33)) := K4.thenBelow (bP.mono (by omega))
  have r4P : (w4.alloc (.cells #[.bool ok, .int .i64 (1 + (x2 : Int)), .slice a4 Y4.length c4] 33)).heap[w.heap.size]? = some (.cells #[.bool false, .int .i64 0, .slice none 0 0] 33 (0, 0)) := by rw [bP.block _ (by omega)]; exact r4
  have own4P := own4'.alloc (.cells #[.bool ok, .int .i64 (1 + (x2 : Int)), .slice a4 Y4.length c4] 33)
  have lt4 : ∀ k, (Value.slice a4 Y4.length c4).ownBlock = some k → w.heap.size + 1 ≤ k ∧ k < w4.heap.size := own4'.lt
  have q1 : w4.heap.size ≠ w.heap.size := by omega
  have q2 : w.heap.size ≠ w4.heap.size := by omega
  go_wp2_with fail
  refine (pick_cur B v bs _ 14 _ h4P (by omega) (by omega) (by omega)).mono ?_; rintro e w5 ⟨x5, rfl, hx5, h5, b5⟩
  have z5 := b5.size
  simp only [World.size_alloc] at z5
  have hBw : B ≠ w.heap.size := by omega
  have hBp : B ≠ w4.heap.size := by omega
  have r5 : w5.heap[w.heap.size]? = some (.cells #[.bool false, .int .i64 0, .slice none 0 0] 33 (0, 0)) := by rw [b5.block _ (by omega)]; exact r4P
  have g5 : w5.heap[w4.heap.size]? = some (.cells #[.bool ok, .int .i64 (1 + (x2 : Int)), .slice a4 Y4.length c4] 33 (0, 0)) := by rw [b5.block _ (by omega)]; exact gP
  have own5 := own_kp own4P b5.kp (fun k hk => by omega)
  have K5 := K4P.trans b5.kp
  clear own4P own4' gP r4P r4 h4P h4
  have HBY : Hid (Byt Y4) := hby4
  have HOWN : Hid (w5.ownsRow (w.heap.size + 1) 5 1 (.slice a4 Y4.length c4) Y4.length (Y4.map (Value.int .u8))) := own5
  have HFIN : Hid (∀ (w6 : World) (gen : Int) (a : Option Addr) (c : Nat) (Y : List Int), w6.ownsRow (w.heap.size + 1) 5 1 (.slice a Y.length c) Y.length (Y.map (Value.int .u8)) → w6.ownsRow w.heap.size 5 1 (.slice a Y.length c) Y.length (Y.map (Value.int .u8))) := fun w6 gen a c Y hh => by
    obtain ⟨t1, t2⟩ := hh
    refine ⟨t1, ?_⟩
    rcases t2 with t2 | ⟨g, cap', cur, e, hg, r⟩
    · exact .inl t2
    · exact .inr ⟨g, cap', cur, e, by omega, r⟩
  clear own5 hby4
  by_cases e0 : x5 = 0
  · subst e0
    go_wp2_with fail
    have bI : Below w5.heap.size w5 (w5.alloc (.cells #[.int .i64 (-1), .int .i64 0, .int .i64 1000000000, .int .i64 1000000001] 3)) := (Below.refl _ w5).alloc (Nat.le_refl _) _
    refine (pick_cur B v bs _ 4 _ (h5.below' (bI.mono (show w.heap.size ≤ _ by omega)) hold hBlt) (by omega) (by omega) (by omega)).mono ?_; rintro e w6 ⟨x6, rfl, hx6, h6, b6⟩
    have z6 := b6.size
    simp only [World.size_alloc] at z6
    have gI : w6.heap[w5.heap.size]? = some (.cells #[.int .i64 (-1), .int .i64 0, .int .i64 1000000000, .int .i64 1000000001] 3 (0, 0)) := by rw [b6.block _ (by omega)]; exact heap_alloc_new w5 _
    rw [z5] at gI
    obtain ⟨gv, hgv⟩ : ∃ gv : Int, w6.cell? ⟨w4.heap.size + 1, x6, none⟩ = some (.int .i64 gv) := by
      rw [Joins.cell_of_block gI]
      have : x6 = 0 ∨ x6 = 1 ∨ x6 = 2 ∨ x6 = 3 := by omega
      rcases this with rfl | rfl | rfl | rfl
      · exact ⟨-1, rfl⟩
      · exact ⟨0, rfl⟩
      · exact ⟨1000000000, rfl⟩
      · exact ⟨1000000001, rfl⟩
    have r6 : w6.heap[w.heap.size]? = some (.cells #[.bool false, .int .i64 0, .slice none 0 0] 33 (0, 0)) := by rw [b6.block _ (by omega), bI.block _ (by omega)]; exact r5
    have g6 : w6.heap[w4.heap.size]? = some (.cells #[.bool ok, .int .i64 (1 + (x2 : Int)), .slice a4 Y4.length c4] 33 (0, 0)) := by rw [b6.block _ (by omega), bI.block _ (by omega)]; exact g5
    have own6 := own_kp (HOWN.out.alloc _) b6.kp (fun k hk => by omega)
    have K6 : Kp (fun k => k = B) w w6 := (K5.thenBelow (bI.mono (by omega))).trans b6.kp
    have HO6 : Hid (w6.ownsRow (w.heap.size + 1) 5 1 (.slice a4 Y4.length c4) Y4.length (Y4.map (Value.int .u8))) := own6
    obtain ⟨⟨c0, c1, c2⟩, fc⟩ := p3cells g6
    obtain ⟨⟨d0, d1, d2⟩, fd⟩ := p3cells r6
    have i1 : (x6 : Int) < 4 := by omega
    clear own6 g6 r6 gI g5 r5
    go_wp2
    refine bodyPost_ret (v := .agg #[.bool ok, .int .i64 gv, .slice a4 Y4.length c4]) (by simp [results, Try.results51, go_sem, c0, c1, c2, d0, d1, d2, q1, q2]) rfl ⟨ok, gv, a4, c4, Y4, rfl, HBY.out, hYl, ?_, ?_⟩
    · refine HFIN.out _ gv _ _ _ ?_
      have hh := HO6.out
      obtain ⟨t1, t2⟩ := hh
      refine ⟨t1, ?_⟩
      rcases t2 with t2 | ⟨g, cap', cur, e, hg, hh, r⟩
      · exact .inl t2
      · have := lt4 g (by rw [e]; rfl)
        refine .inr ⟨g, cap', cur, e, hg, ?_, r⟩
        iterate 4 rw [Below.heap_setCell _ _ _ _ (by simp; omega)]
        exact hh
    · iterate 3 refine Kp.setCell ?_ _ _ (by simp)
      exact K6.setCell _ _ (by simp; omega)
  · by_cases e1 : x5 = 1
    · subst e1
      go_wp2_with fail
      refine (pick_cur B v bs _ 2 _ h5 (by omega) (by omega) (by omega)).mono ?_; rintro e w6 ⟨x6, rfl, hx6, h6, b6⟩
      have z6 := b6.size
      go_wp2_with fail
      refine (bytes_cur B v bs _ (56 + x6) _ (by omega) _ h6 (by omega) (by omega)).mono ?_; rintro e w7 ⟨v7, Y7, rfl, hY7, hby7, own7, h7, k7⟩
      obtain ⟨a7, c7, rfl⟩ := own_len own7
      have z7 := k7.size
      have r7 : w7.heap[w.heap.size]? = some (.cells #[.bool false, .int .i64 0, .slice none 0 0] 33 (0, 0)) := by rw [k7.block _ (by omega) (by omega), b6.block _ (by omega)]; exact r5
      have g7 : w7.heap[w4.heap.size]? = some (.cells #[.bool ok, .int .i64 (1 + (x2 : Int)), .slice a4 Y4.length c4] 33 (0, 0)) := by rw [k7.block _ (by omega) (by omega), b6.block _ (by omega)]; exact g5
      have K7 : Kp (fun k => k = B) w w7 := (K5.trans b6.kp).trans k7
      have hY7l : Y7.length ≤ 57 := by omega
      have lt7 : ∀ k, (Value.slice a7 Y7.length c7).ownBlock = some k → w4.heap.size + 1 ≤ k := fun k hk => by have := (own7.lt k hk).1; omega
      have HO7 : Hid (w7.ownsRow w6.heap.size 5 1 (.slice a7 Y7.length c7) Y7.length (Y7.map (Value.int .u8))) := own7
      have HB7 : Hid (Byt Y7) := hby7
      have h6s : w.heap.size ≤ w6.heap.size := by omega
      obtain ⟨⟨c0, c1, c2⟩, fc⟩ := p3cells g7
      obtain ⟨⟨d0, d1, d2⟩, fd⟩ := p3cells r7
      clear own7 hby7 hY7 g7 r7 g5 r5
      go_wp2
      refine bodyPost_ret (v := .agg #[.bool ok, .int .i64 (1 + (x2 : Int)), .slice a7 Y7.length c7]) (by simp [results, Try.results51, go_sem, c0, c1, c2, d0, d1, d2, q1, q2]) rfl ⟨ok, _, a7, c7, Y7, rfl, HB7.out, hY7l, ?_, ?_⟩
      · have hh := HO7.out
        obtain ⟨t1, t2⟩ := hh
        refine ⟨t1, ?_⟩
        rcases t2 with t2 | ⟨g, cap', cur, e, hg, hh, r⟩
        · exact .inl t2
        · have := lt7 g (by rw [e]; rfl)
          refine .inr ⟨g, cap', cur, e, by omega, ?_, r⟩
          iterate 4 rw [Below.heap_setCell _ _ _ _ (by simp; omega)]
          exact hh
      · iterate 3 refine Kp.setCell ?_ _ _ (by simp)
        exact K7.setCell _ _ (by simp; omega)
    · have d5 : ((x5 : Int) == 0) = false := by simp; omega
      have d6 : ((x5 : Int) == 1) = false := by simp; omega
      obtain ⟨⟨c0, c1, c2⟩, fc⟩ := p3cells g5
      obtain ⟨⟨d0, d1, d2⟩, fd⟩ := p3cells r5
      clear e0 e1 g5 r5
      go_wp2
      refine bodyPost_ret (v := .agg #[.bool ok, .int .i64 (1 + (x2 : Int)), .slice a4 Y4.length c4]) (by simp [results, Try.results51, go_sem, c0, c1, c2, d0, d1, d2, q1, q2]) rfl ⟨ok, _, a4, c4, Y4, rfl, HBY.out, hYl, ?_, ?_⟩
      · refine HFIN.out _ 0 _ _ _ ?_
        have hh := HOWN.out
        obtain ⟨t1, t2⟩ := hh
        refine ⟨t1, ?_⟩
        rcases t2 with t2 | ⟨g, cap', cur, e, hg, hh, r⟩
        · exact .inl t2
        · have := lt4 g (by rw [e]; rfl)
          refine .inr ⟨g, cap', cur, e, hg, ?_, r⟩
          iterate 3 rw [Below.heap_setCell _ _ _ _ (by simp; omega)]
          exact hh
      · iterate 3 refine Kp.setCell ?_ _ _ (by simp)
        exact K5

set_option maxRecDepth 5000 in
set_option maxHeartbeats 1000000 in
theorem drawPage_any (v : Value) (bs : List Int) (w : World) (hr : Reads w v bs) (hby : Byt bs) (hl : bs.length ≤ 1000000000) (hv : ∀ k, v.ownBlock = some k → bs.length = 0 ∨ k < w.heap.size) :
    Calls Try.prog 15 #[v] w fun e w' => ∃ (ok : Bool) (gen : Int) (a : Option Addr) (k : Nat) (Y : List Int), e = .returned (.agg #[.bool ok, .int .i64 gen, .slice a Y.length k]) ∧ Byt Y ∧ Y.length ≤ 57 ∧ w'.ownsRow w.heap.size 5 1 (.slice a Y.length k) Y.length (Y.map (Value.int .u8)) ∧ Below w.heap.size w w' := by
  have hform : ∃ a len cap, v = .slice a len cap := by obtain ⟨a, cap, e, _⟩ := hr; exact ⟨a, _, cap, e⟩
  obtain ⟨a, len, cap, rfl⟩ := hform
  have bA : Below w.heap.size w ((w.alloc (.cells #[.bool false, .int .i64 0, .slice none 0 0] 33)).alloc (.cells #[.slice a len cap, .int .i64 0, .int .u64 0] 66)) := ((Below.refl _ w).alloc (Nat.le_refl _) _).alloc (by simp) _
  have gA : ((w.alloc (.cells #[.bool false, .int .i64 0, .slice none 0 0] 33)).alloc (.cells #[.slice a len cap, .int .i64 0, .int .u64 0] 66)).heap[w.heap.size]? = some (.cells #[.bool false, .int .i64 0, .slice none 0 0] 33 (0, 0)) := alloc2_fst w _ _
  have hc : Cur ((w.alloc (.cells #[.bool false, .int .i64 0, .slice none 0 0] 33)).alloc (.cells #[.slice a len cap, .int .i64 0, .int .u64 0] 66)) (w.heap.size + 1) (.slice a len cap) bs 0 :=
    ⟨0, 0, alloc2_snd w _ _, Nat.le_refl _, hr.below' bA hv, hby, hl, fun k hk => (hv k hk).imp id (fun h => ⟨by simp; omega, by omega⟩)⟩
  clear hr
  go_enter Try.func15, Try.ntmps15
  go_wp2_with fail
  refine (page_cur (w.heap.size + 1) _ bs 0 _ hc (by omega)).mono ?_; rintro e w1 ⟨ok, gen, a1, k1, Y, rfl, hbY, hYl, own1, kp1⟩
  have z1 := kp1.size
  simp only [World.size_alloc] at z1 own1
  have g1 : w1.heap[w.heap.size]? = some (.cells #[.bool false, .int .i64 0, .slice none 0 0] 33 (0, 0)) := by rw [kp1.block _ (by simp; omega) (by omega)]; exact gA
  have B1 : Below w.heap.size w w1 := bA.trans (kp1.below (by simp; omega) (fun k hk => by omega))
  obtain ⟨⟨d0, d1, d2⟩, fd⟩ := p3cells g1
  have HO : Hid (w1.ownsRow (w.heap.size + 1 + 1) 5 1 (.slice a1 Y.length k1) Y.length (Y.map (Value.int .u8))) := own1
  have HB : Hid (Byt Y) := hbY
  clear own1 hbY g1 gA hc
  go_wp2
  refine bodyPost_ret (v := .agg #[.bool ok, .int .i64 gen, .slice a1 Y.length k1]) (by simp [results, Try.results15, go_sem, d0, d1, d2]) rfl ⟨ok, gen, a1, k1, Y, rfl, HB.out, hYl, ?_, ?_⟩
  · have hh := HO.out
    have hlt := hh.lt
    obtain ⟨t1, t2⟩ := hh
    refine ⟨t1, ?_⟩
    rcases t2 with t2 | ⟨g, cap', cur, e, hg, hh, r⟩
    · exact .inl t2
    · refine .inr ⟨g, cap', cur, e, by omega, ?_, r⟩
      iterate 3 rw [Below.heap_setCell _ _ _ _ (by simp; omega)]
      exact hh
  · iterate 3 refine Below.setCell ?_ (by simp) _
    exact B1
end Go.Proofs.Ytepagknkhlpicaa
