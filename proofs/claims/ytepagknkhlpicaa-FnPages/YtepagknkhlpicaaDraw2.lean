/-
  What draws texts and notes: l5Cur's text, note; Notes.
-/
import Derived.Test.YtepagknkhlpicaaDraw
namespace Go.Proofs.Ytepagknkhlpicaa
open Go.ChangeShapes Go.WideShapes Go.ChangeAt Go.RowKit
set_option linter.unusedVariables false
set_option linter.unusedSimpArgs false

theorem str_one (w : World) (x : Int) : (convert 22 9 (.slice (some ⟨w.heap.size, 0, none⟩) 1 1)).run Try.prog (w.alloc (.cells #[.int .u8 x] 5)) = .ok (.string (mkS [x])) (w.alloc (.cells #[.int .u8 x] 5)) :=
  bytes_to_string _ ⟨w.heap.size, 0, none⟩ 1 1 [x] rfl (fun i hi => by
    obtain rfl : i = 0 := by omega
    simp [Addr.add])

set_option maxHeartbeats 4000000 in
theorem text_cur (B : Nat) (v : Value) (bs : List Int) (M : Nat) (w : World) (h : Cur w B v bs M) (hM : M ≤ 1000000) :
    Calls Try.prog 76 #[.pointer (some ⟨B, 0, none⟩)] w fun e w' => ∃ s : ByteArray, e = .returned (.string s) ∧ s.size ≤ 200 ∧ Cur w' B v bs (M + 500) ∧ Kp (fun k => k = B) w w' := by
  have hso := str_one
  have hm1 : ∀ x : Int, (mkS [x]).size = 1 := fun x => by rw [mkS_size]; rfl
  go_enter Try.func76, Try.ntmps76
  go_wp2_with fail
  refine (pick_cur B v bs M 9 _ h (by omega) (by omega) (by omega)).mono ?_; rintro e w1 ⟨x1, rfl, hx1, h1, b1⟩
  go_wp2_with fail
  refine (pick_cur B v bs _ 6 _ h1 (by omega) (by omega) (by omega)).mono ?_; rintro e w2 ⟨x2, rfl, hx2, h2, b2⟩
  by_cases e2 : x2 = 0
  · subst e2
    go_wp2_with fail
    refine (pick_cur B v bs _ 80 _ h2 (by omega) (by omega) (by omega)).mono ?_; rintro e w6 ⟨x6, rfl, hx6, h6, b6⟩
    go_wp2_with fail
    refine (pick_cur B v bs _ 30 _ h6 (by omega) (by omega) (by omega)).mono ?_; rintro e w3 ⟨x3, rfl, hx3, h3, b3⟩
    by_cases e3 : x3 = 0
    · subst e3
      go_wp2_with fail
      refine (pick_cur B v bs _ 2 _ h3 (by omega) (by omega) (by omega)).mono ?_; rintro e w5 ⟨x5, rfl, hx5, h5, b5⟩
      go_wp2_with fail
      go_loopw [3, 4] (fun o i wr => ∃ (s : ByteArray) (m : Nat), o = .string s ∧ i = .int .i64 m ∧ s.size + m ≤ 200 ∧ Cur wr B v bs (M + 12 + 2 * s.size) ∧ Kp (fun k => k = B) w wr) (fun _ i _ => (intOf i).toNat)
      case atStart => exact ⟨ByteArray.empty, 200 - x5, rfl, by go_num, by simp <;> omega, h5.mono (by omega), ((((b1.trans b2).trans b6).trans b3).trans b5).kp⟩
      case round =>
        obtain ⟨s, m, rfl, rfl, hs, hc, hk⟩ := hrel
        by_cases hlt : 0 < m
        · go_wp2_with (go_at_call 40; refine (pick_cur B v bs _ 4 _ hc (by omega) (by omega) (by omega)).mono ?_; rintro e w4 ⟨x4, rfl, hx4, h4, b4⟩)
          go_roundw
          case rel =>
            have hka : Kp (fun k => k = B) w4 (w4.alloc (.cells #[.int .u8 (97 + (x4 : Int))] 5)) := Below.kp ((Below.refl _ w4).alloc (Nat.le_refl _) _)
            refine ⟨_, m - 1, rfl, by rw [Int.ofNat_sub (by omega)]; rfl, by simp [hm1]; omega, ?_, (hk.trans b4.kp).trans hka⟩
            exact (h4.kp (S := fun _ => False) (Below.kp ((Below.refl _ w4).alloc (Nat.le_refl _) _)) (fun _ h => h.elim)).mono (by simp [hm1]; omega)
          case measure => simp [intOf]; omega
        · go_wp2
          go_ret
          exact ⟨s, rfl, by omega, hc.mono (by omega), hk⟩
    · have d3 : ((x3 : Int) == 0) = false := by simp; omega
      clear e3
      go_wp2_with fail
      go_loopw [3, 4] (fun o i wr => ∃ (s : ByteArray) (m : Nat), o = .string s ∧ i = .int .i64 m ∧ s.size + m ≤ 200 ∧ Cur wr B v bs (M + 12 + 2 * s.size) ∧ Kp (fun k => k = B) w wr) (fun _ i _ => (intOf i).toNat)
      case atStart => exact ⟨ByteArray.empty, x6, rfl, by go_num, by simp <;> omega, h3.mono (by omega), (((b1.trans b2).trans b6).trans b3).kp⟩
      case round =>
        obtain ⟨s, m, rfl, rfl, hs, hc, hk⟩ := hrel
        by_cases hlt : 0 < m
        · go_wp2_with (go_at_call 40; refine (pick_cur B v bs _ 4 _ hc (by omega) (by omega) (by omega)).mono ?_; rintro e w4 ⟨x4, rfl, hx4, h4, b4⟩)
          go_roundw
          case rel =>
            have hka : Kp (fun k => k = B) w4 (w4.alloc (.cells #[.int .u8 (97 + (x4 : Int))] 5)) := Below.kp ((Below.refl _ w4).alloc (Nat.le_refl _) _)
            refine ⟨_, m - 1, rfl, by rw [Int.ofNat_sub (by omega)]; rfl, by simp [hm1]; omega, ?_, (hk.trans b4.kp).trans hka⟩
            exact (h4.kp (S := fun _ => False) (Below.kp ((Below.refl _ w4).alloc (Nat.le_refl _) _)) (fun _ h => h.elim)).mono (by simp [hm1]; omega)
          case measure => simp [intOf]; omega
        · go_wp2
          go_ret
          exact ⟨s, rfl, by omega, hc.mono (by omega), hk⟩
  · have d2 : ((x2 : Int) == 0) = false := by simp; omega
    clear e2
    go_wp2_with fail
    refine (pick_cur B v bs _ 30 _ h2 (by omega) (by omega) (by omega)).mono ?_; rintro e w3 ⟨x3, rfl, hx3, h3, b3⟩
    by_cases e3 : x3 = 0
    · subst e3
      go_wp2_with fail
      refine (pick_cur B v bs _ 2 _ h3 (by omega) (by omega) (by omega)).mono ?_; rintro e w5 ⟨x5, rfl, hx5, h5, b5⟩
      go_wp2_with fail
      go_loopw [3, 4] (fun o i wr => ∃ (s : ByteArray) (m : Nat), o = .string s ∧ i = .int .i64 m ∧ s.size + m ≤ 200 ∧ Cur wr B v bs (M + 12 + 2 * s.size) ∧ Kp (fun k => k = B) w wr) (fun _ i _ => (intOf i).toNat)
      case atStart => exact ⟨ByteArray.empty, 200 - x5, rfl, by go_num, by simp <;> omega, h5.mono (by omega), (((b1.trans b2).trans b3).trans b5).kp⟩
      case round =>
        obtain ⟨s, m, rfl, rfl, hs, hc, hk⟩ := hrel
        by_cases hlt : 0 < m
        · go_wp2_with (go_at_call 40; refine (pick_cur B v bs _ 4 _ hc (by omega) (by omega) (by omega)).mono ?_; rintro e w4 ⟨x4, rfl, hx4, h4, b4⟩)
          go_roundw
          case rel =>
            have hka : Kp (fun k => k = B) w4 (w4.alloc (.cells #[.int .u8 (97 + (x4 : Int))] 5)) := Below.kp ((Below.refl _ w4).alloc (Nat.le_refl _) _)
            refine ⟨_, m - 1, rfl, by rw [Int.ofNat_sub (by omega)]; rfl, by simp [hm1]; omega, ?_, (hk.trans b4.kp).trans hka⟩
            exact (h4.kp (S := fun _ => False) (Below.kp ((Below.refl _ w4).alloc (Nat.le_refl _) _)) (fun _ h => h.elim)).mono (by simp [hm1]; omega)
          case measure => simp [intOf]; omega
        · go_wp2
          go_ret
          exact ⟨s, rfl, by omega, hc.mono (by omega), hk⟩
    · have d3 : ((x3 : Int) == 0) = false := by simp; omega
      clear e3
      go_wp2_with fail
      go_loopw [3, 4] (fun o i wr => ∃ (s : ByteArray) (m : Nat), o = .string s ∧ i = .int .i64 m ∧ s.size + m ≤ 200 ∧ Cur wr B v bs (M + 12 + 2 * s.size) ∧ Kp (fun k => k = B) w wr) (fun _ i _ => (intOf i).toNat)
      case atStart => exact ⟨ByteArray.empty, x1, rfl, by go_num, by simp <;> omega, h3.mono (by omega), ((b1.trans b2).trans b3).kp⟩
      case round =>
        obtain ⟨s, m, rfl, rfl, hs, hc, hk⟩ := hrel
        by_cases hlt : 0 < m
        · go_wp2_with (go_at_call 40; refine (pick_cur B v bs _ 4 _ hc (by omega) (by omega) (by omega)).mono ?_; rintro e w4 ⟨x4, rfl, hx4, h4, b4⟩)
          go_roundw
          case rel =>
            have hka : Kp (fun k => k = B) w4 (w4.alloc (.cells #[.int .u8 (97 + (x4 : Int))] 5)) := Below.kp ((Below.refl _ w4).alloc (Nat.le_refl _) _)
            refine ⟨_, m - 1, rfl, by rw [Int.ofNat_sub (by omega)]; rfl, by simp [hm1]; omega, ?_, (hk.trans b4.kp).trans hka⟩
            exact (h4.kp (S := fun _ => False) (Below.kp ((Below.refl _ w4).alloc (Nat.le_refl _) _)) (fun _ h => h.elim)).mono (by simp [hm1]; omega)
          case measure => simp [intOf]; omega
        · go_wp2
          go_ret
          exact ⟨s, rfl, by omega, hc.mono (by omega), hk⟩

/-- A note that may be drawn: it is one, and its number fits. -/
structure Good (t k p n : Int) (s : ByteArray) : Prop where
  t0 : 0 ≤ t
  t1 : t ≤ 1000000000
  k0 : 0 ≤ k
  k1 : k ≤ 100
  p0 : 0 ≤ p
  p1 : p ≤ 1000
  s1 : s.size ≤ 200
  wf : (Lit.int .i64 n).wf = true
theorem Good.ok {t k p n : Int} {s : ByteArray} (h : Good t k p n s) : noteOkB t k p s.size = true := by
  simp only [noteOkB, Bool.and_eq_true, inB_true, decide_eq_true_eq]
  exact ⟨⟨⟨⟨h.t0, h.t1⟩, h.k0, h.k1⟩, h.p0, h.p1⟩, h.s1⟩

theorem b5cells {w : World} {b : Nat} {x0 x1 x2 x3 x4 : Value} {T : TypeId} (h : w.heap[b]? = some (.cells #[x0, x1, x2, x3, x4] T (0, 0))) :
    (w.cell? ⟨b, 0, none⟩ = some x0 ∧ w.cell? ⟨b, 1, none⟩ = some x1 ∧ w.cell? ⟨b, 2, none⟩ = some x2 ∧ w.cell? ⟨b, 3, none⟩ = some x3 ∧ w.cell? ⟨b, 4, none⟩ = some x4) ∧ ∀ j, w.frozen? ⟨b, j, none⟩ = false := by
  refine ⟨⟨?_, ?_, ?_, ?_, ?_⟩, fun j => Joins.unfrozen_of_block h j⟩ <;> (rw [Joins.cell_of_block h]; rfl)

theorem Cur.old {w : World} {B : Nat} {v : Value} {bs : List Int} {M : Nat} (h : Cur w B v bs M) : ∀ k, v.ownBlock = some k → bs.length = 0 ∨ k < w.heap.size := by
  obtain ⟨_, _, _, _, _, _, _, h6⟩ := h
  intro k hk
  rcases h6 k hk with h | h
  · exact .inl h
  · exact .inr h.1
theorem Cur.set {w : World} {B N : Nat} {v : Value} {bs : List Int} {M : Nat} (h : Cur w B v bs M) (hv : ∀ k, v.ownBlock = some k → bs.length = 0 ∨ k < N) (a : Addr) (u : Value) (ha : N ≤ a.block) (hB : a.block ≠ B) : Cur (w.setCell a u) B v bs M := by
  have hb : But (fun k => k = a.block) w (w.setCell a u) := ⟨rfl, rfl, rfl, by simp [World.setCell], fun k hk => by rw [Below.heap_setCell _ _ _ _ hk]⟩
  obtain ⟨a', s, h1, h2, h3, h4, h5, h6⟩ := h
  refine ⟨a', s, by rw [hb.block B (fun e => hB e.symm)]; exact h1, h2, h3.kp' hb.kp (fun k hk => ?_), h4, h5, fun k hk => ?_⟩
  · rcases hv k hk with h | h
    · exact .inl h
    · rcases h6 k hk with h' | h'
      · exact .inl h'
      · exact .inr ⟨h'.1, by omega⟩
  · rcases h6 k hk with h | h
    · exact .inl h
    · exact .inr ⟨by simpa [World.setCell] using h.1, h.2⟩
theorem Kp.setCell {S : Nat → Prop} {w w' : World} (h : Kp S w w') (a : Addr) (u : Value) (ha : w.heap.size ≤ a.block) : Kp S w (w'.setCell a u) :=
  ⟨h.os, h.tape, h.output, by simpa [World.setCell] using h.size, fun k hk hs => by rw [Below.heap_setCell _ _ _ _ (by omega)]; exact h.block k hk hs⟩

set_option maxHeartbeats 4000000 in
theorem note_cur (B : Nat) (v : Value) (bs : List Int) (M : Nat) (w : World) (h : Cur w B v bs M) (hM : M ≤ 100000) :
    Calls Try.prog 41 #[.pointer (some ⟨B, 0, none⟩)] w fun e w' => ∃ (t k p n : Int) (s : ByteArray), e = .returned (.agg #[.int .i64 t, .int .i64 k, .int .i64 p, .int .i64 n, .string s]) ∧ Good t k p n s ∧ Cur w' B v bs (M + 600) ∧ Kp (fun k => k = B) w w' := by
  have hBlt := h.lt
  have ha := h.kp (S := fun _ => False) (Below.kp ((Below.refl _ w).alloc (Nat.le_refl _) (.cells #[.int .i64 0, .int .i64 0, .int .i64 0, .int .i64 0, .string ByteArray.empty] 26))) (fun _ h => h.elim)
  go_enter Try.func41, Try.ntmps41
  go_wp2_with fail
  refine (pick_cur B v bs M 200 _ ha (by omega) (by omega) (by omega)).mono ?_; rintro e w1 ⟨x1, rfl, hx1, h1, b1⟩
  go_wp2_with fail
  refine (pick_cur B v bs _ 5 _ h1 (by omega) (by omega) (by omega)).mono ?_; rintro e w2 ⟨x2, rfl, hx2, h2, b2⟩
  go_wp2_with fail
  refine (pick_cur B v bs _ 6 _ h2 (by omega) (by omega) (by omega)).mono ?_; rintro e w3 ⟨x3, rfl, hx3, h3, b3⟩
  go_wp2_with fail
  refine (pick_cur B v bs _ 50 _ h3 (by omega) (by omega) (by omega)).mono ?_; rintro e w4 ⟨x4, rfl, hx4, h4, b4⟩
  go_wp2_with fail
  refine (text_cur B v bs _ _ h4 (by omega)).mono ?_; rintro e w5 ⟨s, rfl, hs, h5, k5⟩
  have k05 : Kp (fun k => k = B) (w.alloc (.cells #[.int .i64 0, .int .i64 0, .int .i64 0, .int .i64 0, .string ByteArray.empty] 26)) w5 := ((((b1.trans b2).trans b3).trans b4).kp).trans k5
  have z5 := k05.size
  simp only [World.size_alloc] at z5
  have r5 : w5.heap[w.heap.size]? = some (.cells #[.int .i64 0, .int .i64 0, .int .i64 0, .int .i64 0, .string ByteArray.empty] 26 (0, 0)) := by
    rw [k05.block _ (by simp) (by omega)]
    exact heap_alloc_new w _
  have h5a := h5.kp (S := fun _ => False) (Below.kp ((Below.refl _ w5).alloc (Nat.le_refl _) (.cells #[.int .i64 x1, .int .i64 x2, .int .i64 x3, .int .i64 ((x4 : Int) - 10), .string s] 26))) (fun _ h => h.elim)
  clear h1 h2 h3 h4 b1 b2 b3 b4 k5 ha
  go_wp2_with fail
  refine (pick_cur B v bs _ 8 _ h5a (by omega) (by omega) (by omega)).mono ?_; rintro e w6 ⟨x6, rfl, hx6, h6, b6⟩
  have z6 := b6.size
  simp only [World.size_alloc] at z6
  have r6 : w6.heap[w.heap.size]? = some (.cells #[.int .i64 0, .int .i64 0, .int .i64 0, .int .i64 0, .string ByteArray.empty] 26 (0, 0)) := by
    rw [b6.block _ (by omega), Below.heap_alloc _ _ _ (by omega)]; exact r5
  have n6 : w6.heap[w5.heap.size]? = some (.cells #[.int .i64 x1, .int .i64 x2, .int .i64 x3, .int .i64 ((x4 : Int) - 10), .string s] 26 (0, 0)) := by
    have := h5.lt
    rw [b6.block _ (by omega)]
    exact heap_alloc_new w5 _
  have k6 : Kp (fun k => k = B) w w6 := ((Below.kp ((Below.refl _ w).alloc (Nat.le_refl _) _)).trans k05).trans ((Below.kp ((Below.refl _ w5).alloc (Nat.le_refl _) _)).trans b6.kp)
  have hB5 := h5.lt
  have hold := h.old
  have q1 : w5.heap.size ≠ w.heap.size := by omega
  have q2 : w.heap.size ≠ w5.heap.size := by omega
  clear h5 h5a r5 k05
  by_cases e6 : x6 = 0
  · subst e6
    go_wp2_with fail
    refine (whole_cur B v bs _ _ h6 (by omega)).mono ?_; rintro e w7 ⟨nn, rfl, hnn, h7, b7⟩
    have r7 : w7.heap[w.heap.size]? = some (.cells #[.int .i64 0, .int .i64 0, .int .i64 0, .int .i64 0, .string ByteArray.empty] 26 (0, 0)) := by rw [b7.block _ (by omega)]; exact r6
    have n7 : w7.heap[w5.heap.size]? = some (.cells #[.int .i64 x1, .int .i64 x2, .int .i64 x3, .int .i64 ((x4 : Int) - 10), .string s] 26 (0, 0)) := by rw [b7.block _ (by omega)]; exact n6
    obtain ⟨⟨c0, c1, c2, c3, c4⟩, fc⟩ := b5cells n7
    obtain ⟨⟨d0, d1, d2, d3, d4⟩, fd⟩ := b5cells r7
    clear n6 r6 n7 r7
    go_wp2
    refine bodyPost_ret (v := .agg #[.int .i64 x1, .int .i64 x2, .int .i64 x3, .int .i64 nn, .string s]) (by simp [results, Try.results41, go_sem, c0, c1, c2, c3, c4, d0, d1, d2, d3, d4, q1, q2]) rfl ⟨x1, x2, x3, nn, s, rfl, ⟨by omega, by omega, by omega, by omega, by omega, by omega, hs, hnn⟩, ?_, ?_⟩
    · iterate 5 refine Cur.set (N := w.heap.size) ?_ hold _ _ (by simp) (by simp; omega)
      refine Cur.set (N := w.heap.size) ?_ hold _ _ (by simp; omega) (by simp; omega)
      exact h7.mono (by omega)
    · iterate 5 refine Kp.setCell ?_ _ _ (by simp)
      exact (k6.trans b7.kp).setCell _ _ (by simp; omega)
  · have d6 : ((x6 : Int) == 0) = false := by simp; omega
    clear e6
    obtain ⟨⟨c0, c1, c2, c3, c4⟩, fc⟩ := b5cells n6
    obtain ⟨⟨d0, d1, d2, d3, d4⟩, fd⟩ := b5cells r6
    clear n6 r6
    go_wp2
    refine bodyPost_ret (v := .agg #[.int .i64 x1, .int .i64 x2, .int .i64 x3, .int .i64 ((x4 : Int) - 10), .string s]) (by simp [results, Try.results41, go_sem, c0, c1, c2, c3, c4, d0, d1, d2, d3, d4, q1, q2]) rfl ⟨x1, x2, x3, _, s, rfl, ⟨by omega, by omega, by omega, by omega, by omega, by omega, hs, wf64 _ (by omega) (by omega)⟩, ?_, ?_⟩
    · iterate 5 refine Cur.set (N := w.heap.size) ?_ hold _ _ (by simp) (by simp; omega)
      exact h6.mono (by omega)
    · iterate 5 refine Kp.setCell ?_ _ _ (by simp)
      exact k6
end Go.Proofs.Ytepagknkhlpicaa
