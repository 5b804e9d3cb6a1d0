/-
  A drawn question: ask, Asked.
-/
import Derived.Test.YtepagknkhlpicaaSpecFind
import Derived.Deep.RegionWith
namespace Go.Proofs.Ytepagknkhlpicaa
open Go.ChangeShapes Go.WideShapes Go.ChangeAt Go.RowKit Go.Deep
set_option linter.unusedVariables false
set_option linter.unusedSimpArgs false

/-- What a drawn question keeps to. -/
structure AD.small (a : AD) : Prop where
  l0 : 0 ≤ a.lo
  l1 : a.lo ≤ 1000
  h0 : 0 ≤ a.hi
  h1 : a.hi ≤ 1000
  p1 : a.part.size ≤ 10

theorem Kp.undrew {S : Nat → Prop} {w w' : World} (h : Kp S w.drew w') : Kp S w w' := ⟨h.os, h.tape, h.output, h.size, h.block⟩

set_option maxRecDepth 5000 in
set_option maxHeartbeats 4000000 in
theorem ask_cur (B : Nat) (v : Value) (bs : List Int) (M : Nat) (w : World) (h : Cur w B v bs M) (hM : M ≤ 100000) :
    Calls Try.prog 57 #[.pointer (some ⟨B, 0, none⟩)] w fun e w' => ∃ a : AD, e = .returned a.val ∧ a.small ∧ Cur w' B v bs (M + 100) ∧ Kp (fun k => k = B) w w' := by
  have hso := str_one
  have hm1 : ∀ x : Int, (mkS [x]).size = 1 := fun x => by rw [mkS_size]; rfl
  have hBlt := h.lt
  have hold := h.old
  have ha := h.kp (S := fun _ => False) (Below.kp ((Below.refl _ w).alloc (Nat.le_refl _) (.cells #[.int .i64 0, .int .i64 0, .int .i64 0, .int .i64 0, .string ByteArray.empty] 38))) (fun _ h => h.elim)
  go_enter Try.func57, Try.ntmps57
  go_wp2_with fail
  refine (pick_cur B v bs M 150 _ ha (by omega) (by omega) (by omega)).mono ?_; rintro e w1 ⟨x1, rfl, hx1, h1, b1⟩
  go_wp2_with fail
  refine (pick_cur B v bs _ 220 _ h1 (by omega) (by omega) (by omega)).mono ?_; rintro e w2 ⟨x2, rfl, hx2, h2, b2⟩
  go_wp2_with fail
  refine (pick_cur B v bs _ 6 _ h2 (by omega) (by omega) (by omega)).mono ?_; rintro e w3 ⟨x3, rfl, hx3, h3, b3⟩
  go_wp2_with fail
  refine (pick_cur B v bs _ 7 _ h3 (by omega) (by omega) (by omega)).mono ?_; rintro e w4 ⟨x4, rfl, hx4, h4, b4⟩
  have k04 : Kp (fun k => k = B) (w.alloc (.cells #[.int .i64 0, .int .i64 0, .int .i64 0, .int .i64 0, .string ByteArray.empty] 38)) w4 := (((b1.trans b2).trans b3).trans b4).kp
  have z4 := k04.size
  simp only [World.size_alloc] at z4
  have r4 : w4.heap[w.heap.size]? = some (.cells #[.int .i64 0, .int .i64 0, .int .i64 0, .int .i64 0, .string ByteArray.empty] 38 (0, 0)) := by
    rw [k04.block _ (by simp) (by omega)]
    exact heap_alloc_new w _
  have h4a := h4.kp (S := fun _ => False) (Below.kp ((Below.refl _ w4).alloc (Nat.le_refl _) (.cells #[.int .i64 x1, .int .i64 x2, .int .i64 ((x3 : Int) - 1), .int .i64 ((x4 : Int) - 1), .string ByteArray.empty] 38))) (fun _ h => h.elim)
  have q1 : w4.heap.size ≠ w.heap.size := by omega
  have q2 : w.heap.size ≠ w4.heap.size := by omega
  have hAB : w4.heap.size ≠ B := by omega
  have kw4 : Kp (fun k => k = B) w w4 := (Below.kp ((Below.refl _ w).alloc (Nat.le_refl _) _)).trans k04
  clear h1 h2 h3 h4 b1 b2 b3 b4 ha k04
  go_wp2_with fail
  refine (pick_cur B v bs _ 3 _ h4a (by omega) (by omega) (by omega)).mono ?_; rintro e w5 ⟨x5, rfl, hx5, h5, b5⟩
  have z5 := b5.size
  simp only [World.size_alloc] at z5
  have hA5 : w5.heap[w4.heap.size]? = some (.cells #[.int .i64 x1, .int .i64 x2, .int .i64 ((x3 : Int) - 1), .int .i64 ((x4 : Int) - 1), .string ByteArray.empty] 38 (0, 0)) := by rw [b5.block _ hAB]; exact heap_alloc_new w4 _
  have hR5 : w5.heap[w.heap.size]? = some (.cells #[.int .i64 0, .int .i64 0, .int .i64 0, .int .i64 0, .string ByteArray.empty] 38 (0, 0)) := by rw [b5.block _ (by omega), Below.heap_alloc _ _ _ (by omega)]; exact r4
  have kw5 : Kp (fun k => k = B) w w5 := (kw4.trans (Below.kp ((Below.refl _ w4).alloc (Nat.le_refl _) _))).trans b5.kp
  clear r4 h4a b5 kw4
  go_wp2_with fail
  go_loopw [4] (fun i wr => ∃ (m : Nat) (s : ByteArray), i = .int .i64 m ∧ m + s.size ≤ 2 ∧ wr.heap[w4.heap.size]? = some (.cells #[.int .i64 x1, .int .i64 x2, .int .i64 ((x3 : Int) - 1), .int .i64 ((x4 : Int) - 1), .string s] 38 (0, 0)) ∧ wr.heap[w.heap.size]? = some (.cells #[.int .i64 0, .int .i64 0, .int .i64 0, .int .i64 0, .string ByteArray.empty] 38 (0, 0)) ∧ Cur wr B v bs (M + 12 + 2 * s.size) ∧ Kp (fun k => k = B) w wr ∧ w4.heap.size < wr.heap.size) (fun i _ => (intOf i).toNat)
  case atStart => exact ⟨x5, ByteArray.empty, rfl, by simp <;> omega, hA5, hR5, h5.mono (by simp <;> omega), kw5, by omega⟩
  case round =>
    obtain ⟨m, s, rfl, hms, hA, hR, hc, hk, hz⟩ := hrel
    obtain ⟨⟨c0, c1, c2, c3, c4⟩, fc⟩ := b5cells hA
    clear hA5 hR5 h5
    by_cases hlt : 0 < m
    · have hs9 : s.size ≤ 10 := by omega
      go_wp2_with fail
      go_region_with (go_at_call 40; refine (pick_cur B v bs (M + 12 + 2 * s.size) 4 _ ?_ (by omega) (by omega) (by omega)).mono ?_; exact hc; rintro e w6 ⟨x6, rfl, hx6, h6, b6⟩; have hA6 : w6.heap[w4.heap.size]? = some (.cells #[.int .i64 x1, .int .i64 x2, .int .i64 ((x3 : Int) - 1), .int .i64 ((x4 : Int) - 1), .string s] 38 (0, 0)) := (by rw [b6.block _ hAB]; exact hA); have hne6 : w4.heap.size ≠ w6.heap.size := (by have z6 : w6.heap.size = wr.heap.size := b6.size; omega); have hne7 : w6.heap.size ≠ w4.heap.size := (fun e => hne6 e.symm); have hal : ∀ o, (w6.alloc o).heap[w4.heap.size]? = some (.cells #[.int .i64 x1, .int .i64 x2, .int .i64 ((x3 : Int) - 1), .int .i64 ((x4 : Int) - 1), .string s] 38 (0, 0)) := (fun o => by have z6 : w6.heap.size = wr.heap.size := b6.size; rw [Below.heap_alloc _ _ _ (by omega)]; exact hA6); have hal4 : ∀ o, (w6.alloc o).cell? ⟨w4.heap.size, 4, none⟩ = some (.string s) := (fun o => (b5cells (hal o)).1.2.2.2.2); have half : ∀ o, (w6.alloc o).frozen? ⟨w4.heap.size, 4, none⟩ = false := (fun o => (b5cells (hal o)).2 4); obtain ⟨⟨d0, d1, d2, d3, d4⟩, fd⟩ := b5cells hA6)
      all_goals
        have HZ6 : Hid (w6.heap.size = wr.heap.size) := b6.size
        have h6a := h6.kp (S := fun _ => False) (Below.kp ((Below.refl _ w6).alloc (Nat.le_refl _) (.cells #[.int .u8 (97 + (x6 : Int))] 5))) (fun _ h => h.elim)
        have k6 : Kp (fun k => k = B) w (w6.alloc (.cells #[.int .u8 (97 + (x6 : Int))] 5)) := (hk.trans (Kp.undrew b6.kp)).trans (Below.kp ((Below.refl _ w6).alloc (Nat.le_refl _) _))
        have hR6 : w6.heap[w.heap.size]? = some (.cells #[.int .i64 0, .int .i64 0, .int .i64 0, .int .i64 0, .string ByteArray.empty] 38 (0, 0)) := (b6.block _ (by omega)).trans hR
        have HAL := Joins.block_setCell (i := 4) (hal (.cells #[.int .u8 (97 + (x6 : Int))] 5)) (.string (s ++ mkS [97 + (x6 : Int)]))
        have HHAL : Hid (_) := HAL
        clear HAL hal hal4 half d0 d1 d2 d3 d4 fd c0 c1 c2 c3 c4 fc hA hR hA6 hc
        go_wp2
        go_roundw
        case rel =>
          refine ⟨m - 1, s ++ mkS [97 + (x6 : Int)], by rw [Int.ofNat_sub (by omega)]; rfl, by simp [hm1]; omega, HHAL.out, ?_, ?_, k6.setCell _ _ (by simp; omega), by have := HZ6.out; simp [World.setCell]; omega⟩
          · rw [Below.heap_setCell _ _ _ _ q2, Below.heap_alloc _ _ _ (by have := HZ6.out; omega)]; exact hR6
          · refine Cur.set (N := w.heap.size) ?_ hold _ _ (by simp; omega) hAB
            exact h6a.mono (by simp [hm1]; omega)
        case measure => simp [intOf]; omega
    · have : m = 0 := by omega
      subst this
      obtain ⟨⟨r0, r1, r2, r3, r4⟩, fr⟩ := b5cells hR
      have hs9 : s.size ≤ 2 := by omega
      go_wp2_with fail
      refine (pick_cur B v bs (M + 12 + 2 * s.size) 3 _ hc (by omega) (by omega) (by omega)).mono ?_; rintro e w7 ⟨x7, rfl, hx7, h7, b7⟩
      have hA7 : w7.heap[w4.heap.size]? = some (.cells #[.int .i64 x1, .int .i64 x2, .int .i64 ((x3 : Int) - 1), .int .i64 ((x4 : Int) - 1), .string s] 38 (0, 0)) := by rw [b7.block _ hAB]; exact hA
      have hR7 : w7.heap[w.heap.size]? = some (.cells #[.int .i64 0, .int .i64 0, .int .i64 0, .int .i64 0, .string ByteArray.empty] 38 (0, 0)) := by rw [b7.block _ (by omega)]; exact hR
      have k7 : Kp (fun k => k = B) w w7 := hk.trans b7.kp
      clear c0 c1 c2 c3 c4 fc r0 r1 r2 r3 r4 fr hA hR hc
      obtain ⟨⟨c0, c1, c2, c3, c4⟩, fc⟩ := b5cells hA7
      obtain ⟨⟨r0, r1, r2, r3, r4⟩, fr⟩ := b5cells hR7
      clear hA7 hR7
      by_cases e7 : x7 = 0
      · subst e7
        go_wp2
        refine bodyPost_ret (v := .agg #[.int .i64 0, .int .i64 500, .int .i64 ((x3 : Int) - 1), .int .i64 ((x4 : Int) - 1), .string s]) (by simp [results, Try.results57, go_sem, c0, c1, c2, c3, c4, r0, r1, r2, r3, r4, q1, q2]) rfl ⟨⟨0, 500, (x3 : Int) - 1, (x4 : Int) - 1, s⟩, rfl, ⟨by simp, by simp, by simp, by simp, by simp; omega⟩, ?_, ?_⟩
        · repeat refine Cur.set (N := w.heap.size) ?_ hold _ _ (by first | exact Nat.le_refl _ | (show w.heap.size ≤ w4.heap.size; omega)) (by first | exact hAB | (show w.heap.size ≠ B; omega))
          exact h7.mono (by omega)
        · repeat refine Kp.setCell ?_ _ _ (by first | exact Nat.le_refl _ | (show w.heap.size ≤ w4.heap.size; omega))
          exact k7
      · have d7 : ((x7 : Int) == 0) = false := by simp; omega
        clear e7
        go_wp2
        refine bodyPost_ret (v := .agg #[.int .i64 x1, .int .i64 x2, .int .i64 ((x3 : Int) - 1), .int .i64 ((x4 : Int) - 1), .string s]) (by simp [results, Try.results57, go_sem, c0, c1, c2, c3, c4, r0, r1, r2, r3, r4, q1, q2]) rfl ⟨⟨x1, x2, (x3 : Int) - 1, (x4 : Int) - 1, s⟩, rfl, ⟨by simp, by simp; omega, by simp, by simp; omega, by simp; omega⟩, ?_, ?_⟩
        · repeat refine Cur.set (N := w.heap.size) ?_ hold _ _ (by first | exact Nat.le_refl _ | (show w.heap.size ≤ w4.heap.size; omega)) (by first | exact hAB | (show w.heap.size ≠ B; omega))
          exact h7.mono (by omega)
        · repeat refine Kp.setCell ?_ _ _ (by first | exact Nat.le_refl _ | (show w.heap.size ≤ w4.heap.size; omega))
          exact k7

set_option maxHeartbeats 1000000 in
theorem asked_any (v : Value) (bs : List Int) (w : World) (hr : Reads w v bs) (hby : Byt bs) (hl : bs.length ≤ 1000000000) (hv : ∀ k, v.ownBlock = some k → bs.length = 0 ∨ k < w.heap.size) :
    Calls Try.prog 20 #[v] w fun e w' => ∃ a : AD, e = .returned a.val ∧ a.small ∧ Below w.heap.size w w' := by
  have hform : ∃ a len cap, v = .slice a len cap := by obtain ⟨a, cap, e, _⟩ := hr; exact ⟨a, _, cap, e⟩
  obtain ⟨a, len, cap, rfl⟩ := hform
  have bA : Below w.heap.size w ((w.alloc (.cells #[.int .i64 0, .int .i64 0, .int .i64 0, .int .i64 0, .string ByteArray.empty] 38)).alloc (.cells #[.slice a len cap, .int .i64 0, .int .u64 0] 66)) := ((Below.refl _ w).alloc (Nat.le_refl _) _).alloc (by simp) _
  have gA : ((w.alloc (.cells #[.int .i64 0, .int .i64 0, .int .i64 0, .int .i64 0, .string ByteArray.empty] 38)).alloc (.cells #[.slice a len cap, .int .i64 0, .int .u64 0] 66)).heap[w.heap.size]? = some (.cells #[.int .i64 0, .int .i64 0, .int .i64 0, .int .i64 0, .string ByteArray.empty] 38 (0, 0)) := by rw [Below.heap_alloc _ _ _ (by simp)]; exact heap_alloc_new w _
  have gB := heap_alloc_new (w.alloc (.cells #[.int .i64 0, .int .i64 0, .int .i64 0, .int .i64 0, .string ByteArray.empty] 38)) (.cells #[.slice a len cap, .int .i64 0, .int .u64 0] 66)
  rw [World.size_alloc] at gB
  have hc : Cur ((w.alloc (.cells #[.int .i64 0, .int .i64 0, .int .i64 0, .int .i64 0, .string ByteArray.empty] 38)).alloc (.cells #[.slice a len cap, .int .i64 0, .int .u64 0] 66)) (w.heap.size + 1) (.slice a len cap) bs 0 :=
    ⟨0, 0, gB, Nat.le_refl _, hr.below' bA hv, hby, hl, fun k hk => (hv k hk).imp id (fun h => ⟨by simp; omega, by omega⟩)⟩
  clear hr gB
  go_enter Try.func20, Try.ntmps20
  go_wp2_with fail
  refine (ask_cur (w.heap.size + 1) _ bs 0 _ hc (by omega)).mono ?_; rintro e w1 ⟨q, rfl, hq, h1, k1⟩
  have g1 : w1.heap[w.heap.size]? = some (.cells #[.int .i64 0, .int .i64 0, .int .i64 0, .int .i64 0, .string ByteArray.empty] 38 (0, 0)) := by rw [k1.block _ (by simp; omega) (by omega)]; exact gA
  have B1 : Below w.heap.size w w1 := bA.trans (k1.below (by simp; omega) (fun k hk => by omega))
  obtain ⟨⟨d0, d1, d2, d3, d4⟩, fd⟩ := b5cells g1
  clear h1 k1 hc gA g1 bA
  unfold AD.val
  go_wp2
  refine bodyPost_ret (v := .agg #[.int .i64 q.lo, .int .i64 q.hi, .int .i64 q.kind, .int .i64 q.who, .string q.part]) (by simp [results, Try.results20, go_sem, d0, d1, d2, d3, d4]) rfl ⟨q, rfl, hq, ?_⟩
  iterate 5 refine Below.setCell ?_ (by simp) _
  exact B1
end Go.Proofs.Ytepagknkhlpicaa
