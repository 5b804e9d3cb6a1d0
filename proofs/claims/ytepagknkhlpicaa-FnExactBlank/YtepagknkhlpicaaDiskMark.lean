/-
  markByteSS, heldByteSS, markWriteS, heldWriteS, markDisk, heldDisk.
-/
import Derived.Test.YtepagknkhlpicaaDiskEq
namespace Go.Proofs.Ytepagknkhlpicaa
open Go.ChangeShapes Go.WideShapes Go.ChangeAt Go.RowKit
set_option linter.unusedVariables false
set_option linter.unusedSimpArgs false

set_option maxHeartbeats 1000000 in
theorem mark_but {ety : Nat} (lo : Nat) (v : Value) (xs : List Int) (k : Int) (w : World) (hk : 0 ≤ k) (hk' : k ≤ 1000000000) (hl : xs.length ≤ 1000000000) (h : w.ownsRow lo ety 1 v xs.length (xs.map (Value.int .u8))) :
    Calls Try.prog 30 #[v, .int .i64 k] w fun e w' => e = .returned (.int .i64 (k + xs.length)) ∧ w'.ownsRow lo ety 1 v (marks k xs.length).length ((marks k xs.length).map (Value.int .u8)) ∧ But (fun b => v.ownBlock = some b) w w' := by
  rw [marks_length]
  obtain ⟨h1, h2⟩ := h
  rcases h2 with ⟨rfl, h0⟩ | ⟨g, cap, cur, rfl, hg, hh, hn, hm, hs, ht⟩
  · have hx : xs = [] := List.eq_nil_of_length_eq_zero h0
    subst hx
    go_enter Try.func30, Try.ntmps30
    go_wp2
    refine wp_loop_rounds 1 ?_
    rw [rounds_succ]
    go_wp2
    go_ret
    exact ⟨by simp, World.ownsRow_nil _ _ _ _, But.refl _ _⟩
  · unfold maxLen at hm
    go_enter Try.func30, Try.ntmps30
    go_wp2
    go_loopw [1, 5] (fun q i wr => ∃ (j : Nat) (c : Array Value), j ≤ xs.length ∧ i = .int .i64 j ∧ q = .int .i64 (k + j) ∧ wr.heap[g]? = some (.cells c ety (0, 0)) ∧ c.size = cap ∧ c.toList.take j = (marks k j).map (Value.int .u8) ∧ But (fun b => g = b) w wr) (fun _ i _ => xs.length - (intOf i).toNat)
    case atStart => exact ⟨0, cur, Nat.zero_le _, rfl, by simp, hh, by omega, rfl, But.refl _ _⟩
    case round =>
      obtain ⟨j, c, hj, rfl, rfl, hc, hcs, hct, hb⟩ := hrel
      by_cases hlt : j < xs.length
      · have hcell : ∃ x, wr.cell? ⟨g, j, none⟩ = some x := by
          rw [Joins.cell_of_block hc]
          exact ⟨_, Array.getElem?_eq_getElem (by omega)⟩
        obtain ⟨x, hcell⟩ := hcell
        have hfz := Joins.unfrozen_of_block hc j
        go_wp2
        go_roundw
        case rel =>
          refine ⟨j + 1, c.setIfInBounds j (.int .u8 ((k + j) % 256)), by omega, by go_num, by go_num, Joins.block_setCell hc _, by simp [hcs], ?_, hb.trans ⟨rfl, rfl, rfl, by simp [World.setCell], fun b hb => by rw [Below.heap_setCell _ _ _ _ (fun e => hb e.symm)]⟩⟩
          rw [List.take_succ_eq_append_getElem (by simp; omega)]
          simp only [Array.toList_setIfInBounds, marks, List.map_append, List.map_cons, List.map_nil]
          rw [List.take_set_of_le (Nat.le_refl _), hct]
          simp
        case measure => simp [intOf]; omega
      · have : j = xs.length := by omega
        subst this
        go_wp2
        go_ret
        refine ⟨rfl, ⟨by simp [marks_length], .inr ⟨g, cap, c, rfl, hg, hc, hn, by unfold maxLen; exact hm, by omega, by rw [Nat.mul_one]; exact hct⟩⟩, ?_⟩
        exact ⟨hb.os, hb.tape, hb.output, hb.size, fun b hb' => hb.block b (fun e => hb' (by simp [Value.ownBlock, e]))⟩

/-- The marks of some lists. -/
def mkBB (k : Int) : List (List Int) → List (List Int)
  | [] => []
  | b :: r => marks k b.length :: mkBB (k + b.length) r
theorem mkBB_length : ∀ (L : List (List Int)) (k : Int), (mkBB k L).length = L.length
  | [], _ => rfl
  | b :: r, k => by simp [mkBB, mkBB_length r]
theorem sumL_append : ∀ A B : List (List Int), sumL (A ++ B) = sumL A + sumL B
  | [], B => by simp [sumL]
  | a :: A, B => by simp [sumL, sumL_append A B]; omega
theorem mkBB_append : ∀ (A B : List (List Int)) (k : Int), mkBB k (A ++ B) = mkBB k A ++ mkBB (k + sumL A) B
  | [], B, k => by simp [mkBB, sumL]
  | a :: A, B, k => by
    simp only [List.cons_append, mkBB, mkBB_append A B, sumL]
    rw [Int.add_assoc]
    simp
theorem sumL_take_le (L : List (List Int)) (j : Nat) : sumL (L.take j) ≤ sumL L := by
  have := sumL_append (L.take j) (L.drop j)
  rw [List.take_append_drop] at this
  omega

theorem OwnRows.upd {lo e : Nat} {w w' : World} {b b' : List Int} {C : List (List Int)} : ∀ {rows : List Value} {A : List (List Int)}, OwnRows lo w rows (A ++ b :: C) → (fps rows).Nodup → ∀ (hj : A.length < rows.length), w'.ownsRow lo e 1 rows[A.length] b'.length (b'.map (Value.int .u8)) → But (fun k => rows[A.length].ownBlock = some k) w w' → OwnRows lo w' rows (A ++ b' :: C)
  | [], [], h, _, _, _, _ => h.elim
  | [], _ :: _, h, _, _, _, _ => h.elim
  | v :: vs, [], h, hn, hj, ho, hb => by
    refine ⟨⟨_, ho⟩, h.2.same (fun k hk => hb.block k (fun e => ?_))⟩
    simp only [List.length_nil, List.getElem_cons_zero] at e
    simp only [fps, List.filterMap_cons, e] at hn
    exact (List.nodup_cons.1 hn).1 hk
  | v :: vs, a :: A, h, hn, hj, ho, hb => by
    simp only [List.length_cons, List.getElem_cons_succ] at ho hb
    have hj' : A.length < vs.length := by simpa using hj
    have hn' : (fps vs).Nodup ∧ ∀ k, v.ownBlock = some k → k ∉ fps vs := by
      simp only [fps, List.filterMap_cons] at hn
      cases hv : v.ownBlock with
      | none => rw [hv] at hn; exact ⟨hn, fun k hk => by simp at hk⟩
      | some x =>
        rw [hv] at hn
        have := List.nodup_cons.1 hn
        exact ⟨this.2, fun k hk => by simp at hk; subst hk; exact this.1⟩
    refine ⟨h.1.imp fun _ h1 => own_same h1 (fun k hk => hb.block k (fun e => hn'.2 k hk ?_)), OwnRows.upd h.2 hn'.1 hj' ho hb⟩
    simp only [fps, List.mem_filterMap]
    exact ⟨vs[A.length], List.getElem_mem _, e⟩

theorem outer_at {w : World} {lo e : Nat} {v : Value} {n : Nat} {rows : List Value} (h : w.ownsRow lo e 1 v n rows) (i : Nat) (hi : i < rows.length) : ∃ g cap, v = .slice (some ⟨g, 0, none⟩) n cap ∧ w.cell? ⟨g, i, none⟩ = some rows[i] := by
  obtain ⟨h1, h2⟩ := h
  rcases h2 with ⟨_, h0⟩ | ⟨g, cap, cur, rfl, hg, hh, hn, hm, hs, ht⟩
  · omega
  · refine ⟨g, cap, rfl, ?_⟩
    rw [Joins.cell_of_block hh]
    have : (cur.toList.take (n * 1))[i]? = rows[i]? := by rw [ht]
    rw [List.getElem?_take_of_lt (by omega)] at this
    simpa [List.getElem?_eq_getElem hi] using this
theorem fps_get_mem {rows : List Value} {j : Nat} (hj : j < rows.length) {k : Nat} (hk : rows[j].ownBlock = some k) : k ∈ fps rows := by
  simp only [fps, List.mem_filterMap]
  exact ⟨rows[j], List.getElem_mem _, hk⟩
theorem But.mono {S T : Nat → Prop} {w w' : World} (h : But S w w') (hS : ∀ k, S k → T k) : But T w w' := ⟨h.os, h.tape, h.output, h.size, fun k hk => h.block k (fun e => hk (hS k e))⟩

set_option maxHeartbeats 2000000 in
theorem markBB_own (lo : Nat) (v : Value) (rows : List Value) (L : List (List Int)) (k : Int) (w : World) (hk : 0 ≤ k) (hk' : k + sumL L ≤ 1000000000) (hl : L.length ≤ 1000000000) (h : OBB lo w v rows L) :
    Calls Try.prog 71 #[v, .int .i64 k] w fun e w' => e = .returned (.int .i64 (k + sumL L)) ∧ OBB lo w' v rows (mkBB k L) ∧ But (fun b => b ∈ fps rows) w w' := by
  obtain ⟨ho, hi, ha⟩ := h
  have hlen := hi.length
  have hnd : (fps rows).Nodup ∧ ∀ k, v.ownBlock = some k → k ∉ fps rows := by
    simp only [fps, List.filterMap_cons] at ha
    cases hv : v.ownBlock with
    | none => rw [hv] at ha; exact ⟨ha, fun k hk => by simp at hk⟩
    | some x =>
      rw [hv] at ha
      have := List.nodup_cons.1 ha
      exact ⟨this.2, fun k hk => by simp at hk; subst hk; exact this.1⟩
  obtain ⟨av, nv, cv, rfl⟩ := own_form ho
  have hnv : nv = L.length := by
    rcases ho.2 with ⟨e, e0⟩ | ⟨g, cap, cur, e, _⟩
    · simp at e; omega
    · simp at e; omega
  subst hnv
  go_enter Try.func71, Try.ntmps71
  go_wp2
  go_loopw [1, 5] (fun q i wr => ∃ (j : Nat), j ≤ L.length ∧ i = .int .i64 j ∧ q = .int .i64 (k + sumL (L.take j)) ∧ OwnRows lo wr rows (mkBB k (L.take j) ++ L.drop j) ∧ But (fun b => b ∈ fps rows) w wr) (fun _ i _ => L.length - (intOf i).toNat)
  case atStart => exact ⟨0, Nat.zero_le _, rfl, by simp [sumL], by simpa [mkBB] using hi, But.refl _ _⟩
  case round =>
    obtain ⟨j, hj, rfl, rfl, hr, hb⟩ := hrel
    by_cases hlt : j < L.length
    · have hown : wr.ownsRow lo 22 1 (.slice av L.length cv) L.length rows := own_same ho (fun b hk => hb.block b (hnd.2 b hk))
      obtain ⟨g, cap, e, hc⟩ := outer_at hown j (by omega)
      simp only [Value.slice.injEq] at e
      obtain ⟨rfl, _, rfl⟩ := e
      have hAl : (mkBB k (L.take j)).length = j := by rw [mkBB_length]; simp; omega
      have hdr : L.drop j = L[j] :: L.drop (j + 1) := List.drop_eq_getElem_cons hlt
      have htk : L.take (j + 1) = L.take j ++ [L[j]] := List.take_succ_eq_append_getElem hlt
      have hsum : sumL (L.take (j + 1)) = sumL (L.take j) + L[j].length := by rw [htk, sumL_append]; simp [sumL]
      have hsum2 := sumL_take_le L (j + 1)
      have hmk : mkBB k (L.take (j + 1)) = mkBB k (L.take j) ++ [marks (k + sumL (L.take j)) L[j].length] := by rw [htk, mkBB_append]; simp [mkBB]
      rw [hdr] at hr
      obtain ⟨ety, hrj⟩ := hr.get j (by omega) (by simp; omega)
      have egj : (mkBB k (L.take j) ++ L[j] :: L.drop (j + 1))[j]'(by simp; omega) = L[j] := by
        rw [List.getElem_append_right (by omega)]
        simp [hAl]
      rw [egj] at hrj
      generalize hrv : rows[j] = rj at hrj hc
      generalize hS : sumL (L.take j) = S at hsum hmk
      have hform := own_form hrj
      obtain ⟨aj, nj, cj, rfl⟩ := hform
      have HR : Hid (OwnRows lo wr rows (mkBB k (L.take j) ++ L[j] :: L.drop (j + 1))) := hr
      have HM : Hid (mkBB k (L.take (j + 1)) = mkBB k (L.take j) ++ [marks (k + S) L[j].length]) := hmk
      have HS : Hid (sumL (L.take (j + 1)) = S + L[j].length) := hsum
      have HRV : Hid (rows[j] = .slice aj nj cj) := hrv
      clear hr hdr htk hmk hrv egj hS
      go_wp2_with (go_at_call 30; refine (mark_but lo _ L[j] _ _ (by omega) (by omega) (by omega) hrj).mono ?_; rintro e w1 ⟨rfl, own1, b1⟩)
      go_roundw
      case rel =>
        refine ⟨j + 1, by omega, by go_num, by rw [HS.out]; go_num, ?_, hb.trans (b1.mono (fun b hbb => fps_get_mem (j := j) (by omega) (by rw [HRV.out]; exact hbb)))⟩
        have := OwnRows.upd (w' := w1) (b' := marks (k + S) L[j].length) HR.out hnd.1 (by omega) (by simp only [hAl]; rw [HRV.out]; exact own1) (by simp only [hAl]; rw [HRV.out]; exact b1)
        rw [HM.out]
        simpa using this
      case measure => simp [intOf]; omega
    · have : j = L.length := by omega
      subst this
      go_wp2
      go_ret
      rw [List.take_length, List.drop_length, List.append_nil] at hr
      rw [List.take_length]
      refine ⟨rfl, ⟨?_, hr, ha⟩, hb⟩
      rw [mkBB_length]
      exact own_same ho (fun b hk => hb.block b (hnd.2 b hk))
end Go.Proofs.Ytepagknkhlpicaa
