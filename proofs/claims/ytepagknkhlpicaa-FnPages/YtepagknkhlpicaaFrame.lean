/-
  impl.Frame and spec.Frame.
-/
import Derived.Test.YtepagknkhlpicaaWriter
namespace Go.Proofs.Ytepagknkhlpicaa
open Go.ChangeShapes Go.WideShapes Go.ChangeAt Go.RowKit
set_option linter.unusedVariables false
set_option linter.unusedSimpArgs false

theorem But.cell {S : Nat → Prop} {w w' : World} (h : But S w w') {b : Nat} (hb : ¬ S b) (o : Nat) : w'.cell? ⟨b, o, none⟩ = w.cell? ⟨b, o, none⟩ := World.cell?_of_block (h.block b hb)

theorem info5 : (Try.prog.info? 5).map (fun i => (i.zero, i.size, i.bytes)) = some (some (.int .u8 0), 1, 1) := by kernel_rfl

theorem make_bytes (n : Nat) (z : Int) (hz : z = n) (hn : n ≤ 1000000000) (w : World) :
    (Instr.makeSlice 22 (.int .i64 z) (.int .i64 z)).run Try.prog w = .ok (.slice (some ⟨w.heap.size, 0, none⟩) n n) (w.alloc (.cells (Array.replicate n (Value.int .u8 0)) 5)) := by
  subst hz
  obtain ⟨i, hi, h1, h2, h3⟩ := info_parts info5
  rw [run_make w 22 5 i (.int .u8 0) Try.underlying22 hi h1 .i64 .i64 n n (by omega) (Int.le_refl _) (by rw [h3]; omega) (by omega)]
  have e : madeCells (Value.cells (.int .u8 0)) ((n : Int).toNat * i.size) = (Array.replicate n (Value.int .u8 0)) := by
    apply Array.ext'
    rw [h2]
    simp only [Value.cells, Int.toNat_natCast, Nat.mul_one, Array.toList_replicate]
    exact toList_madeCells_one _ _
  rw [e]
  simp

theorem Wr_new (w1 : World) (n : Nat) (hn : n ≤ 1000) : Wr ((w1.alloc (.cells (Array.replicate n (Value.int .u8 0)) 5)).alloc (.cells #[.slice (some ⟨w1.heap.size, 0, none⟩) n n, .int .i64 0] 72)) (w1.heap.size + 1) w1.heap.size n [] := by
  refine ⟨?_, by omega, Nat.zero_le _, hn, ?_⟩
  · have := heap_alloc_new (w1.alloc (.cells (Array.replicate n (Value.int .u8 0)) 5)) (.cells #[.slice (some ⟨w1.heap.size, 0, none⟩) n n, .int .i64 0] 72)
    simpa using this
  · rw [Below.heap_alloc _ _ _ (by simp)]
    simpa using heap_alloc_new w1 (.cells (Array.replicate n (Value.int .u8 0)) 5)

/-- The frame of a note. -/
def frameL (t k p n : Int) (s : ByteArray) : List Int := [78, (s.size : Int)] ++ le t 4 ++ [k] ++ le p 2 ++ le (IntKind.u64.wrap n) 8 ++ txt s
theorem frameL_length (t k p n : Int) (s : ByteArray) : (frameL t k p n s).length = 17 + s.size := by simp [frameL, le_length, txt_length]; omega

theorem noteOk_parts {t k p : Int} {len : Nat} (h : noteOkB t k p len = true) : (0 ≤ t ∧ t ≤ 1000000000) ∧ (0 ≤ k ∧ k ≤ 100) ∧ (0 ≤ p ∧ p ≤ 1000) ∧ len ≤ 200 := by
  simp only [noteOkB, Bool.and_eq_true, inB_true, decide_eq_true_eq] at h
  exact ⟨h.1.1.1, h.1.1.2, h.1.2, h.2⟩

/-- A note in a block. -/
def NoteAt (w : World) (b : Nat) (t k p n : Int) (s : ByteArray) : Prop :=
  w.cell? ⟨b, 0, none⟩ = some (.int .i64 t) ∧ w.cell? ⟨b, 1, none⟩ = some (.int .i64 k) ∧ w.cell? ⟨b, 2, none⟩ = some (.int .i64 p) ∧ w.cell? ⟨b, 3, none⟩ = some (.int .i64 n) ∧ w.cell? ⟨b, 4, none⟩ = some (.string s)
theorem NoteAt.but {S : Nat → Prop} {w w' : World} {b : Nat} {t k p n : Int} {s : ByteArray} (h : NoteAt w b t k p n s) (hb : But S w w') (hS : ¬ S b) : NoteAt w' b t k p n s := by
  obtain ⟨h0, h1, h2, h3, h4⟩ := h
  exact ⟨by rw [hb.cell hS]; exact h0, by rw [hb.cell hS]; exact h1, by rw [hb.cell hS]; exact h2, by rw [hb.cell hS]; exact h3, by rw [hb.cell hS]; exact h4⟩

set_option maxHeartbeats 2000000 in
theorem implFrame_ok (t k p n : Int) (s : ByteArray) (w : World) (hok : noteOkB t k p s.size = true) :
    Calls Try.prog 11 #[.agg #[.int .i64 t, .int .i64 k, .int .i64 p, .int .i64 n, .string s]] w fun e w' => ∃ v, e = .returned v ∧ w'.ownsRow w.heap.size 5 1 v (17 + s.size) ((frameL t k p n s).map (Value.int .u8)) ∧ Below w.heap.size w w' := by
  obtain ⟨⟨t0, t1⟩, ⟨k0, k1⟩, ⟨p0, p1⟩, hs⟩ := noteOk_parts hok
  have hmk := make_bytes (17 + s.size) (17 + (s.size : Int)) (by omega) (by omega)
  go_enter Try.func11, Try.ntmps11
  go_wp2_with fail
  refine (implNoteOk_any _ _ _ _ _ _ (by unfold maxLen; omega)).mono ?_; rintro e w1 ⟨rfl, hb1⟩; rw [hok]; obtain ⟨hc1, hf1⟩ := bcell hb1; have hz1 : w.heap.size < w1.heap.size := by (have := hb1.size; simp at this; omega)
  have nw1 : NoteAt ((w1.alloc (.cells (Array.replicate (17 + s.size) (Value.int .u8 0)) 5)).alloc (.cells #[.slice (some ⟨w1.heap.size, 0, none⟩) (17 + s.size) (17 + s.size), .int .i64 0] 72)) w.heap.size t k p n s := by
    have bb := bcell (((Below.refl _ w1).alloc (Nat.le_refl _) (.cells (Array.replicate (17 + s.size) (Value.int .u8 0)) 5)).alloc (by simp) (.cells #[.slice (some ⟨w1.heap.size, 0, none⟩) (17 + s.size) (17 + s.size), .int .i64 0] 72))
    refine ⟨?_, ?_, ?_, ?_, ?_⟩ <;> (rw [bb.1 _ _ hz1, hc1 _ _ (by simp)]; simp [go_sem])
  go_wp2_with fail
  refine (put_wr (w1.heap.size + 1) w1.heap.size (17 + s.size) [] 78 _ (Wr_new w1 _ (by omega)) (by simp only [List.length_nil]; omega)).mono ?_
  rintro e w2 ⟨rfl, hw2, bw2⟩
  have nw2 := NoteAt.but nw1 bw2 (by rintro (h | h) <;> omega)
  obtain ⟨w20, w21, w22, w23, w24⟩ := id nw2
  go_wp2_with fail
  refine (putInt (w1.heap.size + 1) w1.heap.size (17 + s.size) _ _ 1 _ hw2 (by simp <;> omega) (by omega) (by omega) (by omega)).mono ?_
  rintro e w3 ⟨rfl, hw3, bw3⟩
  have nw3 := NoteAt.but nw2 bw3 (by rintro (h | h) <;> omega)
  obtain ⟨w30, w31, w32, w33, w34⟩ := id nw3
  go_wp2_with fail
  refine (putInt (w1.heap.size + 1) w1.heap.size (17 + s.size) _ _ 4 _ hw3 (by simp [le_length] <;> omega) (by omega) (by omega) (by omega)).mono ?_
  rintro e w4 ⟨rfl, hw4, bw4⟩
  have nw4 := NoteAt.but nw3 bw4 (by rintro (h | h) <;> omega)
  obtain ⟨w40, w41, w42, w43, w44⟩ := id nw4
  go_wp2_with fail
  refine (putInt (w1.heap.size + 1) w1.heap.size (17 + s.size) _ _ 1 _ hw4 (by simp [le_length] <;> omega) (by omega) (by omega) (by omega)).mono ?_
  rintro e w5 ⟨rfl, hw5, bw5⟩
  have nw5 := NoteAt.but nw4 bw5 (by rintro (h | h) <;> omega)
  obtain ⟨w50, w51, w52, w53, w54⟩ := id nw5
  go_wp2_with fail
  refine (putInt (w1.heap.size + 1) w1.heap.size (17 + s.size) _ _ 2 _ hw5 (by simp [le_length] <;> omega) (by omega) (by omega) (by omega)).mono ?_
  rintro e w6 ⟨rfl, hw6, bw6⟩
  have nw6 := NoteAt.but nw5 bw6 (by rintro (h | h) <;> omega)
  obtain ⟨w60, w61, w62, w63, w64⟩ := id nw6
  go_wp2_with fail
  refine (putInt64 (w1.heap.size + 1) w1.heap.size (17 + s.size) _ _ 8 _ hw6 (by simp [le_length] <;> omega) (by omega)).mono ?_
  rintro e w7 ⟨rfl, hw7, bw7⟩
  have nw7 := NoteAt.but nw6 bw7 (by rintro (h | h) <;> omega)
  obtain ⟨w70, w71, w72, w73, w74⟩ := id nw7
  go_wp2_with fail
  refine (putText_wr (w1.heap.size + 1) w1.heap.size (17 + s.size) _ _ _ hw7 (by simp [le_length] <;> omega)).mono ?_
  rintro e w8 ⟨rfl, hw8, bw8⟩
  have nw8 := NoteAt.but nw7 bw8 (by rintro (h | h) <;> omega)
  obtain ⟨w80, w81, w82, w83, w84⟩ := id nw8
  obtain ⟨f1, f2, f3, f4, f5⟩ := hw8
  have c8 : w8.cell? ⟨w1.heap.size + 1, 0, none⟩ = some (.slice (some ⟨w1.heap.size, 0, none⟩) (17 + s.size) (17 + s.size)) := by rw [Joins.cell_of_block f1]; rfl
  go_wp2
  go_ret
  have hall : [] ++ [78] ++ le (↑s.size) 1 ++ le t 4 ++ le k 1 ++ le p 2 ++ le (IntKind.u64.wrap n) 8 ++ txt s = frameL t k p n s := by
    have e1 : ((s.size : Int) % 256) = s.size := by omega
    have e2 : (k % 256) = k := by omega
    simp [frameL, le, e1, e2]
  rw [hall] at f5
  refine ⟨_, rfl, ⟨by simp [frameL_length], .inr ⟨w1.heap.size, 17 + s.size, _, rfl, by omega, f5, Nat.le_refl _, by unfold maxLen; omega, ?_, ?_⟩⟩, ?_⟩
  · simp [frameL_length]
  · rw [List.take_of_length_le (by simp [frameL_length])]
    simp [frameL_length]
  · have hS : ∀ j, (fun k => k = w1.heap.size + 1 ∨ k = w1.heap.size) j → w1.heap.size ≤ j := by intro j hj; rcases hj with h | h <;> omega
    have hbut := ((((((bw2.trans bw3).trans bw4).trans bw5).trans bw6).trans bw7).trans bw8).below hS
    exact (((Below.refl _ _).alloc (Nat.le_refl _) _).trans (hb1.mono (by simp))).trans ((((Below.refl _ w1).alloc (Nat.le_refl _) _).alloc (by simp) _).trans hbut |>.mono (by omega))

theorem implFrame_no (t k p n : Int) (s : ByteArray) (w : World) (hs : s.size ≤ maxLen) (hok : noteOkB t k p s.size = false) :
    Calls Try.prog 11 #[.agg #[.int .i64 t, .int .i64 k, .int .i64 p, .int .i64 n, .string s]] w fun e w' => e = .returned (.slice none 0 0) ∧ Below w.heap.size w w' := by
  go_enter Try.func11, Try.ntmps11
  go_wp2_with fail
  refine (implNoteOk_any _ _ _ _ _ _ hs).mono ?_; rintro e w1 ⟨rfl, hb1⟩; rw [hok]
  go_wp2
  go_ret
  exact ⟨rfl, ((Below.refl _ _).alloc (Nat.le_refl _) _).trans (hb1.mono (by simp))⟩
end Go.Proofs.Ytepagknkhlpicaa
