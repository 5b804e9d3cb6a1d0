/-
  The reader of chapter 1.
-/
import Derived.Test.YtepagknkhlpicabRRRRNum
import Derived.WalkSmall
namespace Go.Proofs.YtepagknkhlpicabRRRR
open Go.ChangeShapes Go.WideShapes Go.ChangeAt Go.RowKit
set_option linter.unusedVariables false
set_option linter.unusedSimpArgs false

/-- A reader at block B over the bytes bs of the slice v, which was asked for q bytes. -/
def Rd (w : World) (B : Nat) (v : Value) (bs : List Int) (q : Nat) : Prop :=
  w.heap[B]? = some (.cells #[v, .int .i64 (min q bs.length : Nat), .bool (decide (bs.length < q))] 84 (0, 0)) ∧ Reads w v bs ∧ bs.length ≤ 1000000000 ∧ ∀ k, v.ownBlock = some k → k ≠ B

theorem Reads.but {w w' : World} {S : Nat → Prop} {v : Value} {bs : List Int} (h : Reads w v bs) (hb : But S w w') (hv : ∀ k, v.ownBlock = some k → ¬ S k) : Reads w' v bs := by
  obtain ⟨a, cap, rfl, h1, h2, h3⟩ := h
  refine ⟨a, cap, rfl, h1, h2, fun i hi => ?_⟩
  obtain ⟨b, off, rfl, hc⟩ := h3 i hi
  exact ⟨b, off, rfl, by rw [World.cell?_of_block (hb.block b (hv b rfl))]; exact hc⟩

set_option maxHeartbeats 1000000 in
theorem take_rd (B : Nat) (v : Value) (bs : List Int) (q : Nat) (w : World) (h : Rd w B v bs q) (hq : q ≤ 1000000000) :
    Calls Try.prog 48 #[.pointer (some ⟨B, 0, none⟩)] w fun e w' => e = .returned (.int .u8 (bs.getD q 0)) ∧ Rd w' B v bs (q + 1) ∧ But (fun k => k = B) w w' := by
  obtain ⟨h1, h2, h3, h4⟩ := h
  have R0 : Hid (Reads w v bs) := h2
  obtain ⟨a, cap, rfl, hc, hm, hx⟩ := h2
  have c0 : w.cell? ⟨B, 0, none⟩ = some (.slice a bs.length cap) := by rw [Joins.cell_of_block h1]; rfl
  have c1 : w.cell? ⟨B, 1, none⟩ = some (.int .i64 ((min q bs.length : Nat) : Int)) := by rw [Joins.cell_of_block h1]; rfl
  have c2 : w.cell? ⟨B, 2, none⟩ = some (.bool (decide (bs.length < q))) := by rw [Joins.cell_of_block h1]; rfl
  have f1 := Joins.unfrozen_of_block h1 1
  have f2 := Joins.unfrozen_of_block h1 2
  by_cases hlt : q < bs.length
  · have e1 : min q bs.length = q := by omega
    rw [e1] at c1
    obtain ⟨g, o, rfl, hcell⟩ := hx q hlt
    have hne : B ≠ g := fun e => h4 g rfl e.symm
    have hne' : g ≠ B := h4 g rfl
    generalize hxv : bs.getD q 0 = x at hcell ⊢
    have HX : Hid (bs.getD q 0 = x) := hxv
    clear hxv hx c2 f2
    go_enter Try.func48, Try.ntmps48
    go_wp2_with (go_at_call 51; refine (next_in B bs.length cap _ q _ c0 c1 f1 hlt (by omega)).mono ?_; rintro e w1 ⟨rfl, m, rfl⟩)
    go_ret
    have hbut : But (fun k => k = B) w ((w.drewN m).setCell ⟨B, 1, none⟩ (.int .i64 ((q : Int) + 1))) := ⟨rfl, rfl, rfl, by simp [World.setCell], fun k hk => by rw [Below.heap_setCell _ _ _ _ hk]; rfl⟩
    refine ⟨rfl, ⟨?_, R0.out.but hbut (fun k hk => h4 k hk), h3, h4⟩, hbut⟩
    rw [Joins.block_setCell (w := w.drewN m) h1]
    have e2 : min (q + 1) bs.length = q + 1 := by omega
    have e3 : decide (bs.length < q) = decide (bs.length < q + 1) := by simp; omega
    rw [e2, e3]
    simp
  · have e1 : min q bs.length = bs.length := by omega
    rw [e1] at c1
    have hz : bs.getD q 0 = 0 := by rw [List.getD_eq_getElem?_getD, List.getElem?_eq_none (by omega)]; rfl
    rw [hz]
    have h5 : (bs.length : Int) ≤ (bs.length : Int) := Int.le_refl _
    clear hz hx
    go_enter Try.func48, Try.ntmps48
    go_wp2_with (go_at_call 51; refine (next_end B bs.length cap _ _ _ c0 c1 h5).mono ?_; rintro e w1 ⟨rfl, m, rfl⟩)
    go_ret
    have hbut : But (fun k => k = B) w ((w.drewN m).setCell ⟨B, 2, none⟩ (.bool true)) := ⟨rfl, rfl, rfl, by simp [World.setCell], fun k hk => by rw [Below.heap_setCell _ _ _ _ hk]; rfl⟩
    refine ⟨rfl, ⟨?_, R0.out.but hbut (fun k hk => h4 k hk), h3, h4⟩, hbut⟩
    rw [Joins.block_setCell (w := w.drewN m) h1]
    have e2 : min (q + 1) bs.length = bs.length := by omega
    have e3 : decide (bs.length < q + 1) = true := by simp; omega
    rw [e1, e2, e3]
    simp

set_option maxHeartbeats 1000000 in
theorem takeInt (B : Nat) (v : Value) (bs : List Int) (q k : Nat) (w : World) (h : Rd w B v bs q) (hbs : Byt bs) (hq : q ≤ 100000) (hk : k ≤ 8) :
    Calls Try.prog 49 #[.func (.func 48) #[.pointer (some ⟨B, 0, none⟩)] #[], .int .i64 k] w fun e w' => e = .returned (.int .i64 (wrap64 (un (pad bs q k)))) ∧ Rd w' B v bs (q + k) ∧ But (fun k => k = B) w w' := by
  go_enter Try.func49, Try.ntmps49
  go_wp2
  go_loopw [5, 6, 8] (fun r _ i wr => ∃ (j : Nat) (u : Int), j ≤ k ∧ i = .int .i64 j ∧ r = .int .u64 u ∧ u = un (pad bs q j) ∧ Rd wr B v bs (q + j) ∧ But (fun k => k = B) w wr) (fun _ _ i _ => k - (intOf i).toNat)
  case atStart => exact ⟨0, 0, Nat.zero_le _, rfl, rfl, rfl, h, But.refl _ _⟩
  case round =>
    obtain ⟨j, u, hj, rfl, rfl, he, hw, hb⟩ := hrel
    have HE : Hid (u = un (pad bs q j)) := he
    clear he
    by_cases hlt : j < k
    · go_wp2_with (go_at_call 48; refine (take_rd B v bs _ _ hw (by omega)).mono ?_; rintro e w1 ⟨rfl, hw1, hb1⟩)
      go_roundw
      case rel =>
        have hx := hbs.getD (q + j)
        have hu := un_bd _ (pad_byt hbs j q)
        rw [pad_length, ← HE.out] at hu
        have e1 := or_shift j (by omega) u _ hu.1 hu.2 hx.1 hx.2
        have e2 : un (pad bs q (j + 1)) = u + bs.getD (q + j) 0 * 2 ^ (8 * j) := by rw [pad_snoc, un_snoc, pad_length, ← HE.out]
        rw [List.getD_eq_getElem?_getD] at e1 e2
        exact ⟨j + 1, _, by omega, by go_num, rfl, by rw [e1, e2], hw1, hb.trans hb1⟩
      case measure => simp [intOf]; omega
    · have : j = k := by omega
      subst this
      go_wp2
      go_ret
      exact ⟨by rw [← HE.out]; rfl, hw, hb⟩

/-- A text of some bytes. -/
def mkS (l : List Int) : ByteArray := l.foldl (fun r n => r.push (UInt8.ofNat n.toNat)) ByteArray.empty
theorem foldl_push_size (l : List Int) : ∀ s : ByteArray, (l.foldl (fun r n => r.push (UInt8.ofNat n.toNat)) s).size = s.size + l.length := by
  induction l with
  | nil => intro s; simp
  | cons x l ih => intro s; simp only [List.foldl_cons, ih, ByteArray.size_push, List.length_cons]; omega
theorem mkS_size (l : List Int) : (mkS l).size = l.length := by
  rw [mkS, foldl_push_size]; simp

theorem bytes_to_string (w : World) (a : Addr) (len cap : Nat) (l : List Int) (hl : l.length = len) (hc : ∀ i, i < len → w.cell? (a.add i) = some (.int .u8 (l.getD i 0))) :
    (convert 34 9 (.slice (some a) len cap)).run Try.prog w = .ok (.string (mkS l)) w := by
  rw [run_convert_bytes_string w 34 9 5 (some a) len cap Try.underlying34 Try.underlying5 Try.underlying9]
  have h := run_loadCells (P := Try.prog) w a len (fun j => .int .u8 (l.getD j 0)) hc
  have e : ((List.range len).map fun j => Value.int .u8 (l.getD j 0)) = l.map (Value.int .u8) := by
    subst hl
    apply List.ext_getElem (by simp)
    intro i h1 h2
    simp at h1
    simp [List.getElem?_eq_getElem h1]
  rw [e] at h
  exact run_bytesToString w a len cap l h

/-- All old blocks but those of S are as they were; new ones may have come. -/
structure Kp (S : Nat → Prop) (w w' : World) : Prop where
  os : w'.os = w.os
  tape : w'.tape = w.tape
  output : w'.output = w.output
  size : w.heap.size ≤ w'.heap.size
  block : ∀ k, k < w.heap.size → ¬ S k → w'.heap[k]? = w.heap[k]?
theorem Kp.refl (S : Nat → Prop) (w : World) : Kp S w w := ⟨rfl, rfl, rfl, Nat.le_refl _, fun _ _ _ => rfl⟩
theorem Kp.trans {S : Nat → Prop} {a b c : World} (h : Kp S a b) (k : Kp S b c) : Kp S a c :=
  ⟨k.os.trans h.os, k.tape.trans h.tape, k.output.trans h.output, Nat.le_trans h.size k.size, fun i hi hs => (k.block i (Nat.lt_of_lt_of_le hi h.size) hs).trans (h.block i hi hs)⟩
theorem But.kp {S : Nat → Prop} {w w' : World} (h : But S w w') : Kp S w w' := ⟨h.os, h.tape, h.output, Nat.le_of_eq h.size.symm, fun k _ hs => h.block k hs⟩
theorem Below.kp {S : Nat → Prop} {w w' : World} (h : Below w.heap.size w w') : Kp S w w' := ⟨h.os, h.tape, h.output, h.size, fun k hk _ => h.block k hk⟩
theorem Kp.below {S : Nat → Prop} {w w' : World} {B : Nat} (h : Kp S w w') (hB : B ≤ w.heap.size) (hS : ∀ k, S k → B ≤ k) : Below B w w' :=
  ⟨h.os, h.tape, h.output, h.size, fun k hk => h.block k (by omega) (fun hs => by have := hS k hs; omega)⟩
theorem Kp.cell {S : Nat → Prop} {w w' : World} (h : Kp S w w') {b : Nat} (hb : b < w.heap.size) (hS : ¬ S b) (o : Nat) : w'.cell? ⟨b, o, none⟩ = w.cell? ⟨b, o, none⟩ := World.cell?_of_block (h.block b hb hS)

theorem Rd.own {w : World} {B : Nat} {v : Value} {bs : List Int} {q : Nat} (h : Rd w B v bs q) : B < w.heap.size := lt_of_block h.1

theorem Reads.kp {w w' : World} {S : Nat → Prop} {v : Value} {bs : List Int} (h : Reads w v bs) (hb : Kp S w w') (hv : ∀ k, v.ownBlock = some k → k < w.heap.size ∧ ¬ S k) : Reads w' v bs := by
  obtain ⟨a, cap, rfl, h1, h2, h3⟩ := h
  refine ⟨a, cap, rfl, h1, h2, fun i hi => ?_⟩
  obtain ⟨b, off, rfl, hc⟩ := h3 i hi
  exact ⟨b, off, rfl, by rw [World.cell?_of_block (hb.block b (hv b rfl).1 (hv b rfl).2)]; exact hc⟩
theorem Rd.kp {w w' : World} {S : Nat → Prop} {B : Nat} {v : Value} {bs : List Int} {q : Nat} (h : Rd w B v bs q) (hb : Kp S w w') (hv : ∀ k, v.ownBlock = some k → k < w.heap.size ∧ ¬ S k) (hS : ¬ S B) : Rd w' B v bs q := by
  obtain ⟨h1, h2, h3, h4⟩ := h
  exact ⟨by rw [hb.block B (lt_of_block h1) hS]; exact h1, h2.kp hb hv, h3, h4⟩

set_option maxHeartbeats 1000000 in
theorem takeText_rd (B : Nat) (v : Value) (bs : List Int) (q n : Nat) (w : World) (h : Rd w B v bs q) (hq : q ≤ 100000) (hn : n ≤ 1000) (hv : ∀ k, v.ownBlock = some k → k < w.heap.size) :
    Calls Try.prog 50 #[.pointer (some ⟨B, 0, none⟩), .int .i64 n] w fun e w' => e = .returned (.string (mkS (pad bs q n))) ∧ Rd w' B v bs (q + n) ∧ Kp (fun k => k = B) w w' := by
  have hmk := make_bytes n (n : Int) rfl (by omega)
  have hB := h.own
  go_enter Try.func50, Try.ntmps50
  go_wp2
  go_loopw [6, 11] (fun _ i wr => ∃ (j : Nat), j ≤ n ∧ i = .int .i64 j ∧ Rd wr B v bs (q + j) ∧ wr.heap[w.heap.size]? = some (.cells ((pad bs q j).map (Value.int .u8) ++ List.replicate (n - (pad bs q j).length) (Value.int .u8 0)).toArray 5 (0, 0)) ∧ Kp (fun k => k = B) w wr) (fun _ i _ => n - (intOf i).toNat)
  case atStart =>
    have kp0 : Kp (fun k => k = B) w (w.alloc (.cells (Array.replicate n (Value.int .u8 0)) 5)) := Below.kp ((Below.refl _ w).alloc (Nat.le_refl _) _)
    exact ⟨0, Nat.zero_le _, rfl, ⟨by rw [Below.heap_alloc _ _ _ hB]; exact h.1, h.2.1.below ((Below.refl _ w).alloc (Nat.le_refl _) _) hv, h.2.2.1, h.2.2.2⟩, by simpa [pad] using heap_alloc_new w (.cells (Array.replicate n (Value.int .u8 0)) 5), kp0⟩
  case round =>
    obtain ⟨j, hj, rfl, hw, hg, hb⟩ := hrel
    by_cases hlt : j < n
    · go_wp2_with (go_at_call 48; refine (take_rd B v bs _ _ hw (by omega)).mono ?_; rintro e w1 ⟨rfl, hw1, hb1⟩; have hg1 : w1.heap[w.heap.size]? = some (.cells ((pad bs q j).map (Value.int .u8) ++ List.replicate (n - (pad bs q j).length) (Value.int .u8 0)).toArray 5 (0, 0)) := (by rw [hb1.block _ (by omega)]; exact hg); have hfz := Joins.unfrozen_of_block hg1 j; have hcl : ∃ x, w1.cell? ⟨w.heap.size, j, none⟩ = some x := (by rw [Joins.cell_of_block hg1]; exact ⟨_, Array.getElem?_eq_getElem (by simp [pad_length]; omega)⟩); obtain ⟨x, hcl⟩ := hcl; clear hg)
      go_roundw
      case rel =>
        have hbg : But (fun k => k = w.heap.size) w1 (w1.setCell ⟨w.heap.size, j, none⟩ (.int .u8 (bs[q + j]?.getD 0))) := ⟨rfl, rfl, rfl, by simp [World.setCell], fun k hk => by rw [Below.heap_setCell _ _ _ _ hk]⟩
        have hsz := hb.size
        have hs1 := hb1.size
        refine ⟨j + 1, by omega, by go_num, hw1.kp hbg.kp (fun k hk => ?_) ?_, ?_, ?_⟩
        · have := hv k hk
          constructor <;> omega
        · omega
        · rw [Joins.block_setCell hg1]
          have e := set_step (pad bs q j) n (bs.getD (q + j) 0) (by rw [pad_length]; omega)
          rw [pad_length] at e
          rw [pad_snoc, ← e, List.getD_eq_getElem?_getD]
          simp [pad_length]
        · have h0 := hb.trans hb1.kp
          exact ⟨hbg.os.trans h0.os, hbg.tape.trans h0.tape, hbg.output.trans h0.output, by have := h0.size; have := hbg.size; omega, fun k hk hkB => (hbg.block k (by omega)).trans (h0.block k hk hkB)⟩
      case measure => simp [intOf]; omega
    · have : j = n := by omega
      subst this
      have hstr := bytes_to_string wr ⟨w.heap.size, 0, none⟩ j j (pad bs q j) (pad_length _ _ _) (by
        intro i hi
        have e1 : (⟨w.heap.size, 0, none⟩ : Addr).add i = ⟨w.heap.size, i, none⟩ := by simp [Addr.add] <;> omega
        rw [e1, Joins.cell_of_block hg]
        have hi' : i < (pad bs q j).length := by rw [pad_length]; exact hi
        simp [List.getElem?_append_left, List.getElem?_map, hi', List.getElem?_eq_getElem hi'])
      go_wp2
      go_ret
      exact ⟨rfl, hw, hb⟩
end Go.Proofs.YtepagknkhlpicabRRRR
