/-
  The cursor and the writer of chapter 1.
-/
import Derived.Test.YtepagknkhlpicabRRRRNotes
import Derived.Deep.QuietTactic
import Derived.BigQuiet
import Derived.Lib.SmallJoins
namespace Go.Proofs.YtepagknkhlpicabRRRR
open Go.ChangeShapes Go.WideShapes Go.ChangeAt Go.RowKit
set_option linter.unusedVariables false
set_option linter.unusedSimpArgs false

/-- All blocks but those of S are as they were; the streams too. -/
structure But (S : Nat → Prop) (w w' : World) : Prop where
  os : w'.os = w.os
  tape : w'.tape = w.tape
  output : w'.output = w.output
  size : w'.heap.size = w.heap.size
  block : ∀ k, ¬ S k → w'.heap[k]? = w.heap[k]?

theorem But.refl (S : Nat → Prop) (w : World) : But S w w := ⟨rfl, rfl, rfl, rfl, fun _ _ => rfl⟩
theorem But.trans {S : Nat → Prop} {a b c : World} (h : But S a b) (k : But S b c) : But S a c :=
  ⟨k.os.trans h.os, k.tape.trans h.tape, k.output.trans h.output, k.size.trans h.size, fun i hi => (k.block i hi).trans (h.block i hi)⟩
theorem But.below {S : Nat → Prop} {w w' : World} {B : Nat} (h : But S w w') (hS : ∀ k, S k → B ≤ k) : Below B w w' :=
  ⟨h.os, h.tape, h.output, Nat.le_of_eq h.size.symm, fun k hk => h.block k (fun hs => by have := hS k hs; omega)⟩

theorem next_end (B len cap : Nat) (a : Option Addr) (at' : Int) (w : World) (h0 : w.cell? ⟨B, 0, none⟩ = some (.slice a len cap)) (h1 : w.cell? ⟨B, 1, none⟩ = some (.int .i64 at')) (hlt : (len : Int) ≤ at') :
    Calls Try.prog 51 #[.pointer (some ⟨B, 0, none⟩)] w fun e w' => e = .returned (.tuple #[.int .i64 0, .bool false]) ∧ ∃ n, w' = w.drewN n := by
  go_enter Try.func51, Try.ntmps51
  go_wp2
  go_quiet (fail)
  go_wp2
  go_ret2
  exact ⟨rfl, _, rfl⟩

theorem next_in (B len cap : Nat) (a : Option Addr) (at' : Nat) (w : World) (h0 : w.cell? ⟨B, 0, none⟩ = some (.slice a len cap)) (h1 : w.cell? ⟨B, 1, none⟩ = some (.int .i64 at')) (hf : w.frozen? ⟨B, 1, none⟩ = false) (hlt : at' < len) (hl : len ≤ 1000000000000) :
    Calls Try.prog 51 #[.pointer (some ⟨B, 0, none⟩)] w fun e w' => e = .returned (.tuple #[.int .i64 at', .bool true]) ∧ ∃ n, w' = (w.drewN n).setCell ⟨B, 1, none⟩ (.int .i64 (at' + 1)) := by
  go_enter Try.func51, Try.ntmps51
  go_wp2
  go_quiet (fail)
  go_wp2
  go_ret2
  exact ⟨rfl, _, rfl⟩

theorem put_in (B g n cap : Nat) (at' : Nat) (b : Int) (x : Value) (w : World) (h0 : w.cell? ⟨B, 0, none⟩ = some (.slice (some ⟨g, 0, none⟩) n cap)) (h1 : w.cell? ⟨B, 1, none⟩ = some (.int .i64 at')) (hf : w.frozen? ⟨B, 1, none⟩ = false) (hlt : at' < n) (hl : n ≤ 1000000000000)
    (hne : g ≠ B) (hg : w.cell? ⟨g, at', none⟩ = some x) (hfg : w.frozen? ⟨g, at', none⟩ = false) :
    Calls Try.prog 44 #[.pointer (some ⟨B, 0, none⟩), .int .u8 b] w fun e w' => e = .returned (.tuple #[]) ∧ ∃ m, w' = ((w.drewN m).setCell ⟨B, 1, none⟩ (.int .i64 (at' + 1))).setCell ⟨g, at', none⟩ (.int .u8 b) := by
  have hne' : B ≠ g := fun h => hne h.symm
  go_enter Try.func44, Try.ntmps44
  go_wp2_with (go_at_call 51; refine (next_in B n cap _ at' _ h0 h1 hf hlt hl).mono ?_; rintro e w1 ⟨rfl, m, rfl⟩)
  go_end0
  exact ⟨rfl, _, rfl⟩

/-- A writer at block B over the bytes of block g, ds written so far. -/
def WrT (ety : Nat) (w : World) (B g n : Nat) (ds : List Int) : Prop :=
  w.heap[B]? = some (.cells #[.slice (some ⟨g, 0, none⟩) n n, .int .i64 ds.length] 78 (0, 0)) ∧ g ≠ B ∧ ds.length ≤ n ∧ n ≤ 1000 ∧
  w.heap[g]? = some (.cells (ds.map (Value.int .u8) ++ List.replicate (n - ds.length) (Value.int .u8 0)).toArray ety (0, 0))
abbrev Wr := WrT 5

theorem WrT.of_but {ety : Nat} {w w' : World} {B g n : Nat} {ds : List Int} (h : WrT ety w B g n ds) (hB : w'.heap[B]? = w.heap[B]?) (hg : w'.heap[g]? = w.heap[g]?) : WrT ety w' B g n ds := by
  obtain ⟨h1, h2, h3, h4, h5⟩ := h
  exact ⟨hB.trans h1, h2, h3, h4, hg.trans h5⟩

theorem set_step (ds : List Int) (n : Nat) (b : Int) (h : ds.length < n) :
    ((ds.map (Value.int .u8) ++ List.replicate (n - ds.length) (Value.int .u8 0)).toArray).setIfInBounds ds.length (.int .u8 b) = ((ds ++ [b]).map (Value.int .u8) ++ List.replicate (n - (ds ++ [b]).length) (Value.int .u8 0)).toArray := by
  obtain ⟨m, rfl⟩ : ∃ m, n = ds.length + (m + 1) := ⟨n - ds.length - 1, by omega⟩
  have e1 : ds.length + (m + 1) - ds.length = m + 1 := by omega
  have e2 : ds.length + (m + 1) - (ds ++ [b]).length = m := by simp; omega
  rw [e1, e2]
  simp only [List.setIfInBounds_toArray, List.replicate_succ, List.map_append, List.map_cons, List.map_nil]
  congr 1
  rw [List.set_append_right _ _ (by simp)]
  simp

theorem put_wr {ety : Nat} (B g n : Nat) (ds : List Int) (b : Int) (w : World) (h : WrT ety w B g n ds) (hlt : ds.length < n) :
    Calls Try.prog 44 #[.pointer (some ⟨B, 0, none⟩), .int .u8 b] w fun e w' => e = .returned (.tuple #[]) ∧ WrT ety w' B g n (ds ++ [b]) ∧ But (fun k => k = B ∨ k = g) w w' := by
  obtain ⟨h1, h2, h3, h4, h5⟩ := h
  have hx : ∃ x, w.cell? ⟨g, ds.length, none⟩ = some x := by
    rw [Joins.cell_of_block h5]
    exact ⟨_, Array.getElem?_eq_getElem (by simp; omega)⟩
  obtain ⟨x, hx⟩ := hx
  refine (put_in B g n n ds.length b x w (by rw [Joins.cell_of_block h1]; rfl) (by rw [Joins.cell_of_block h1]; rfl) (Joins.unfrozen_of_block h1 _) hlt (by omega) h2 hx (Joins.unfrozen_of_block h5 _)).mono ?_
  rintro e w' ⟨rfl, m, rfl⟩
  refine ⟨rfl, ⟨?_, h2, by simp; omega, h4, ?_⟩, rfl, rfl, rfl, by simp [World.setCell], ?_⟩
  · rw [Below.heap_setCell _ _ _ _ (by simpa using h2.symm)]
    rw [Joins.block_setCell (w := w.drewN m) h1]
    simp
  · have e : ((w.drewN m).setCell ⟨B, 1, none⟩ (.int .i64 (ds.length + 1))).heap[g]? = some (.cells (ds.map (Value.int .u8) ++ List.replicate (n - ds.length) (Value.int .u8 0)).toArray ety (0, 0)) := by
      rw [Below.heap_setCell _ _ _ _ (by simpa using h2)]
      exact h5
    rw [Joins.block_setCell e, set_step ds n b hlt]
  · intro k hk
    rw [Below.heap_setCell _ _ _ _ (fun e => hk (.inr e)), Below.heap_setCell _ _ _ _ (fun e => hk (.inl e))]
    rfl

/-- The lowest k bytes of a number, the lowest first. -/
def le (v : Int) : Nat → List Int
  | 0 => []
  | k + 1 => v % 256 :: le (v / 256) k
theorem le_length (k : Nat) : ∀ v, (le v k).length = k := by
  induction k with
  | zero => intro v; rfl
  | succ k ih => intro v; simp [le, ih]

theorem le_step {di x : List Int} {u : Int} {j k : Nat} (h : j < k) (he : di ++ le u (k - j) = x) : (di ++ [u % 256]) ++ le (u / 256) (k - (j + 1)) = x := by
  obtain ⟨m, hm⟩ : ∃ m, k - j = m + 1 := ⟨k - j - 1, by omega⟩
  have : k - (j + 1) = m := by omega
  rw [hm] at he
  rw [this, ← he]
  simp [le]

set_option maxHeartbeats 1000000 in
theorem putInt {ety : Nat} (B g n : Nat) (ds : List Int) (v : Int) (k : Nat) (w : World) (h : WrT ety w B g n ds) (hlt : ds.length + k ≤ n) (hv : 0 ≤ v) (hv' : v ≤ 1000000000000) (hk : k ≤ 8) :
    Calls Try.prog 45 #[.func (.func 44) #[.pointer (some ⟨B, 0, none⟩)] #[], .int .i64 v, .int .i64 k] w fun e w' => e = .returned (.tuple #[]) ∧ WrT ety w' B g n (ds ++ le v k) ∧ But (fun k => k = B ∨ k = g) w w' := by
  go_enter Try.func45, Try.ntmps45
  go_wp2
  go_loopw [6, 10] (fun r i wr => ∃ (j : Nat) (u : Int) (di : List Int), j ≤ k ∧ i = .int .i64 j ∧ r = .int .u64 u ∧ 0 ≤ u ∧ di.length = ds.length + j ∧ di ++ le u (k - j) = ds ++ le v k ∧ WrT ety wr B g n di ∧ But (fun k => k = B ∨ k = g) w wr) (fun _ i _ => k - (intOf i).toNat)
  case atStart => exact ⟨0, v, ds, Nat.zero_le _, rfl, rfl, hv, rfl, by simp, h, But.refl _ _⟩
  case round =>
    obtain ⟨j, u, di, hj, rfl, rfl, hu, hd, he, hw, hb⟩ := hrel
    have HE : Hid (di ++ le u (k - j) = ds ++ le v k) := he
    have HD : Hid (di.length = ds.length + j) := hd
    clear he hd
    by_cases hlt : j < k
    · go_wp2_with (go_at_call 44; refine (put_wr B g n di _ _ hw (by have := HD.out; omega)).mono ?_; rintro e w1 ⟨rfl, hw1, hb1⟩)
      go_roundw
      case rel => exact ⟨j + 1, u / 256, di ++ [u % 256], by omega, by go_num, rfl, by omega, by have := HD.out; simp; omega, le_step hlt HE.out, hw1, hb.trans hb1⟩
      case measure => simp [intOf]; omega
    · go_wp2
      go_end0
      have e0 : k - j = 0 := by omega
      have he := HE.out
      rw [e0] at he
      simp only [le, List.append_nil] at he
      exact ⟨rfl, he ▸ hw, hb⟩

/-- The bytes of a text. -/
def txt (s : ByteArray) : List Int := s.data.toList.map fun c => (c.toNat : Int)
theorem txt_length (s : ByteArray) : (txt s).length = s.size := by simp [txt]

set_option maxHeartbeats 1000000 in
theorem putText_wr {ety : Nat} (B g n : Nat) (ds : List Int) (s : ByteArray) (w : World) (h : WrT ety w B g n ds) (hlt : ds.length + s.size ≤ n) :
    Calls Try.prog 46 #[.pointer (some ⟨B, 0, none⟩), .string s] w fun e w' => e = .returned (.tuple #[]) ∧ WrT ety w' B g n (ds ++ txt s) ∧ But (fun k => k = B ∨ k = g) w w' := by
  have hn : n ≤ 1000 := h.2.2.2.1
  go_enter Try.func46, Try.ntmps46
  go_wp2
  go_loopw [4, 7] (fun _ i wr => ∃ (j : Nat), j ≤ s.size ∧ i = .int .i64 j ∧ WrT ety wr B g n (ds ++ (txt s).take j) ∧ But (fun k => k = B ∨ k = g) w wr) (fun _ i _ => s.size - (intOf i).toNat)
  case atStart => exact ⟨0, Nat.zero_le _, rfl, by simpa using h, But.refl _ _⟩
  case round =>
    obtain ⟨j, hj, rfl, hw, hb⟩ := hrel
    by_cases hlt : j < s.size
    · go_wp2_with (go_at_call 44; refine (put_wr B g n _ _ _ hw (by simp [txt_length]; omega)).mono ?_; rintro e w1 ⟨rfl, hw1, hb1⟩)
      go_roundw
      case rel =>
        have e1 : (txt s).take (j + 1) = (txt s).take j ++ [(s[j].toNat : Int)] := by
          rw [List.take_succ_eq_append_getElem (by rw [txt_length]; omega)]
          simp [txt]
          rfl
        exact ⟨j + 1, by omega, by go_num, by rw [e1, ← List.append_assoc]; exact hw1, hb.trans hb1⟩
      case measure => simp [intOf]; omega
    · go_wp2
      go_end0
      rw [List.take_of_length_le (by rw [txt_length]; omega)] at hw
      exact ⟨rfl, hw, hb⟩
end Go.Proofs.YtepagknkhlpicabRRRR
