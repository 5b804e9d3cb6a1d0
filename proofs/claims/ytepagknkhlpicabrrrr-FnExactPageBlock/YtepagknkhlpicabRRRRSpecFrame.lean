/-
  spec.Frame.
-/
import Derived.Test.YtepagknkhlpicabRRRRFrame
import Derived.Lib.AppendStr
namespace Go.Proofs.YtepagknkhlpicabRRRR
open Go.ChangeShapes Go.WideShapes Go.ChangeAt Go.RowKit
set_option linter.unusedVariables false
set_option linter.unusedSimpArgs false

set_option maxHeartbeats 1000000 in
theorem l1put_own (base : Nat) (v : Value) (ds : List Int) (u : Int) (k : Nat) (w : World) (hu : 0 ≤ u) (hk : k ≤ 8) (hd : ds.length ≤ 100000) (hbase : base ≤ w.heap.size) (h : w.ownsRow base 5 1 v ds.length (ds.map (Value.int .u8))) :
    Calls Try.prog 33 #[v, .int .u64 u, .int .i64 k] w fun e w' => ∃ v', e = .returned v' ∧ w'.ownsRow base 5 1 v' (ds.length + k) ((ds ++ le u k).map (Value.int .u8)) ∧ Below base w w' := by
  obtain ⟨i0, hi, hz0, hz1, hz2⟩ := info_parts info5
  go_enter Try.func33, Try.ntmps33
  go_wp2
  go_loopw [0, 1, 7] (fun o r i wr => ∃ (j : Nat) (x : Int) (di : List Int), j ≤ k ∧ i = .int .i64 j ∧ r = .int .u64 x ∧ 0 ≤ x ∧ di.length = ds.length + j ∧ di ++ le x (k - j) = ds ++ le u k ∧ wr.ownsRow base 5 1 o di.length (di.map (Value.int .u8)) ∧ Below base w wr) (fun _ _ i _ => k - (intOf i).toNat)
  case atStart => exact ⟨0, u, ds, Nat.zero_le _, rfl, rfl, hu, rfl, by simp, h, Below.refl _ _⟩
  case round =>
    obtain ⟨j, x, di, hj, rfl, rfl, hx, hd', he, hw, hb⟩ := hrel
    have HE : Hid (di ++ le x (k - j) = ds ++ le u k) := he
    have HD : Hid (di.length = ds.length + j) := hd'
    clear he hd'
    by_cases hlt : j < k
    · go_wp2_with (at_builtin; refine wpList_append_own _ rfl _ _ 34 rfl base 5 i0 (.int .u8 0) 1 1 Try.underlying34 hi hz0 hz1 hz2 rfl (by decide) _ _ _ rfl (hw.alloc _) ⟨wr.heap.size, 0, none⟩ 1 1 [.int .u8 (x % 256)] rfl rfl ?c1 ?c2 ?c3 ?c4 ?c5 ?_)
      case c1 =>
        intro j u hj
        match j, hj with
        | 0, hj => simp at hj; subst hj; simp [Addr.add]
      case c2 => intro u hu; simp at hu; subst hu; rfl
      case c3 => have := HD.out; unfold maxLen; omega
      case c4 => have := HD.out; omega
      case c5 => have := hb.size; simp; omega
      intro v' w1 hown hgrow _
      go_wp2
      go_roundw
      case rel =>
        have hbs := hb.size
        exact ⟨j + 1, x / 256, di ++ [x % 256], by omega, by go_num, rfl, by omega, by have := HD.out; simp; omega, le_step hlt HE.out, by simpa using hown, (hb.alloc (by omega) _).grown hgrow (by simp; omega) (fun k hk => (hw.lt k hk).1)⟩
      case measure => simp [intOf]; omega
    · go_wp2
      go_ret
      have e0 : k - j = 0 := by omega
      have he := HE.out
      rw [e0] at he
      simp only [le, List.append_nil] at he
      have hd' := HD.out
      have : j = k := by omega
      subst this
      exact ⟨_, rfl, by rw [← he, ← hd']; exact hw, hb⟩

theorem strCells_txt (s : ByteArray) : Lib.strCells s = (txt s).map (Value.int .u8) := by simp [Lib.strCells, txt]

theorem NoteAt.below {w w' : World} {B b : Nat} {t k p n : Int} {s : ByteArray} (h : NoteAt w b t k p n s) (hb : Below B w w') (hS : b < B) : NoteAt w' b t k p n s := by
  obtain ⟨h0, h1, h2, h3, h4⟩ := h
  exact ⟨by rw [hb.cell hS]; exact h0, by rw [hb.cell hS]; exact h1, by rw [hb.cell hS]; exact h2, by rw [hb.cell hS]; exact h3, by rw [hb.cell hS]; exact h4⟩

end Go.Proofs.YtepagknkhlpicabRRRR
