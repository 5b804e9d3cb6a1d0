/-
  spec.Frame.
-/
import Derived.Test.YtepagknkhlpicaaFrame
import Derived.Lib.AppendStr
namespace Go.Proofs.Ytepagknkhlpicaa
open Go.ChangeShapes Go.WideShapes Go.ChangeAt Go.RowKit
set_option linter.unusedVariables false
set_option linter.unusedSimpArgs false

set_option maxHeartbeats 1000000 in
theorem l1put_own (base : Nat) (v : Value) (ds : List Int) (u : Int) (k : Nat) (w : World) (hu : 0 ≤ u) (hk : k ≤ 8) (hd : ds.length ≤ 100000) (hbase : base ≤ w.heap.size) (h : w.ownsRow base 5 1 v ds.length (ds.map (Value.int .u8))) :
    Calls Try.prog 46 #[v, .int .u64 u, .int .i64 k] w fun e w' => ∃ v', e = .returned v' ∧ w'.ownsRow base 5 1 v' (ds.length + k) ((ds ++ le u k).map (Value.int .u8)) ∧ Below base w w' := by
  obtain ⟨i0, hi, hz0, hz1, hz2⟩ := info_parts info5
  go_enter Try.func46, Try.ntmps46
  go_wp2
  go_loopw [0, 1, 7] (fun o r i wr => ∃ (j : Nat) (x : Int) (di : List Int), j ≤ k ∧ i = .int .i64 j ∧ r = .int .u64 x ∧ 0 ≤ x ∧ di.length = ds.length + j ∧ di ++ le x (k - j) = ds ++ le u k ∧ wr.ownsRow base 5 1 o di.length (di.map (Value.int .u8)) ∧ Below base w wr) (fun _ _ i _ => k - (intOf i).toNat)
  case atStart => exact ⟨0, u, ds, Nat.zero_le _, rfl, rfl, hu, rfl, by simp, h, Below.refl _ _⟩
  case round =>
    obtain ⟨j, x, di, hj, rfl, rfl, hx, hd', he, hw, hb⟩ := hrel
    have HE : Hid (di ++ le x (k - j) = ds ++ le u k) := he
    have HD : Hid (di.length = ds.length + j) := hd'
    clear he hd'
    by_cases hlt : j < k
    · go_wp2_with (at_builtin; refine wpList_append_own _ rfl _ _ 22 rfl base 5 i0 (.int .u8 0) 1 1 Try.underlying22 hi hz0 hz1 hz2 rfl (by decide) _ _ _ rfl (hw.alloc _) ⟨wr.heap.size, 0, none⟩ 1 1 [.int .u8 (x % 256)] rfl rfl ?c1 ?c2 ?c3 ?c4 ?c5 ?_)
      case c1 =>
        intro j u hj
        match j, hj with
        | 0, hj => simp at hj; subst hj; simp [Addr.add]
      case c2 => intro u hu; simp at hu; subst hu; rfl
      case c3 => have := HD.out; unfold maxLen; omega
      case c4 => have := HD.out; omega
      case c5 => have := hb.size; simp; omega
      intro v' w1 hown hgrow _
      go_wp2
      go_roundw
      case rel =>
        have hbs := hb.size
        exact ⟨j + 1, x / 256, di ++ [x % 256], by omega, by go_num, rfl, by omega, by have := HD.out; simp; omega, le_step hlt HE.out, by simpa using hown, (hb.alloc (by omega) _).grown hgrow (by simp; omega) (fun k hk => (hw.lt k hk).1)⟩
      case measure => simp [intOf]; omega
    · go_wp2
      go_ret
      have e0 : k - j = 0 := by omega
      have he := HE.out
      rw [e0] at he
      simp only [le, List.append_nil] at he
      have hd' := HD.out
      have : j = k := by omega
      subst this
      exact ⟨_, rfl, by rw [← he, ← hd']; exact hw, hb⟩

theorem strCells_txt (s : ByteArray) : Lib.strCells s = (txt s).map (Value.int .u8) := by simp [Lib.strCells, txt]

theorem NoteAt.below {w w' : World} {B b : Nat} {t k p n : Int} {s : ByteArray} (h : NoteAt w b t k p n s) (hb : Below B w w') (hS : b < B) : NoteAt w' b t k p n s := by
  obtain ⟨h0, h1, h2, h3, h4⟩ := h
  exact ⟨by rw [hb.cell hS]; exact h0, by rw [hb.cell hS]; exact h1, by rw [hb.cell hS]; exact h2, by rw [hb.cell hS]; exact h3, by rw [hb.cell hS]; exact h4⟩

set_option maxHeartbeats 2000000 in
theorem specFrame_ok (t k p n : Int) (s : ByteArray) (w : World) (hok : noteOkB t k p s.size = true) :
    Calls Try.prog 13 #[.agg #[.int .i64 t, .int .i64 k, .int .i64 p, .int .i64 n, .string s]] w fun e w' => ∃ v, e = .returned v ∧ w'.ownsRow w.heap.size 5 1 v (17 + s.size) ((frameL t k p n s).map (Value.int .u8)) ∧ Below w.heap.size w w' := by
  obtain ⟨⟨t0, t1⟩, ⟨k0, k1⟩, ⟨p0, p1⟩, hs⟩ := noteOk_parts hok
  obtain ⟨i0, hi, hz0, hz1, hz2⟩ := info_parts info5
  go_enter Try.func13, Try.ntmps13
  go_wp2_with fail
  refine (specNoteOk_any _ _ _ _ _ _ (by unfold maxLen; omega)).mono ?_; rintro e w1 ⟨rfl, hb1⟩; rw [hok]; obtain ⟨hc1, hf1⟩ := bcell hb1; have hz1' : w.heap.size < w1.heap.size := by (have := hb1.size; simp at this; omega)
  go_wp2_with fail
  have own0 : (w1.alloc (.cells #[.int .u8 78, .int .u8 (s.size : Int)] 5)).ownsRow w1.heap.size 5 1 (.slice (some ⟨w1.heap.size, 0, none⟩) 2 2) 2 (([78, (s.size : Int)] : List Int).map (Value.int .u8)) := by
    simpa using World.ownsRow_lit (base := w1.heap.size) (e := 5) (size := 1) w1 #[.int .u8 78, .int .u8 (s.size : Int)] 2 (Nat.le_refl _) (by unfold maxLen; omega) rfl
  have nw1 : NoteAt (w1.alloc (.cells #[.int .u8 78, .int .u8 (s.size : Int)] 5)) w.heap.size t k p n s := by
    have bb := bcell ((Below.refl _ w1).alloc (Nat.le_refl _) (.cells #[.int .u8 78, .int .u8 (s.size : Int)] 5))
    refine ⟨?_, ?_, ?_, ?_, ?_⟩ <;> (rw [bb.1 _ _ hz1', hc1 _ _ (by simp)]; simp [go_sem])
  refine (l1put_own w1.heap.size _ [78, (s.size : Int)] t 4 _ t0 (by omega) (by simp) (by simp) own0).mono ?_
  rintro e w2 ⟨v2, rfl, own2, b2⟩
  have nw2 := nw1.below b2 hz1'
  obtain ⟨a0, a1, a2, a3, a4⟩ := id nw2
  have s2 : w1.heap.size < w2.heap.size := by have := b2.size; simp at this; omega
  clear own0
  go_wp2_with (at_builtin; refine wpList_append_own _ rfl _ _ 22 rfl w1.heap.size 5 i0 (.int .u8 0) 1 1 Try.underlying22 hi hz0 hz1 hz2 rfl (by decide) _ _ _ rfl (own2.alloc _) ⟨w2.heap.size, 0, none⟩ 1 1 [.int .u8 k] rfl rfl ?c1 ?c2 ?c3 ?c4 ?c5 ?_)
  case c1 =>
    intro j u hj
    match j, hj with
    | 0, hj => simp at hj; subst hj; simp [Addr.add]
  case c2 => intro u hu; simp at hu; subst hu; rfl
  case c3 => simp [maxLen]
  case c4 => simp
  case c5 => simp; omega
  intro v3 w3 own3 grow3 _
  have b3 : Below w1.heap.size w2 w3 := ((Below.refl _ w2).alloc (by omega) _).grown grow3 (by simp; omega) (fun k hk => (own2.lt k hk).1)
  have nw3 := nw2.below b3 hz1'
  obtain ⟨d0, d1, d2, d3, d4⟩ := id nw3
  have s3 : w1.heap.size < w3.heap.size := by have := b3.size; omega
  have own3' : w3.ownsRow w1.heap.size 5 1 v3 ([78, (s.size : Int)] ++ le t 4 ++ [k]).length (([78, (s.size : Int)] ++ le t 4 ++ [k]).map (Value.int .u8)) := by simpa [le_length] using own3
  clear own2 own3 a0 a1 a2 a3 a4 grow3
  go_wp2_with fail
  refine (l1put_own w1.heap.size _ ([78, (s.size : Int)] ++ le t 4 ++ [k]) p 2 _ p0 (by omega) (by simp [le_length]) (by omega) own3').mono ?_
  rintro e w4 ⟨v4, rfl, own4, b4⟩
  have nw4 := nw3.below b4 hz1'
  obtain ⟨f0, f1, f2, f3, f4⟩ := id nw4
  have s4 : w1.heap.size < w4.heap.size := by have := b4.size; omega
  have own4' : w4.ownsRow w1.heap.size 5 1 v4 ([78, (s.size : Int)] ++ le t 4 ++ [k] ++ le p 2).length (([78, (s.size : Int)] ++ le t 4 ++ [k] ++ le p 2).map (Value.int .u8)) := by simpa [le_length] using own4
  clear own3' own4 d0 d1 d2 d3 d4
  go_wp2_with fail
  refine (l1put_own w1.heap.size _ ([78, (s.size : Int)] ++ le t 4 ++ [k] ++ le p 2) (IntKind.u64.wrap n) 8 _ (by simp only [IntKind.wrap_u64]; omega) (by omega) (by simp [le_length]) (by omega) own4').mono ?_
  rintro e w5 ⟨v5, rfl, own5, b5⟩
  have nw5 := nw4.below b5 hz1'
  obtain ⟨g0, g1, g2, g3, g4⟩ := id nw5
  have s5 : w1.heap.size < w5.heap.size := by have := b5.size; omega
  clear own4' f0 f1 f2 f3 f4
  go_wp2_with (at_builtin; refine Lib.wpList_append_own_string _ rfl _ _ 22 9 rfl w1.heap.size 5 i0 Try.underlying22 Try.underlying9 hi hz0 hz1 hz2 _ _ _ rfl own5 s rfl ?c6 ?c7 ?c8 ?_)
  case c6 => simp [le_length, maxLen]; omega
  case c7 => simp [le_length]; omega
  case c8 => omega
  intro v6 w6 own6 grow6 _
  have b6 : Below w1.heap.size w5 w6 := (Below.refl _ w5).grown grow6 (by omega) (fun k hk => (own5.lt k hk).1)
  go_wp2
  go_ret
  refine ⟨_, rfl, ?_, ?_⟩
  · have e : w6.ownsRow w1.heap.size 5 1 v6 (17 + s.size) ((frameL t k p n s).map (Value.int .u8)) := by
      simpa [frameL, le_length, strCells_txt] using own6
    obtain ⟨q1, q2⟩ := e
    refine ⟨q1, ?_⟩
    rcases q2 with q2 | ⟨g, cap, cur, r1, r2, r3⟩
    · exact .inl q2
    · exact .inr ⟨g, cap, cur, r1, by omega, r3⟩
  · exact (((Below.refl _ _).alloc (Nat.le_refl _) _).trans (hb1.mono (by simp))).trans (((((((Below.refl _ w1).alloc (Nat.le_refl _) _).trans b2).trans b3).trans b4).trans b5).trans b6 |>.mono (by omega))

theorem specFrame_no (t k p n : Int) (s : ByteArray) (w : World) (hs : s.size ≤ maxLen) (hok : noteOkB t k p s.size = false) :
    Calls Try.prog 13 #[.agg #[.int .i64 t, .int .i64 k, .int .i64 p, .int .i64 n, .string s]] w fun e w' => e = .returned (.slice none 0 0) ∧ Below w.heap.size w w' := by
  go_enter Try.func13, Try.ntmps13
  go_wp2_with fail
  refine (specNoteOk_any _ _ _ _ _ _ hs).mono ?_; rintro e w1 ⟨rfl, hb1⟩; rw [hok]
  go_wp2
  go_ret
  exact ⟨rfl, ((Below.refl _ _).alloc (Nat.le_refl _) _).trans (hb1.mono (by simp))⟩
end Go.Proofs.Ytepagknkhlpicaa
