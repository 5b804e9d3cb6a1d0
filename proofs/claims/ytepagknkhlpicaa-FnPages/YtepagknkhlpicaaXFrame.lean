/-
  The law FnExactFrame.
-/
import Derived.Test.YtepagknkhlpicaaBytes
import Derived.Test.YtepagknkhlpicaaXNoteOk
import Derived.WalkSmall
namespace Go.Proofs.Ytepagknkhlpicaa
open Go.ChangeShapes Go.WideShapes Go.ChangeAt Go.RowKit
open Go.ChangeMaps (open_string shut_string)
set_option linter.unusedVariables false
set_option linter.unusedSimpArgs false

/-- The frame of a note, or nothing. -/
def frameOf (t k p n : Int) (s : ByteArray) : List Int := if noteOkB t k p s.size then frameL t k p n s else []

theorem specFrame_any (t k p n : Int) (s : ByteArray) (w : World) (hs : s.size ≤ maxLen) :
    Calls Try.prog 13 #[.agg #[.int .i64 t, .int .i64 k, .int .i64 p, .int .i64 n, .string s]] w fun e w' => ∃ v, e = .returned v ∧ w'.ownsRow w.heap.size 5 1 v (frameOf t k p n s).length ((frameOf t k p n s).map (Value.int .u8)) ∧ Below w.heap.size w w' := by
  unfold frameOf
  cases h : noteOkB t k p s.size with
  | true =>
    refine (specFrame_ok t k p n s w h).mono ?_
    rintro e w' ⟨v, rfl, h1, h2⟩
    exact ⟨v, rfl, by simpa [frameL_length] using h1, h2⟩
  | false =>
    refine (specFrame_no t k p n s w hs h).mono ?_
    rintro e w' ⟨rfl, h2⟩
    exact ⟨_, rfl, World.ownsRow_nil _ _ _ _, h2⟩

theorem implFrame_any (t k p n : Int) (s : ByteArray) (w : World) (hs : s.size ≤ maxLen) :
    Calls Try.prog 11 #[.agg #[.int .i64 t, .int .i64 k, .int .i64 p, .int .i64 n, .string s]] w fun e w' => ∃ v, e = .returned v ∧ w'.ownsRow w.heap.size 5 1 v (frameOf t k p n s).length ((frameOf t k p n s).map (Value.int .u8)) ∧ Below w.heap.size w w' := by
  unfold frameOf
  cases h : noteOkB t k p s.size with
  | true =>
    refine (implFrame_ok t k p n s w h).mono ?_
    rintro e w' ⟨v, rfl, h1, h2⟩
    exact ⟨v, rfl, by simpa [frameL_length] using h1, h2⟩
  | false =>
    refine (implFrame_no t k p n s w hs h).mono ?_
    rintro e w' ⟨rfl, h2⟩
    exact ⟨_, rfl, World.ownsRow_nil _ _ _ _, h2⟩

theorem frameOf_length (t k p n : Int) (s : ByteArray) : (frameOf t k p n s).length ≤ 217 := by
  unfold frameOf
  cases h : noteOkB t k p s.size with
  | true => have := (noteOk_parts h).2.2.2; simp [frameL_length]; omega
  | false => simp

theorem ownsRow_below {w w' : World} {base ety : Nat} {v : Value} {n : Nat} {xs : List Value} {B : Nat} (h : w.ownsRow base ety 1 v n xs) (hb : Below B w w') (hB : w.heap.size ≤ B) : w'.ownsRow base ety 1 v n xs := by
  obtain ⟨h1, h2⟩ := h
  refine ⟨h1, ?_⟩
  rcases h2 with h2 | ⟨g, cap, cur, hv, hg, hh, r⟩
  · exact .inl h2
  · exact .inr ⟨g, cap, cur, hv, hg, by rw [hb.block g (by have := lt_of_block hh; omega)]; exact hh, r⟩

set_option maxHeartbeats 2000000 in
theorem walkFrame (t k p n : Int) (s : ByteArray) (w : World) (hs : s.size ≤ maxLen) :
    Calls Try.prog 7 #[.agg #[.int .i64 t, .int .i64 k, .int .i64 p, .int .i64 n, .string s]] w fun e w' => e = .returned (.bool true) ∧ Below w.heap.size w w' := by
  by_cases h : (s.size : Int) ≤ 1048576
  · have hfl := frameOf_length t k p n s
    go_enter Try.func7, Try.ntmps7
    go_wp2_with fail
    refine (szNote_any _ _ _ _ _ _ _ hs (by omega) (by omega)).mono ?_; rintro e w1 ⟨rfl, hb1⟩; rw [if_pos h]
    have B1 : Below w.heap.size w w1 := ((Below.refl _ _).alloc (Nat.le_refl _) _).trans (hb1.mono (by simp))
    obtain ⟨hc1, hf1⟩ := bcell hb1
    have n1 : NoteAt w1 w.heap.size t k p n s := by refine ⟨?_, ?_, ?_, ?_, ?_⟩ <;> (rw [hc1 _ _ (by simp)]; simp [go_sem])
    have z1 : w.heap.size < w1.heap.size := by (have := hb1.size; simp at this; omega)
    clear hb1 hc1 hf1
    obtain ⟨a0, a1, a2, a3, a4⟩ := id n1
    go_wp2_with fail
    refine (toNote_any _ _ _ _ _ _).mono ?_; rintro e w2 ⟨rfl, b2⟩
    have n2 := n1.below b2 z1
    have z2 := b2.size
    clear a0 a1 a2 a3 a4
    go_wp2_with fail
    refine (specFrame_any _ _ _ _ _ _ hs).mono ?_; rintro e w3 ⟨v3, rfl, own3, b3⟩
    have n3 := n2.below b3 (by omega)
    have z3 := b3.size
    obtain ⟨a0, a1, a2, a3, a4⟩ := id n3
    go_wp2_with fail
    refine (toNote_any _ _ _ _ _ _).mono ?_; rintro e w4 ⟨rfl, b4⟩
    have n4 := n3.below b4 (by omega)
    have z4 := b4.size
    have own3' := ownsRow_below own3 b4 (Nat.le_refl _)
    clear a0 a1 a2 a3 a4
    go_wp2_with fail
    refine (implFrame_any _ _ _ _ _ _ hs).mono ?_; rintro e w5 ⟨v5, rfl, own5, b5⟩
    have n5 := n4.below b5 (by omega)
    have z5 := b5.size
    have own3'' := ownsRow_below own3' b5 (Nat.le_refl _)
    clear own3
    go_wp2_with fail
    refine (eqBytes_any _ _ _ _ _ (Reads.of_own own5).1 (Reads.of_own own3'').1 (by omega) (by omega)).mono ?_; rintro e w6 ⟨rfl, m6, rfl⟩
    have hd : decide (frameOf t k p n s = frameOf t k p n s) = true := by simp
    rw [hd]
    clear hd
    go_wp2_with fail
    have own5' : (w5.drewN m6).ownsRow w4.heap.size 5 1 v5 (frameOf t k p n s).length ((frameOf t k p n s).map (Value.int .u8)) := own5
    refine (mark_own w4.heap.size v5 _ 1 _ (by omega) (by omega) (by omega) own5').mono ?_; rintro e w7 ⟨rfl, own7, b7⟩
    have z7 := b7.size
    simp only [World.heap_drewN] at z7
    have b47 : Below w4.heap.size w4 w7 := (below_drewN b5 m6).trans b7
    have n7 := n4.below b47 (by omega)
    have own37 := ownsRow_below own3' b47 (Nat.le_refl _)
    clear own5 own5' own3''
    have r7 := Reads.of_own own7
    go_wp2_with fail
    refine (held_any v5 1 _ _ (by omega) (by omega) (by omega) r7.1).mono ?_; rintro e w8 ⟨rfl, rfl⟩
    have hne : ((1 : Int) + (frameOf t k p n s).length != 1 + (frameOf t k p n s).length) = false := by simp
    obtain ⟨a0, a1, a2, a3, a4⟩ := id n7
    go_wp2_with fail
    refine (toNote_any _ _ _ _ _ _).mono ?_; rintro e w9 ⟨rfl, b9⟩
    have z9 := b9.size
    clear a0 a1 a2 a3 a4
    go_wp2_with fail
    refine (implFrame_any _ _ _ _ _ _ hs).mono ?_; rintro e w10 ⟨v10, rfl, own10, b10⟩
    have z10 := b10.size
    have b710 : Below w8.heap.size w8 w10 := b9.trans (b10.mono (by omega))
    have own3a := ownsRow_below own37 b710 (Nat.le_refl _)
    have own7a := ownsRow_below own7 b710 (Nat.le_refl _)
    go_wp2_with fail
    refine (eqBytes_any _ _ _ _ _ (Reads.of_own own10).1 (Reads.of_own own3a).1 (by omega) (by omega)).mono ?_; rintro e w11 ⟨rfl, m11, rfl⟩
    have hd : decide (frameOf t k p n s = frameOf t k p n s) = true := by simp
    rw [hd]
    clear hd
    have r11 : Reads (w10.drewN m11) v5 (marks 1 (frameOf t k p n s).length) := (Reads.of_own own7a).1
    go_wp2_with fail
    refine (held_any v5 1 _ _ (by omega) (by omega) (by omega) r11).mono ?_; rintro e w12 ⟨rfl, rfl⟩
    go_wp2
    go_ret
    refine ⟨rfl, ?_⟩
    refine below_drewN ?_ _
    refine Below.trans ?_ (b710.mono (by omega))
    refine Below.trans ?_ (b47.mono (by omega))
    exact ((B1.trans (b2.mono (by omega))).trans (b3.mono (by omega))).trans (b4.mono (by omega))
  · go_enter Try.func7, Try.ntmps7
    go_wp2_with (go_at_call 25; refine (szNote_any _ _ _ _ _ _ _ hs (by omega) (by omega)).mono ?_; rintro e w1 ⟨rfl, hb1⟩; rw [if_neg h])
    go_ret
    exact ⟨rfl, ((Below.refl _ _).alloc (Nat.le_refl _) _).trans (hb1.mono (by simp))⟩

set_option maxRecDepth 100000 in
theorem liftedFrame (os : Os) (started : os.Started) (H : Type) (enc : TypeId × Value → H) :
    ReturnsInHanded {} Try.checked os 7 .any (Rows.fnExactFrameSpec.pre6 enc Try.prog Try.f7 Rows.fnExactFrameRow.domain false) (Rows.fnExactFrameSpec.post enc Try.prog Try.f7 false true false false) := by
  refine returnsInHanded_of_change (C := Try.checked) own started (by kernel_rfl) Try.func7
    (ChangeSpec.witness6 (enc := enc) (C := Try.checked) false ⟨#[], #[.agg #[.int .i64 0, .int .i64 0, .int .i64 0, .int .i64 0, .string ByteArray.empty]], []⟩ 8 (by kernel_rfl) (by kernel_rfl) (by kernel_rfl) (by kernel_rfl)) ?_
  intro W base args ds gs before hval0 hW hcnd _
  have hval : ∀ (j : Nat) t v, Try.f7.params[j]? = some t → args[j]? = some v → Value.okWide Try.prog W .any base t v := hval0
  have hW' := hW
  obtain ⟨p, q, hA0, hV, rfl, hfz, hnd⟩ := hW
  have hA : DataW.TrodAll enc Try.prog W 0 (fun _ => true) true Try.f7.params.toList args.toList ds p := hA0
  rw [Try.params7] at hA hval
  obtain ⟨v0, vs0, d0, ds0, p0, q0, hargs, rfl, rfl, h0, r0⟩ := trodAll_cons hA
  obtain ⟨rfl, rfl, rfl⟩ := trodAll_nil r0
  obtain rfl : args = #[v0] := by cases args; simp_all
  obtain ⟨rfl, rfl⟩ := trodVars_none hV
  have k0 := h0
  have lt0 : ∀ x ∈ p0, x.block < W.heap.size := by obtain ⟨m, hm⟩ := k0; exact DataW.trod_lt m _ _ _ hm
  obtain ⟨t, k, p, n, s, rfl, hs, wn⟩ := open_note (hval 0 47 v0 rfl rfl) h0
  clear hA0 hval0
  refine (walkFrame t k p n s W hs).mono fun e W' ⟨he, bel⟩ => ?_
  subst he
  exact ⟨_, rfl, _, _, _, [], _, [], hW', trodAll_mk1 (shut_bool Try.underlying4 _), (trodAll_cons_mk (Below.trod laidOut (by kernel_rfl) (of_decide_eq_true (by kernel_rfl)) k0 bel lt0) trodAll_mk0), rfl, bel.frame _, fun h => by cases h⟩

theorem frame_holds : Rows.FnExactFrameSaid :=
  OpenClaim.holds_of_wide 7 Try.f7 rfl rfl rfl rfl rfl rfl rfl ⟨rfl, rfl, rfl, rfl, rfl⟩ rfl rfl rfl rfl rfl (by kernel_rfl) Try.func7 (by kernel_rfl)
    (of_decide_eq_true (by kernel_rfl)) (by unfold Func.isWrapper; first | (rw [if_pos (by decide +kernel)]; kernel_rfl) | (rw [if_neg (by decide +kernel)]; exact ⟨rfl, rfl⟩))
    (fun os started H enc _ => liftedFrame os started H enc)
#print axioms frame_holds
end Go.Proofs.Ytepagknkhlpicaa
