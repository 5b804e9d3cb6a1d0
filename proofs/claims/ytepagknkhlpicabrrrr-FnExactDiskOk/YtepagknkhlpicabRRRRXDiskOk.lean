/-
  The law FnExactDiskOk.
-/
import Derived.Test.YtepagknkhlpicabRRRRImplDisk
import Derived.Deep.RegionHeld3
namespace Go.Proofs.YtepagknkhlpicabRRRR
open Go.ChangeShapes Go.WideShapes Go.ChangeAt Go.RowKit
set_option linter.unusedVariables false
set_option linter.unusedSimpArgs false
attribute [local go_sem ↓] Go.wp_at_zero Go.wp_at_succ

theorem rdisk_form {N : Nat} {w : World} {v1 v2 : Value} {D : DD} (h : RDisk N w v1 v2 D) : (∃ a n cap, v1 = .slice a n cap) ∧ ∃ a n cap, v2 = .slice a n cap := by
  obtain ⟨a, cap, e, _⟩ := h.bb
  obtain ⟨b, cap', e', _⟩ := h.ws
  exact ⟨⟨a, _, cap, e⟩, ⟨b, _, cap', e'⟩⟩

set_option maxHeartbeats 4000000 in
theorem walkDiskOk (v1 v2 : Value) (D : DD) (w : World) (h : RDisk w.heap.size w v1 v2 D) :
    Calls Try.prog 3 #[.agg #[v1, v2]] w fun e w' => e = .returned (.bool true) ∧ Below w.heap.size w w' := by
  obtain ⟨⟨a1, n1, c1, rfl⟩, ⟨a2, n2, c2, rfl⟩⟩ := rdisk_form h
  have bA := (Below.refl _ w).alloc (Nat.le_refl _) (.cells #[.slice a1 n1 c1, .slice a2 n2 c2] 25)
  have gA := heap_alloc_new w (.cells #[.slice a1 n1 c1, .slice a2 n2 c2] 25)
  have HR : Hid (RDisk w.heap.size w (.slice a1 n1 c1) (.slice a2 n2 c2) D) := h
  clear h
  go_enter Try.func3, Try.ntmps3
  go_wp2_with fail
  refine (szDisk_any w.heap.size _ _ D _ (HR.out.below bA) (by simp)).mono ?_; rintro e w1 ⟨z, rfl, hz, b1⟩
  have z1 := b1.size
  simp only [World.size_alloc] at z1
  have B1 : Below w.heap.size w w1 := bA.trans (b1.mono (by simp))
  rcases hz with hz | ⟨hz, hD, _⟩
  · go_wp2
    go_ret
    exact ⟨rfl, B1⟩
  · have hz' : ¬ z < 0 := by omega
    have g1 : w1.heap[w.heap.size]? = some (.cells #[.slice a1 n1 c1, .slice a2 n2 c2] 25 (0, 0)) := by rw [b1.block _ (by simp)]; exact gA
    obtain ⟨⟨p0, p1⟩, fp⟩ := b2cells g1
    go_wp2_with fail
    refine (toDisk_any w.heap.size _ _ D _ (HR.out.below B1) (by omega) hD).mono ?_; rintro e w2 ⟨u1, u2, r1, r2, rfl, o2, b2⟩
    have z2 := b2.size
    go_wp2_with fail
    refine (specDiskOk_any w2.heap.size u1 u2 D _ o2.reads (by omega)).mono ?_; rintro e w3 ⟨rfl, b3⟩
    have z3 := b3.size
    have B3 : Below w.heap.size w w3 := (B1.trans (b2.mono (by omega))).trans (b3.mono (by omega))
    have g3 : w3.heap[w.heap.size]? = some (.cells #[.slice a1 n1 c1, .slice a2 n2 c2] 25 (0, 0)) := by rw [b3.block _ (by omega), b2.block _ (by omega)]; exact g1
    clear p0 p1 fp
    obtain ⟨⟨p0, p1⟩, fp⟩ := b2cells g3
    go_wp2_with fail
    refine (toDisk_any w.heap.size _ _ D _ (HR.out.below B3) (by omega) hD).mono ?_; rintro e w4 ⟨x1, x2, q1, q2, rfl, o4, b4⟩
    have z4 := b4.size
    obtain ⟨⟨y1, m1, k1, rfl⟩, ⟨y2, m2, k2, rfl⟩⟩ := rdisk_form o4.reads
    have bX : Below w4.heap.size w4 (w4.alloc (.cells #[.slice y1 m1 k1, .slice y2 m2 k2] 30)) := (Below.refl _ w4).alloc (Nat.le_refl _) _
    have gX := heap_alloc_new w4 (.cells #[.slice y1 m1 k1, .slice y2 m2 k2] 30)
    clear p0 p1 fp
    go_wp2_with fail
    refine (implDiskOk_any w4.heap.size _ _ D _ (o4.reads.below bX) (by simp)).mono ?_; rintro e w5 ⟨rfl, b5⟩
    have z5 := b5.size
    simp only [World.size_alloc] at z5
    have B45 : Below w4.heap.size w4 w5 := bX.trans (b5.mono (by simp))
    have B5 : Below w.heap.size w w5 := (B3.trans (b4.mono (by omega))).trans (B45.mono (by omega))
    have g5 : w5.heap[w.heap.size]? = some (.cells #[.slice a1 n1 c1, .slice a2 n2 c2] 25 (0, 0)) := by rw [B45.block _ (by omega), b4.block _ (by omega)]; exact g3
    have gX5 : w5.heap[w4.heap.size]? = some (.cells #[.slice y1 m1 k1, .slice y2 m2 k2] 30 (0, 0)) := by rw [b5.block _ (by simp)]; exact gX
    have ho5 : RDisk w4.heap.size w5 (.slice y1 m1 k1) (.slice y2 m2 k2) D := o4.reads.below B45
    have hne : (D.okB != D.okB) = false := by simp
    obtain ⟨⟨p0, p1⟩, fp⟩ := b2cells g5
    obtain ⟨⟨x0, x1⟩, fx⟩ := b2cells gX5
    have HK : Hid (∀ W, Below w5.heap.size w5 W → W.cell? ⟨w.heap.size, 0, none⟩ = some (.slice a1 n1 c1) ∧ W.cell? ⟨w.heap.size, 1, none⟩ = some (.slice a2 n2 c2) ∧ W.cell? ⟨w4.heap.size, 0, none⟩ = some (.slice y1 m1 k1) ∧ W.cell? ⟨w4.heap.size, 1, none⟩ = some (.slice y2 m2 k2)) := fun W hW =>
      ⟨by rw [hW.cell (p := ⟨w.heap.size, 0, none⟩) (show w.heap.size < _ by omega)]; exact p0, by rw [hW.cell (p := ⟨w.heap.size, 1, none⟩) (show w.heap.size < _ by omega)]; exact p1,
       by rw [hW.cell (p := ⟨w4.heap.size, 0, none⟩) (show w4.heap.size < _ by omega)]; exact x0, by rw [hW.cell (p := ⟨w4.heap.size, 1, none⟩) (show w4.heap.size < _ by omega)]; exact x1⟩
    have hT : ∀ W, W = w5.drew → Calls Try.prog 8 #[.agg #[.slice a1 n1 c1, .slice a2 n2 c2]] W fun e w' => ∃ u1 u2 r1 r2, e = .returned (.agg #[u1, u2]) ∧ ODisk w5.heap.size w' u1 u2 r1 r2 D ∧ Below w5.heap.size w5.drew w' := by
      rintro W rfl
      exact toDisk_any w.heap.size _ _ D w5.drew (HR.out.below B5.drew) (show w.heap.size ≤ w5.heap.size by omega) hD
    have hE : ∀ w6 s1 s2 t1 t2, ODisk w5.heap.size w6 s1 s2 t1 t2 D → Below w5.heap.size w5.drew w6 → Calls Try.prog 10 #[.agg #[.slice y1 m1 k1, .slice y2 m2 k2], .agg #[s1, s2]] w6 fun e w' => e = .returned (.bool true) ∧ Below w6.heap.size w6 w' := by
      intro w6 s1 s2 t1 t2 o6 b6
      exact eqDisk_same w6.heap.size _ _ _ _ D w6 (((ho5.mono (by omega)).below (undrew b6)).mono b6.size) o6.reads (Nat.le_refl _) hD
    have HHT : Hid (∀ W, W = w5.drew → Calls Try.prog 8 #[.agg #[.slice a1 n1 c1, .slice a2 n2 c2]] W fun e w' => ∃ u1 u2 r1 r2, e = .returned (.agg #[u1, u2]) ∧ ODisk w5.heap.size w' u1 u2 r1 r2 D ∧ Below w5.heap.size w5.drew w') := hT
    have HHE : Hid (∀ w6 s1 s2 t1 t2, ODisk w5.heap.size w6 s1 s2 t1 t2 D → Below w5.heap.size w5.drew w6 → Calls Try.prog 10 #[.agg #[.slice y1 m1 k1, .slice y2 m2 k2], .agg #[s1, s2]] w6 fun e w' => e = .returned (.bool true) ∧ Below w6.heap.size w6 w') := hE
    clear hT hE
    clear g1 g3 g5 gX gX5 fp fx
    go_wp2
    go_region_held3 (fun w' => w'.cell? ⟨w.heap.size, 0, none⟩ = some (.slice a1 n1 c1) ∧ w'.cell? ⟨w.heap.size, 1, none⟩ = some (.slice a2 n2 c2) ∧ w'.cell? ⟨w4.heap.size, 0, none⟩ = some (.slice y1 m1 k1) ∧ w'.cell? ⟨w4.heap.size, 1, none⟩ = some (.slice y2 m2 k2)) (first | exact ⟨p0, p1, x0, x1⟩ | exact HK.out _ (undrew b6) | exact HK.out _ ((undrew b6).trans (b7.mono b6.size)))
      ((first | (go_at_call 8; refine (HHT.out _ rfl).mono ?_; rintro e w6 ⟨s1, s2, t1, t2, rfl, o6, b6⟩) | (go_at_call 10; refine (HHE.out _ _ _ _ _ o6 b6).mono ?_; rintro e w7 ⟨rfl, b7⟩)))
    go_wp2
    go_ret
    exact ⟨rfl, B5.trans (((undrew b6).trans (b7.mono b6.size)).mono (by omega))⟩

set_option maxRecDepth 100000 in
theorem liftedDiskOk (os : Os) (started : os.Started) (H : Type) (enc : TypeId × Value → H) :
    ReturnsInHanded {} Try.checked os 3 .any (Rows.fnExactDiskOkSpec.pre6 enc Try.prog Try.f3 Rows.fnExactDiskOkRow.domain false) (Rows.fnExactDiskOkSpec.post enc Try.prog Try.f3 false true false false) := by
  refine returnsInHanded_of_change (C := Try.checked) own started (by kernel_rfl) Try.func3
    (ChangeSpec.witness6 (enc := enc) (C := Try.checked) false ⟨#[], #[.agg #[.slice none 0 0, .slice none 0 0]], []⟩ 8 (by kernel_rfl) (by kernel_rfl) (by kernel_rfl) (by kernel_rfl)) ?_
  intro W base args ds gs before hval0 hW hcnd _
  have hval : ∀ (j : Nat) t v, Try.f3.params[j]? = some t → args[j]? = some v → Value.okWide Try.prog W .any base t v := hval0
  have hW' := hW
  obtain ⟨p, q, hA0, hV, rfl, hfz, hnd⟩ := hW
  have hA : DataW.TrodAll enc Try.prog W 0 (fun _ => true) true Try.f3.params.toList args.toList ds p := hA0
  rw [Try.params3] at hA hval
  obtain ⟨v0, vs0, d0, ds0, p0, q0, hargs, rfl, rfl, h0, r0⟩ := trodAll_cons hA
  obtain ⟨rfl, rfl, rfl⟩ := trodAll_nil r0
  obtain rfl : args = #[v0] := by cases args; simp_all
  obtain ⟨rfl, rfl⟩ := trodVars_none hV
  have k0 := h0
  have lt0 : ∀ x ∈ p0, x.block < W.heap.size := by obtain ⟨m, hm⟩ := k0; exact DataW.trod_lt m _ _ _ hm
  obtain ⟨v1, v2, D, rfl, hrd, _, _⟩ := open_disk (hval 0 25 v0 rfl rfl) h0
  clear hA0 hval0
  refine (walkDiskOk v1 v2 D W hrd).mono fun e W' ⟨he, bel⟩ => ?_
  subst he
  exact ⟨_, rfl, _, _, _, [], _, [], hW', trodAll_mk1 (shut_bool Try.underlying4 _), (trodAll_cons_mk (Below.trod laidOut (by kernel_rfl) (of_decide_eq_true (by kernel_rfl)) k0 bel lt0) trodAll_mk0), rfl, bel.frame _, fun h => by cases h⟩

theorem diskOk_holds : Rows.FnExactDiskOkSaid :=
  OpenClaim.holds_of_wide 3 Try.f3 rfl rfl rfl rfl rfl rfl rfl ⟨rfl, rfl, rfl, rfl, rfl⟩ rfl rfl rfl rfl rfl (by kernel_rfl) Try.func3 (by kernel_rfl)
    (of_decide_eq_true (by kernel_rfl)) (by unfold Func.isWrapper; first | (rw [if_pos (by decide +kernel)]; kernel_rfl) | (rw [if_neg (by decide +kernel)]; exact ⟨rfl, rfl⟩))
    (fun os started H enc _ => liftedDiskOk os started H enc)
#print axioms diskOk_holds
end Go.Proofs.YtepagknkhlpicabRRRR
