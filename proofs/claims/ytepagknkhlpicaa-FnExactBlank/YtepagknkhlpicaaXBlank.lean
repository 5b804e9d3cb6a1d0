/-
  The law FnExactBlank.
-/
import Derived.Test.YtepagknkhlpicaaImplBlank
namespace Go.Proofs.Ytepagknkhlpicaa
open Go.ChangeShapes Go.WideShapes Go.ChangeAt Go.RowKit
set_option linter.unusedVariables false
set_option linter.unusedSimpArgs false

theorem ODisk.sameAt {lo : Nat} {w w' : World} {v1 v2 : Value} {r1 r2 : List Value} {D : DD} (h : ODisk lo w v1 v2 r1 r2 D) (hs : ∀ k, k ∈ fps (v1 :: r1) ∨ k ∈ fps (v2 :: r2) → w'.heap[k]? = w.heap[k]?) : ODisk lo w' v1 v2 r1 r2 D :=
  ⟨h.bb.same (fun k hk => hs k (.inl hk)), h.ws.same (fun k hk => hs k (.inr hk)), h.apart⟩
theorem ODisk.lt {lo : Nat} {w : World} {v1 v2 : Value} {r1 r2 : List Value} {D : DD} (h : ODisk lo w v1 v2 r1 r2 D) : ∀ k, k ∈ fps (v1 :: r1) ∨ k ∈ fps (v2 :: r2) → lo ≤ k ∧ k < w.heap.size := by
  rintro k (hk | hk)
  · exact h.bb.lt k hk
  · exact h.ws.lt k hk
theorem ODisk.beyond {lo B : Nat} {w w' : World} {v1 v2 : Value} {r1 r2 : List Value} {D : DD} (h : ODisk lo w v1 v2 r1 r2 D) (hb : Below B w w') (hB : w.heap.size ≤ B) : ODisk lo w' v1 v2 r1 r2 D :=
  h.sameAt (fun k hk => hb.block k (by have := (h.lt k hk).2; omega))

theorem blank_small : blankD.small := by
  refine ⟨by rw [blankD, List.length_replicate]; omega, by rw [blankD]; simp, fun x hx => ?_, fun x hx => by rw [blankD] at hx; simp at hx⟩
  rw [blankD] at hx
  have := List.eq_of_mem_replicate hx
  rw [this, List.length_replicate]
  omega
theorem sumL_rep : ∀ (n m : Nat), sumL (List.replicate n (List.replicate m (0 : Int))) = n * m
  | 0, m => by simp [sumL]
  | n + 1, m => by
    rw [List.replicate_succ, sumL, sumL_rep n m, List.length_replicate, Nat.succ_mul]
    omega
theorem blank_sum : blankD.sum = 8192 := by
  rw [DD.sum, blankD, sumL_rep, sumW]

set_option maxRecDepth 5000 in
set_option maxHeartbeats 8000000 in
theorem walkBlank (w : World) :
    Calls Try.prog 9 #[] w fun e w' => e = .returned (.bool true) ∧ Below w.heap.size w w' := by
  have hSp := specBlank_any
  have hIm := implBlank_any
  have hsm := blank_small
  have hsu : blankD.sum ≤ 10000 := by rw [blank_sum]; omega
  generalize blankD = D at hSp hIm hsm hsu
  have HSp : Hid (∀ w, Calls Try.prog 35 #[] w fun e w' => ∃ u1 u2 r1 r2, e = .returned (.agg #[u1, u2]) ∧ ODisk w.heap.size w' u1 u2 r1 r2 D ∧ Below w.heap.size w w') := hSp
  have HIm : Hid (∀ w, Calls Try.prog 36 #[] w fun e w' => ∃ u1 u2 r1 r2, e = .returned (.agg #[u1, u2]) ∧ ODisk w.heap.size w' u1 u2 r1 r2 D ∧ Below w.heap.size w w') := hIm
  clear hSp hIm
  go_enter Try.func9, Try.ntmps9
  go_wp2_with fail
  refine (HSp.out _).mono ?_; rintro e w1 ⟨u1, u2, r1, r2, rfl, o1, b1⟩
  obtain ⟨a1, n1, c1, rfl⟩ := own_form o1.bb.outer
  obtain ⟨a2, n2, c2, rfl⟩ := own_form o1.ws.outer
  have z1 := b1.size
  have bX : Below w1.heap.size w1 (w1.alloc (.cells #[.slice a1 n1 c1, .slice a2 n2 c2] 58)) := (Below.refl _ w1).alloc (Nat.le_refl _) _
  have gX := heap_alloc_new w1 (.cells #[.slice a1 n1 c1, .slice a2 n2 c2] 58)
  go_wp2_with fail
  refine (HIm.out _).mono ?_; rintro e w2 ⟨x1, x2, q1, q2, rfl, o2, b2⟩
  obtain ⟨a3, n3, c3, rfl⟩ := own_form o2.bb.outer
  obtain ⟨a4, n4, c4, rfl⟩ := own_form o2.ws.outer
  have z2 := b2.size
  simp only [World.size_alloc] at z2 o2 b2
  have bY : Below w2.heap.size w2 (w2.alloc (.cells #[.slice a3 n3 c3, .slice a4 n4 c4] 58)) := (Below.refl _ w2).alloc (Nat.le_refl _) _
  have gY := heap_alloc_new w2 (.cells #[.slice a3 n3 c3, .slice a4 n4 c4] 58)
  have b12 : Below w1.heap.size w1 w2 := bX.trans (b2.mono (by omega))
  have gX2 : w2.heap[w1.heap.size]? = some (.cells #[.slice a1 n1 c1, .slice a2 n2 c2] 58 (0, 0)) := by rw [b2.block _ (by omega)]; exact gX
  have gXY : (w2.alloc (.cells #[.slice a3 n3 c3, .slice a4 n4 c4] 58)).heap[w1.heap.size]? = some (.cells #[.slice a1 n1 c1, .slice a2 n2 c2] 58 (0, 0)) := by rw [bY.block _ (by omega)]; exact gX2
  have o1Y := (o1.beyond b12 (Nat.le_refl _)).beyond bY (by omega)
  have o2Y := o2.beyond bY (Nat.le_refl _)
  have lt1 : ∀ k, k ∈ fps (Value.slice a1 n1 c1 :: r1) ∨ k ∈ fps (Value.slice a2 n2 c2 :: r2) → w.heap.size ≤ k ∧ k < w1.heap.size := o1.lt
  have lt2 : ∀ k, k ∈ fps (Value.slice a3 n3 c3 :: q1) ∨ k ∈ fps (Value.slice a4 n4 c4 :: q2) → w1.heap.size + 1 ≤ k ∧ k < w2.heap.size := o2.lt
  have ne1 : w1.heap.size ≠ w2.heap.size := by omega
  have ne2 : w2.heap.size ≠ w1.heap.size := by omega
  have BY : Below w.heap.size w (w2.alloc (.cells #[.slice a3 n3 c3, .slice a4 n4 c4] 58)) := (b1.trans (b12.mono (by omega))).trans (bY.mono (by omega))
  obtain ⟨⟨p0, p1⟩, fp⟩ := b2cells gXY
  clear o1 o2 gX gX2 b12
  go_wp2_with fail
  refine (eqDisk_same _ _ _ _ _ D _ o2Y.reads o1Y.reads (Nat.le_refl _) hsm).mono ?_; rintro e w3 ⟨rfl, b3⟩
  have z3 := b3.size
  simp only [World.size_alloc] at z3
  have o13 := o1Y.beyond b3 (Nat.le_refl _)
  have o23 := o2Y.beyond b3 (Nat.le_refl _)
  have gX3 : w3.heap[w1.heap.size]? = some (.cells #[.slice a1 n1 c1, .slice a2 n2 c2] 58 (0, 0)) := by rw [b3.block _ (by simp; omega)]; exact gXY
  have gY3 : w3.heap[w2.heap.size]? = some (.cells #[.slice a3 n3 c3, .slice a4 n4 c4] 58 (0, 0)) := by rw [b3.block _ (by simp)]; exact gY
  have B3 : Below w.heap.size w w3 := BY.trans (b3.mono (by simp; omega))
  clear o1Y o2Y gXY gY p0 p1 fp
  obtain ⟨⟨y0, y1⟩, fy⟩ := b2cells gY3
  go_wp2_with fail
  refine (markDisk_own _ _ _ _ _ D 1 _ (by omega) (by omega) hsm o23).mono ?_; rintro e w4 ⟨rfl, o24, kp4⟩
  have z4 := kp4.size
  have o14 := o13.sameAt (fun k hk => kp4.block k (o13.lt k hk).2 (fun e => by have := lt2 k e; have := lt1 k hk; omega))
  have gX4 : w4.heap[w1.heap.size]? = some (.cells #[.slice a1 n1 c1, .slice a2 n2 c2] 58 (0, 0)) := by rw [kp4.block _ (by omega) (fun e => by have := lt2 _ e; omega)]; exact gX3
  have gY4 : w4.heap[w2.heap.size]? = some (.cells #[.slice a3 n3 c3, .slice a4 n4 c4] 58 (0, 0)) := by rw [kp4.block _ (by omega) (fun e => by have := lt2 _ e; omega)]; exact gY3
  have B4 : Below w.heap.size w w4 := B3.trans (kp4.below (by omega) (fun k e => by have := lt2 k e; omega))
  clear o13 o23 gX3 gY3 y0 y1 fy kp4
  obtain ⟨⟨y0, y1⟩, fy⟩ := b2cells gY4
  go_wp2_with fail
  refine (heldDisk_any _ _ _ D 1 _ (by omega) (by omega) hsm o24.reads (Nat.le_refl _)).mono ?_; rintro e w5 ⟨rfl, b5⟩
  have z5 := b5.size
  have o15 := o14.beyond b5 (Nat.le_refl _)
  have o25 := o24.beyond b5 (Nat.le_refl _)
  have gX5 : w5.heap[w1.heap.size]? = some (.cells #[.slice a1 n1 c1, .slice a2 n2 c2] 58 (0, 0)) := by rw [b5.block _ (by omega)]; exact gX4
  have gY5 : w5.heap[w2.heap.size]? = some (.cells #[.slice a3 n3 c3, .slice a4 n4 c4] 58 (0, 0)) := by rw [b5.block _ (by omega)]; exact gY4
  have B5 : Below w.heap.size w w5 := B4.trans (b5.mono (by omega))
  have hne : ((1 : Int) + D.sum != 1 + D.sum) = false := by simp
  have hng : ¬ ((1 : Int) + D.sum < 0) := by omega
  clear o14 o24 gX4 gY4 y0 y1 fy
  go_wp2_with fail
  refine (HIm.out _).mono ?_; rintro e w6 ⟨s1, s2, t1, t2, rfl, o6, b6⟩
  obtain ⟨a5, n5, c5, rfl⟩ := own_form o6.bb.outer
  obtain ⟨a6, n6, c6, rfl⟩ := own_form o6.ws.outer
  have z6 := b6.size
  have bV : Below w6.heap.size w6 (w6.alloc (.cells #[.slice a5 n5 c5, .slice a6 n6 c6] 58)) := (Below.refl _ w6).alloc (Nat.le_refl _) _
  have b5V : Below w5.heap.size w5 (w6.alloc (.cells #[.slice a5 n5 c5, .slice a6 n6 c6] 58)) := b6.trans (bV.mono (by omega))
  have gXV : (w6.alloc (.cells #[.slice a5 n5 c5, .slice a6 n6 c6] 58)).heap[w1.heap.size]? = some (.cells #[.slice a1 n1 c1, .slice a2 n2 c2] 58 (0, 0)) := by rw [b5V.block _ (by omega)]; exact gX5
  have gYV : (w6.alloc (.cells #[.slice a5 n5 c5, .slice a6 n6 c6] 58)).heap[w2.heap.size]? = some (.cells #[.slice a3 n3 c3, .slice a4 n4 c4] 58 (0, 0)) := by rw [b5V.block _ (by omega)]; exact gY5
  have o1V := o15.beyond b5V (Nat.le_refl _)
  have o2V := o25.beyond b5V (Nat.le_refl _)
  have o6V := o6.beyond bV (Nat.le_refl _)
  have ne3 : w1.heap.size ≠ w6.heap.size := by omega
  obtain ⟨⟨p0, p1⟩, fp⟩ := b2cells gXV
  clear o15 o25 o6 gX5 gY5
  go_wp2_with fail
  refine (eqDisk_same _ _ _ _ _ D _ o6V.reads o1V.reads (Nat.le_refl _) hsm).mono ?_; rintro e w7 ⟨rfl, b7⟩
  have z7 := b7.size
  simp only [World.size_alloc] at z7
  have o27 := o2V.beyond b7 (Nat.le_refl _)
  have gY7 : w7.heap[w2.heap.size]? = some (.cells #[.slice a3 n3 c3, .slice a4 n4 c4] 58 (0, 0)) := by rw [b7.block _ (by simp; omega)]; exact gYV
  have B7 : Below w.heap.size w w7 := (B5.trans (b5V.mono (by omega))).trans (b7.mono (by simp; omega))
  clear p0 p1 fp
  obtain ⟨⟨y0, y1⟩, fy⟩ := b2cells gY7
  go_wp2_with fail
  refine (heldDisk_any _ _ _ D 1 _ (by omega) (by omega) hsm o27.reads (Nat.le_refl _)).mono ?_; rintro e w8 ⟨rfl, b8⟩
  go_wp2
  go_ret
  exact ⟨rfl, B7.trans (b8.mono (by omega))⟩

set_option maxRecDepth 100000 in
theorem liftedBlank (os : Os) (started : os.Started) (H : Type) (enc : TypeId × Value → H) :
    ReturnsInHanded {} Try.checked os 9 .any (Rows.fnExactBlankSpec.pre6 enc Try.prog Try.f9 Rows.fnExactBlankRow.domain false) (Rows.fnExactBlankSpec.post enc Try.prog Try.f9 false true false false) := by
  refine returnsInHanded_of_change (C := Try.checked) own started (by kernel_rfl) Try.func9
    (ChangeSpec.witness6 (enc := enc) (C := Try.checked) false ⟨#[], #[], []⟩ 8 (by kernel_rfl) (by kernel_rfl) (by kernel_rfl) (by kernel_rfl)) ?_
  intro W base args ds gs before hval0 hW hcnd _
  have hW' := hW
  obtain ⟨p, q, hA0, hV, rfl, hfz, hnd⟩ := hW
  have hA : DataW.TrodAll enc Try.prog W 0 (fun _ => true) true Try.f9.params.toList args.toList ds p := hA0
  rw [Try.params9] at hA
  obtain ⟨hargs, rfl, rfl⟩ := trodAll_nil hA
  obtain rfl : args = #[] := by cases args; simp_all
  obtain ⟨rfl, rfl⟩ := trodVars_none hV
  clear hA0 hval0
  refine (walkBlank W).mono fun e W' ⟨he, bel⟩ => ?_
  subst he
  exact ⟨_, rfl, _, _, _, [], _, [], hW', trodAll_mk1 (shut_bool Try.underlying4 _), trodAll_mk0, rfl, bel.frame _, fun h => by cases h⟩

theorem blank_holds : Rows.FnExactBlankSaid :=
  OpenClaim.holds_of_wide 9 Try.f9 rfl rfl rfl rfl rfl rfl rfl ⟨rfl, rfl, rfl, rfl, rfl⟩ rfl rfl rfl rfl rfl (by kernel_rfl) Try.func9 (by kernel_rfl)
    (of_decide_eq_true (by kernel_rfl)) (by unfold Func.isWrapper; first | (rw [if_pos (by decide +kernel)]; kernel_rfl) | (rw [if_neg (by decide +kernel)]; exact ⟨rfl, rfl⟩))
    (fun os started H enc _ => liftedBlank os started H enc)
#print axioms blank_holds
end Go.Proofs.Ytepagknkhlpicaa
