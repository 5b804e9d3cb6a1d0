/-
  The law FnExactPageOf.
-/
import Derived.Test.YtepagknkhlpicabRRRRSpecPageOf
import Derived.Test.YtepagknkhlpicabRRRRPageLaw
namespace Go.Proofs.YtepagknkhlpicabRRRR
open Go.ChangeShapes Go.WideShapes Go.ChangeAt Go.RowKit
set_option linter.unusedVariables false
set_option linter.unusedSimpArgs false

theorem bytesP_length (bs : List Int) : (bytesP bs).length ≤ 56 := by
  cases h : okP bs with
  | false => rw [(okP_false h).2]; simp
  | true =>
    rw [(okP_true h).2, pad_length]
    simp only [okP, Bool.and_eq_true, decide_eq_true_eq] at h
    have := h.1.2
    omega

set_option maxRecDepth 5000 in
set_option maxHeartbeats 8000000 in
theorem walkPageOf (v : Value) (bs : List Int) (w : World) (h : Reads w v bs) (hbs : Byt bs) (hlen : bs.length ≤ maxLen) (hv : ∀ k, v.ownBlock = some k → bs.length = 0 ∨ k < w.heap.size) :
    Calls Try.prog 5 #[v] w fun e w' => e = .returned (.bool true) ∧ Below w.heap.size w w' := by
  have hform : ∃ a cap, v = .slice a bs.length cap := by obtain ⟨a, cap, e, _⟩ := h; exact ⟨a, cap, e⟩
  obtain ⟨a, cap, rfl⟩ := hform
  unfold maxLen at hlen
  have HR : Hid (Reads w (.slice a bs.length cap) bs) := h
  clear h
  by_cases hl : 1048576 < (bs.length : Int)
  · go_enter Try.func5, Try.ntmps5
    go_wp2
    go_ret
    exact ⟨rfl, Below.refl _ _⟩
  · have hl' : bs.length ≤ 1048576 := by omega
    have hYl := bytesP_length bs
    have hIm : ∀ (v : Value) (w : World), Reads w v bs → (∀ k, v.ownBlock = some k → k < w.heap.size) → Calls Try.prog 22 #[v] w fun e w' => ∃ v' ety, e = .returned (.agg #[.bool (okP bs), .int .i64 (genP bs), v']) ∧ w'.ownsRow w.heap.size ety 1 v' (bytesP bs).length ((bytesP bs).map (Value.int .u8)) ∧ Below w.heap.size w w' := fun v w h1 h2 => implPageOf_any v bs w h1 hbs h2
    have hSp : ∀ (v : Value) (w : World), Reads w v bs → (∀ k, v.ownBlock = some k → k < w.heap.size) → Calls Try.prog 20 #[v] w fun e w' => ∃ v' ety, e = .returned (.agg #[.bool (okP bs), .int .i64 (genP bs), v']) ∧ w'.ownsRow w.heap.size ety 1 v' (bytesP bs).length ((bytesP bs).map (Value.int .u8)) ∧ Below w.heap.size w w' := fun v w h1 h2 => specPageOf_any v bs w h1 hbs h2
    generalize okP bs = ok at hIm hSp
    generalize genP bs = gen at hIm hSp
    generalize bytesP bs = Y at hIm hSp hYl
    have HIm : Hid (∀ (v : Value) (w : World), Reads w v bs → (∀ k, v.ownBlock = some k → k < w.heap.size) → Calls Try.prog 22 #[v] w fun e w' => ∃ v' ety, e = .returned (.agg #[.bool ok, .int .i64 gen, v']) ∧ w'.ownsRow w.heap.size ety 1 v' Y.length (Y.map (Value.int .u8)) ∧ Below w.heap.size w w') := hIm
    have HSp : Hid (∀ (v : Value) (w : World), Reads w v bs → (∀ k, v.ownBlock = some k → k < w.heap.size) → Calls Try.prog 20 #[v] w fun e w' => ∃ v' ety, e = .returned (.agg #[.bool ok, .int .i64 gen, v']) ∧ w'.ownsRow w.heap.size ety 1 v' Y.length (Y.map (Value.int .u8)) ∧ Below w.heap.size w w') := hSp
    clear hIm hSp
    go_enter Try.func5, Try.ntmps5
    go_wp2_with fail
    refine (toBytes_any _ bs _ HR.out (by omega) hv).mono ?_; rintro e w1 ⟨v1, rfl, own1, b1⟩
    have z1 := b1.size
    go_wp2_with fail
    refine (HSp.out v1 _ (Reads.of_own own1).1 (own_old own1)).mono ?_; rintro e w2 ⟨u2, ety2, rfl, own2, b2⟩
    have z2 := b2.size
    obtain ⟨a2, k2, rfl⟩ := own_len own2
    have lt2 : ∀ k, (Value.slice a2 Y.length k2).ownBlock = some k → w1.heap.size ≤ k ∧ k < w2.heap.size := own2.lt
    have B2 : Below w.heap.size w w2 := b1.trans (b2.mono (by omega))
    have bA : Below w2.heap.size w2 (w2.alloc (.cells #[.bool ok, .int .i64 gen, .slice a2 Y.length k2] 39)) := (Below.refl _ w2).alloc (Nat.le_refl _) _
    have fA := heap_alloc_new w2 (.cells #[.bool ok, .int .i64 gen, .slice a2 Y.length k2] 39)
    have BA : Below w.heap.size w (w2.alloc (.cells #[.bool ok, .int .i64 gen, .slice a2 Y.length k2] 39)) := B2.trans (bA.mono (by omega))
    clear own1
    go_wp2_with fail
    refine (toBytes_any _ bs _ (HR.out.below' BA hv) (by omega) (fun k hk => by have := hv k hk; have := BA.size; omega)).mono ?_; rintro e w3 ⟨v3, rfl, own3, b3⟩
    have z3 := b3.size
    simp only [World.size_alloc] at z3 own3 b3
    have lt3 : ∀ k, v3.ownBlock = some k → w2.heap.size + 1 ≤ k ∧ k < w3.heap.size := own3.lt
    have f3 : w3.heap[w2.heap.size]? = some (.cells #[.bool ok, .int .i64 gen, .slice a2 Y.length k2] 39 (0, 0)) := by rw [b3.block _ (by omega)]; exact fA
    have b23 : Below w2.heap.size w2 w3 := bA.trans (b3.mono (by omega))
    go_wp2_with fail
    refine (HIm.out v3 _ (Reads.of_own own3).1 (own_old own3)).mono ?_; rintro e w4 ⟨u4, ety4, rfl, own4, b4⟩
    have z4 := b4.size
    obtain ⟨a4, k4, rfl⟩ := own_len own4
    have lt4 : ∀ k, (Value.slice a4 Y.length k4).ownBlock = some k → w3.heap.size ≤ k ∧ k < w4.heap.size := own4.lt
    have bB : Below w4.heap.size w4 (w4.alloc (.cells #[.bool ok, .int .i64 gen, .slice a4 Y.length k4] 39)) := (Below.refl _ w4).alloc (Nat.le_refl _) _
    have fB := heap_alloc_new w4 (.cells #[.bool ok, .int .i64 gen, .slice a4 Y.length k4] 39)
    have fB3 : (w4.alloc (.cells #[.bool ok, .int .i64 gen, .slice a4 Y.length k4] 39)).heap[w2.heap.size]? = some (.cells #[.bool ok, .int .i64 gen, .slice a2 Y.length k2] 39 (0, 0)) := by rw [bB.block _ (by omega), b4.block _ (by omega)]; exact f3
    have b34 : Below w3.heap.size w3 (w4.alloc (.cells #[.bool ok, .int .i64 gen, .slice a4 Y.length k4] 39)) := b4.trans (bB.mono (by omega))
    have own3B := ownsRow_below own3 b34 (Nat.le_refl _)
    have own2B := ownsRow_below own2 (b23.trans (b34.mono (by omega))) (Nat.le_refl _)
    have own4B := ownsRow_below own4 bB (Nat.le_refl _)
    have BB : Below w.heap.size w (w4.alloc (.cells #[.bool ok, .int .i64 gen, .slice a4 Y.length k4] 39)) := (B2.trans (b23.mono (by omega))).trans (b34.mono (by omega))
    obtain ⟨⟨p0, p1, p2⟩, fp⟩ := b3cells fB3
    have ne1 : w2.heap.size ≠ w4.heap.size := by omega
    have ne2 : w4.heap.size ≠ w2.heap.size := by omega
    clear own2 own3 own4 fA f3
    go_wp2_with fail
    refine (eqPage_same ok gen _ _ Y _ (own_rdb own4B) (own_rdb own2B) (by omega)).mono ?_; rintro e w5 ⟨rfl, b5⟩
    have z5 := b5.size
    simp only [World.size_alloc] at z5
    have own35 := ownsRow_below own3B b5 (Nat.le_refl _)
    have own25 := ownsRow_below own2B b5 (Nat.le_refl _)
    have own45 := ownsRow_below own4B b5 (Nat.le_refl _)
    have f35 : w5.heap[w2.heap.size]? = some (.cells #[.bool ok, .int .i64 gen, .slice a2 Y.length k2] 39 (0, 0)) := by rw [b5.block _ (by simp; omega)]; exact fB3
    have f55 : w5.heap[w4.heap.size]? = some (.cells #[.bool ok, .int .i64 gen, .slice a4 Y.length k4] 39 (0, 0)) := by rw [b5.block _ (by simp)]; exact fB
    have B5 : Below w.heap.size w w5 := BB.trans (b5.mono (by simp; omega))
    clear own2B own3B own4B fB fB3 p0 p1 p2 fp
    go_wp2_with fail
    refine (toBytes_any _ bs _ (HR.out.below' B5 hv) (by omega) (fun k hk => by have := hv k hk; have := B5.size; omega)).mono ?_; rintro e w6 ⟨v6, rfl, own6, b6⟩
    have z6 := b6.size
    have own36 := ownsRow_below own35 b6 (Nat.le_refl _)
    have own26 := ownsRow_below own25 b6 (Nat.le_refl _)
    have own46 := ownsRow_below own45 b6 (Nat.le_refl _)
    have B6 : Below w.heap.size w w6 := B5.trans (b6.mono (by omega))
    have f36 : w6.heap[w2.heap.size]? = some (.cells #[.bool ok, .int .i64 gen, .slice a2 Y.length k2] 39 (0, 0)) := by rw [b6.block _ (by omega)]; exact f35
    have f56 : w6.heap[w4.heap.size]? = some (.cells #[.bool ok, .int .i64 gen, .slice a4 Y.length k4] 39 (0, 0)) := by rw [b6.block _ (by omega)]; exact f55
    clear own25 own35 own45 f35 f55
    go_wp2_with fail
    refine (eqBytes_any _ _ bs bs _ (Reads.of_own own36).1 (Reads.of_own own6).1 (by omega) (by omega)).mono ?_; rintro e w7 ⟨rfl, m7, hw7⟩
    have hd : decide (bs = bs) = true := by simp
    rw [hd]
    clear hd
    have b67 : Below w6.heap.size w6 w7 := by rw [hw7]; exact below_drewN (Below.refl _ _) m7
    have z7 : w7.heap.size = w6.heap.size := by rw [hw7]; rfl
    have own37 := ownsRow_below own36 b67 (Nat.le_refl _)
    have own27 := ownsRow_below own26 b67 (Nat.le_refl _)
    have own47 := ownsRow_below own46 b67 (Nat.le_refl _)
    have f37 : w7.heap[w2.heap.size]? = some (.cells #[.bool ok, .int .i64 gen, .slice a2 Y.length k2] 39 (0, 0)) := by rw [b67.block _ (by omega)]; exact f36
    have f57 : w7.heap[w4.heap.size]? = some (.cells #[.bool ok, .int .i64 gen, .slice a4 Y.length k4] 39 (0, 0)) := by rw [b67.block _ (by omega)]; exact f56
    have B7 : Below w.heap.size w w7 := B6.trans (b67.mono (by omega))
    clear hw7 own26 own36 own46 f36 f56 own6
    go_wp2_with fail
    refine (mark_but (w2.heap.size + 1) v3 bs 1 _ (by omega) (by omega) (by omega) own37).mono ?_; rintro e w8 ⟨rfl, _, b8⟩
    have z8 := b8.size
    have own28 := own_same own27 (fun k hk => b8.block k (fun e => by have := lt3 k e; have := lt2 k hk; omega))
    have own48 := own_same own47 (fun k hk => b8.block k (fun e => by have := lt3 k e; have := lt4 k hk; omega))
    have f38 : w8.heap[w2.heap.size]? = some (.cells #[.bool ok, .int .i64 gen, .slice a2 Y.length k2] 39 (0, 0)) := by rw [b8.block _ (fun e => by have := lt3 _ e; omega)]; exact f37
    have f58 : w8.heap[w4.heap.size]? = some (.cells #[.bool ok, .int .i64 gen, .slice a4 Y.length k4] 39 (0, 0)) := by rw [b8.block _ (fun e => by have := lt3 _ e; omega)]; exact f57
    have B8 : Below w.heap.size w w8 := B7.trans (b8.below (fun k e => by have := lt3 k e; omega))
    have hneg : ¬ (1 + (bs.length : Int) < 0) := by omega
    obtain ⟨⟨p0, p1, p2⟩, fp⟩ := b3cells f38
    obtain ⟨⟨s0, s1, s2⟩, fs⟩ := b3cells f58
    clear own27 own37 own47 f37 f57
    go_wp2_with fail
    refine (eqPage_same ok gen _ _ Y _ (own_rdb own48) (own_rdb own28) (by omega)).mono ?_; rintro e w9 ⟨rfl, b9⟩
    have z9 := b9.size
    have own29 := ownsRow_below own28 b9 (Nat.le_refl _)
    have own49 := ownsRow_below own48 b9 (Nat.le_refl _)
    have f39 : w9.heap[w2.heap.size]? = some (.cells #[.bool ok, .int .i64 gen, .slice a2 Y.length k2] 39 (0, 0)) := by rw [b9.block _ (by omega)]; exact f38
    have f59 : w9.heap[w4.heap.size]? = some (.cells #[.bool ok, .int .i64 gen, .slice a4 Y.length k4] 39 (0, 0)) := by rw [b9.block _ (by omega)]; exact f58
    have B9 : Below w.heap.size w w9 := B8.trans (b9.mono (by omega))
    clear own28 own48 f38 f58 p0 p1 p2 fp s0 s1 s2 fs
    obtain ⟨⟨s0, s1, s2⟩, fs⟩ := b3cells f59
    go_wp2_with fail
    refine (markPage_but w3.heap.size ok gen _ Y 1 _ (by omega) (by omega) (by omega) own49).mono ?_; rintro e w10 ⟨rfl, own410, kp10⟩
    have z10 := kp10.size
    have own210 := own_same own29 (fun k hk => kp10.block k (own29.lt k hk).2 (fun e => by have := lt4 k e; have := lt2 k hk; omega))
    have f310 : w10.heap[w2.heap.size]? = some (.cells #[.bool ok, .int .i64 gen, .slice a2 Y.length k2] 39 (0, 0)) := by rw [kp10.block _ (by omega) (fun e => by have := lt4 _ e; omega)]; exact f39
    have f510 : w10.heap[w4.heap.size]? = some (.cells #[.bool ok, .int .i64 gen, .slice a4 Y.length k4] 39 (0, 0)) := by rw [kp10.block _ (by omega) (fun e => by have := lt4 _ e; omega)]; exact f59
    have B10 : Below w.heap.size w w10 := B9.trans (kp10.below (by omega) (fun k e => by have := lt4 k e; omega))
    have hmk : (marks 1 Y.length).length = Y.length := marks_length _ _
    clear own29 own49 f39 f59 s0 s1 s2 fs kp10
    obtain ⟨⟨s0, s1, s2⟩, fs⟩ := b3cells f510
    go_wp2_with fail
    refine (heldPage_any ok gen _ 1 Y.length _ (by omega) (by omega) (by omega) (own_rdb own410)).mono ?_; rintro e w11 ⟨rfl, b11⟩
    have z11 := b11.size
    have own211 := ownsRow_below own210 b11 (Nat.le_refl _)
    have own411 := ownsRow_below own410 b11 (Nat.le_refl _)
    have f311 : w11.heap[w2.heap.size]? = some (.cells #[.bool ok, .int .i64 gen, .slice a2 Y.length k2] 39 (0, 0)) := by rw [b11.block _ (by omega)]; exact f310
    have f511 : w11.heap[w4.heap.size]? = some (.cells #[.bool ok, .int .i64 gen, .slice a4 Y.length k4] 39 (0, 0)) := by rw [b11.block _ (by omega)]; exact f510
    have B11 : Below w.heap.size w w11 := B10.trans (b11.mono (by omega))
    have hne : ((1 : Int) + Y.length != 1 + Y.length) = false := by simp
    have hq : ¬ ((1 : Int) + Y.length < 0) := by omega
    clear own210 own410 f310 f510 s0 s1 s2 fs
    go_wp2_with fail
    refine (toBytes_any _ bs _ (HR.out.below' B11 hv) (by omega) (fun k hk => by have := hv k hk; have := B11.size; omega)).mono ?_; rintro e w12 ⟨v12, rfl, own12, b12⟩
    have z12 := b12.size
    go_wp2_with fail
    refine (HIm.out v12 _ (Reads.of_own own12).1 (own_old own12)).mono ?_; rintro e w13 ⟨u13, ety13, rfl, own13, b13⟩
    have z13 := b13.size
    obtain ⟨a13, k13, rfl⟩ := own_len own13
    have b1113 : Below w11.heap.size w11 w13 := b12.trans (b13.mono (by omega))
    have bC : Below w13.heap.size w13 (w13.alloc (.cells #[.bool ok, .int .i64 gen, .slice a13 Y.length k13] 39)) := (Below.refl _ w13).alloc (Nat.le_refl _) _
    have b11C : Below w11.heap.size w11 (w13.alloc (.cells #[.bool ok, .int .i64 gen, .slice a13 Y.length k13] 39)) := b1113.trans (bC.mono (by omega))
    have own2C := ownsRow_below own211 b11C (Nat.le_refl _)
    have own4C := ownsRow_below own411 b11C (Nat.le_refl _)
    have own13C := ownsRow_below own13 bC (Nat.le_refl _)
    have f3C : (w13.alloc (.cells #[.bool ok, .int .i64 gen, .slice a13 Y.length k13] 39)).heap[w2.heap.size]? = some (.cells #[.bool ok, .int .i64 gen, .slice a2 Y.length k2] 39 (0, 0)) := by rw [b11C.block _ (by omega)]; exact f311
    have f5C : (w13.alloc (.cells #[.bool ok, .int .i64 gen, .slice a13 Y.length k13] 39)).heap[w4.heap.size]? = some (.cells #[.bool ok, .int .i64 gen, .slice a4 Y.length k4] 39 (0, 0)) := by rw [b11C.block _ (by omega)]; exact f511
    have ne3 : w2.heap.size ≠ w13.heap.size := by omega
    obtain ⟨⟨p0, p1, p2⟩, fp⟩ := b3cells f3C
    clear own211 own411 own13 own12 f311 f511
    go_wp2_with fail
    refine (eqPage_same ok gen _ _ Y _ (own_rdb own13C) (own_rdb own2C) (by omega)).mono ?_; rintro e w14 ⟨rfl, b14⟩
    have z14 := b14.size
    simp only [World.size_alloc] at z14
    have own414 := ownsRow_below own4C b14 (Nat.le_refl _)
    have f514 : w14.heap[w4.heap.size]? = some (.cells #[.bool ok, .int .i64 gen, .slice a4 Y.length k4] 39 (0, 0)) := by rw [b14.block _ (by simp; omega)]; exact f5C
    have B14 : Below w.heap.size w w14 := (B11.trans (b11C.mono (by omega))).trans (b14.mono (by simp; omega))
    clear p0 p1 p2 fp
    obtain ⟨⟨s0, s1, s2⟩, fs⟩ := b3cells f514
    go_wp2_with fail
    refine (heldPage_any ok gen _ 1 Y.length _ (by omega) (by omega) (by omega) (own_rdb own414)).mono ?_; rintro e w15 ⟨rfl, b15⟩
    go_wp2
    go_ret
    exact ⟨rfl, B14.trans (b15.mono (by omega))⟩

set_option maxRecDepth 100000 in
theorem liftedPageOf (os : Os) (started : os.Started) (H : Type) (enc : TypeId × Value → H) :
    ReturnsInHanded {} Try.checked os 5 .any (Rows.fnExactPageOfSpec.pre6 enc Try.prog Try.f5 Rows.fnExactPageOfRow.domain false) (Rows.fnExactPageOfSpec.post enc Try.prog Try.f5 false true false false) := by
  refine returnsInHanded_of_change (C := Try.checked) own started (by kernel_rfl) Try.func5
    (ChangeSpec.witness6 (enc := enc) (C := Try.checked) false ⟨#[], #[.slice none 0 0], []⟩ 8 (by kernel_rfl) (by kernel_rfl) (by kernel_rfl) (by kernel_rfl)) ?_
  intro W base args ds gs before hval0 hW hcnd _
  have hval : ∀ (j : Nat) t v, Try.f5.params[j]? = some t → args[j]? = some v → Value.okWide Try.prog W .any base t v := hval0
  have hW' := hW
  obtain ⟨p, q, hA0, hV, rfl, hfz, hnd⟩ := hW
  have hA : DataW.TrodAll enc Try.prog W 0 (fun _ => true) true Try.f5.params.toList args.toList ds p := hA0
  rw [Try.params5] at hA hval
  obtain ⟨v0, vs0, d0, ds0, p0, q0, hargs, rfl, rfl, h0, r0⟩ := trodAll_cons hA
  obtain ⟨rfl, rfl, rfl⟩ := trodAll_nil r0
  obtain rfl : args = #[v0] := by cases args; simp_all
  obtain ⟨rfl, rfl⟩ := trodVars_none hV
  have k0 := h0
  have lt0 : ∀ x ∈ p0, x.block < W.heap.size := by obtain ⟨m, hm⟩ := k0; exact DataW.trod_lt m _ _ _ hm
  obtain ⟨a0, len0, cap0, rfl⟩ := okWide_slice Try.underlying34 (hval 0 34 v0 rfl rfl)
  obtain ⟨fuel, hf⟩ := h0
  obtain ⟨v1, bs, e1, hrd, hby⟩ := trod_bytes hf
  simp [Value.cells] at e1
  subst e1
  clear hA0 hval0
  refine (walkPageOf _ bs W hrd.1 hby hrd.1.le' (fun k hk => hrd.2 k hk)).mono fun e W' ⟨he, bel⟩ => ?_
  subst he
  exact ⟨_, rfl, _, _, _, [], _, [], hW', trodAll_mk1 (shut_bool Try.underlying4 _), (trodAll_cons_mk (Below.trod laidOut (by kernel_rfl) (of_decide_eq_true (by kernel_rfl)) k0 bel lt0) trodAll_mk0), rfl, bel.frame _, fun h => by cases h⟩

theorem pageOf_holds : Rows.FnExactPageOfSaid :=
  OpenClaim.holds_of_wide 5 Try.f5 rfl rfl rfl rfl rfl rfl rfl ⟨rfl, rfl, rfl, rfl, rfl⟩ rfl rfl rfl rfl rfl (by kernel_rfl) Try.func5 (by kernel_rfl)
    (of_decide_eq_true (by kernel_rfl)) (by unfold Func.isWrapper; first | (rw [if_pos (by decide +kernel)]; kernel_rfl) | (rw [if_neg (by decide +kernel)]; exact ⟨rfl, rfl⟩))
    (fun os started H enc _ => liftedPageOf os started H enc)
#print axioms pageOf_holds
end Go.Proofs.YtepagknkhlpicabRRRR
