/-
  The law FnExactPageBlock.
-/
import Derived.Test.YtepagknkhlpicabRRRRPageLaw
import Derived.Deep.RegionHeld3
namespace Go.Proofs.YtepagknkhlpicabRRRR
open Go.ChangeShapes Go.WideShapes Go.ChangeAt Go.RowKit
set_option linter.unusedVariables false
set_option linter.unusedSimpArgs false
attribute [local go_sem ↓] Go.wp_at_zero Go.wp_at_succ

set_option maxRecDepth 5000 in
set_option maxHeartbeats 8000000 in
theorem walkPageBlock (ok : Bool) (gen : Int) (v : Value) (bs : List Int) (w : World) (h : RdB w.heap.size w v bs) (hbs : Byt bs) :
    Calls Try.prog 4 #[.agg #[.bool ok, .int .i64 gen, v]] w fun e w' => e = .returned (.bool true) ∧ Below w.heap.size w w' := by
  have hml := h.1.le
  obtain ⟨a0, c0, rfl⟩ : ∃ a cap, v = .slice a bs.length cap := by obtain ⟨a, cap, e, _⟩ := h.1; exact ⟨a, cap, e⟩
  have bA := (Below.refl _ w).alloc (Nat.le_refl _) (.cells #[.bool ok, .int .i64 gen, .slice a0 bs.length c0] 36)
  have gA := heap_alloc_new w (.cells #[.bool ok, .int .i64 gen, .slice a0 bs.length c0] 36)
  have HR : Hid (RdB w.heap.size w (.slice a0 bs.length c0) bs) := h
  have hPl := pageOf_length ok gen bs
  unfold maxLen at hml
  clear h
  go_enter Try.func4, Try.ntmps4
  go_wp2_with fail
  refine (szPage_any ok gen _ bs _ _ ((HR.out.below bA).mono (by simp)) (by omega) (by omega)).mono ?_; rintro e w1 ⟨rfl, b1⟩
  have z1 := b1.size
  simp only [World.size_alloc] at z1
  have B1 : Below w.heap.size w w1 := bA.trans (b1.mono (by simp))
  by_cases hsz : (bs.length : Int) ≤ 1048576
  · rw [if_pos hsz]
    have hlt : ¬ (1048576 - (bs.length : Int) < 0) := by omega
    have g1 : w1.heap[w.heap.size]? = some (.cells #[.bool ok, .int .i64 gen, .slice a0 bs.length c0] 36 (0, 0)) := by rw [b1.block _ (by simp)]; exact gA
    obtain ⟨⟨p0, p1, p2⟩, fp⟩ := b3cells g1
    go_wp2_with fail
    refine (toPage_any w.heap.size ok gen _ bs _ (HR.out.below B1) (by omega) (by omega)).mono ?_; rintro e w2 ⟨v2, rfl, own2, b2⟩
    have z2 := b2.size
    obtain ⟨a2, k2, rfl⟩ := own_len own2
    go_wp2_with fail
    refine (specPageBlock_any ok gen a2 k2 bs _ (by unfold maxLen; omega) (own_rdb' own2) (own_nil own2) hbs).mono ?_; rintro e w3 ⟨v3, rfl, own3, b3⟩
    have z3 := b3.size
    have B3 : Below w.heap.size w w3 := (B1.trans (b2.mono (by omega))).trans (b3.mono (by omega))
    have g3 : w3.heap[w.heap.size]? = some (.cells #[.bool ok, .int .i64 gen, .slice a0 bs.length c0] 36 (0, 0)) := by rw [b3.block _ (by omega), b2.block _ (by omega)]; exact g1
    clear p0 p1 p2 fp
    obtain ⟨⟨p0, p1, p2⟩, fp⟩ := b3cells g3
    go_wp2_with fail
    refine (toPage_any w.heap.size ok gen _ bs _ (HR.out.below B3) (by omega) (by omega)).mono ?_; rintro e w4 ⟨v4, rfl, own4, b4⟩
    have z4 := b4.size
    obtain ⟨a4, k4, rfl⟩ := own_len own4
    have lt4 : ∀ k, (Value.slice a4 bs.length k4).ownBlock = some k → w3.heap.size ≤ k ∧ k < w4.heap.size := own4.lt
    have lt3 : ∀ k, v3.ownBlock = some k → w2.heap.size ≤ k ∧ k < w3.heap.size := own3.lt
    have bX : Below w4.heap.size w4 (w4.alloc (.cells #[.bool ok, .int .i64 gen, .slice a4 bs.length k4] 39)) := (Below.refl _ w4).alloc (Nat.le_refl _) _
    have gX := heap_alloc_new w4 (.cells #[.bool ok, .int .i64 gen, .slice a4 bs.length k4] 39)
    clear p0 p1 p2 fp
    go_wp2_with fail
    refine (implPageBlock_any ok gen a4 k4 bs _ (by unfold maxLen; omega) (own_rdb' (ownsRow_below own4 bX (Nat.le_refl _))) hbs).mono ?_; rintro e w5 ⟨v5, ety, rfl, own5, b5⟩
    have z5 := b5.size
    simp only [World.size_alloc] at z5 own5 b5
    have lt5 : ∀ k, v5.ownBlock = some k → w4.heap.size + 1 ≤ k ∧ k < w5.heap.size := own5.lt
    have B45 : Below w4.heap.size w4 w5 := bX.trans (b5.mono (by omega))
    have B35 : Below w3.heap.size w3 w5 := b4.trans (B45.mono (by omega))
    have own35 := ownsRow_below own3 B35 (Nat.le_refl _)
    have own45 := ownsRow_below own4 B45 (Nat.le_refl _)
    have B5 : Below w.heap.size w w5 := B3.trans (B35.mono (by omega))
    have g5 : w5.heap[w.heap.size]? = some (.cells #[.bool ok, .int .i64 gen, .slice a0 bs.length c0] 36 (0, 0)) := by rw [B35.block _ (by omega)]; exact g3
    have gX5 : w5.heap[w4.heap.size]? = some (.cells #[.bool ok, .int .i64 gen, .slice a4 bs.length k4] 39 (0, 0)) := by rw [b5.block _ (by omega)]; exact gX
    go_wp2_with fail
    refine (eqBytes_any _ _ _ _ _ (Reads.of_own own5).1 (Reads.of_own own35).1 (by omega) (by omega)).mono ?_; rintro e w6 ⟨rfl, m6, hw6⟩
    have hd : decide (pageOf ok gen bs = pageOf ok gen bs) = true := by simp
    rw [hd]
    clear hd
    have b56 : Below w5.heap.size w5 w6 := by rw [hw6]; exact below_drewN (Below.refl _ _) m6
    have z6 : w6.heap.size = w5.heap.size := by rw [hw6]; rfl
    have own56 := ownsRow_below own5 b56 (Nat.le_refl _)
    have own36 := ownsRow_below own35 b56 (Nat.le_refl _)
    have own46 := ownsRow_below own45 b56 (Nat.le_refl _)
    have B6 : Below w.heap.size w w6 := B5.trans (b56.mono (by omega))
    have g6 : w6.heap[w.heap.size]? = some (.cells #[.bool ok, .int .i64 gen, .slice a0 bs.length c0] 36 (0, 0)) := by rw [b56.block _ (by omega)]; exact g5
    have gX6 : w6.heap[w4.heap.size]? = some (.cells #[.bool ok, .int .i64 gen, .slice a4 bs.length k4] 39 (0, 0)) := by rw [b56.block _ (by omega)]; exact gX5
    clear hw6 own5 own35 own45 g5 gX5 gX own3 own4 g3 g1 gA
    obtain ⟨⟨p0, p1, p2⟩, fp⟩ := b3cells g6
    obtain ⟨⟨x0, x1, x2⟩, fx⟩ := b3cells gX6
    have HK : Hid (∀ W, Below w6.heap.size w6 W → W.cell? ⟨w.heap.size, 0, none⟩ = some (.bool ok) ∧ W.cell? ⟨w.heap.size, 1, none⟩ = some (.int .i64 gen) ∧ W.cell? ⟨w.heap.size, 2, none⟩ = some (.slice a0 bs.length c0) ∧ W.cell? ⟨w4.heap.size, 0, none⟩ = some (.bool ok) ∧ W.cell? ⟨w4.heap.size, 1, none⟩ = some (.int .i64 gen) ∧ W.cell? ⟨w4.heap.size, 2, none⟩ = some (.slice a4 bs.length k4)) := fun W hW =>
      ⟨by rw [hW.cell (p := ⟨w.heap.size, 0, none⟩) (show w.heap.size < _ by omega)]; exact p0, by rw [hW.cell (p := ⟨w.heap.size, 1, none⟩) (show w.heap.size < _ by omega)]; exact p1, by rw [hW.cell (p := ⟨w.heap.size, 2, none⟩) (show w.heap.size < _ by omega)]; exact p2,
       by rw [hW.cell (p := ⟨w4.heap.size, 0, none⟩) (show w4.heap.size < _ by omega)]; exact x0, by rw [hW.cell (p := ⟨w4.heap.size, 1, none⟩) (show w4.heap.size < _ by omega)]; exact x1, by rw [hW.cell (p := ⟨w4.heap.size, 2, none⟩) (show w4.heap.size < _ by omega)]; exact x2⟩
    have HHT : Hid (∀ W, W = w6.drew → Calls Try.prog 13 #[.agg #[.bool ok, .int .i64 gen, .slice a0 bs.length c0]] W fun e w' => ∃ v', e = .returned (.agg #[.bool ok, .int .i64 gen, v']) ∧ w'.ownsRow w6.heap.size 5 1 v' bs.length (bs.map (Value.int .u8)) ∧ Below w6.heap.size w6.drew w') := by
      rintro W rfl
      exact toPage_any w.heap.size ok gen _ bs w6.drew (HR.out.below B6.drew) (show w.heap.size ≤ w6.heap.size by omega) (by omega)
    have HHE : Hid (∀ w7 v7, w7.ownsRow w6.heap.size 5 1 v7 bs.length (bs.map (Value.int .u8)) → Below w6.heap.size w6.drew w7 → Calls Try.prog 16 #[.agg #[.bool ok, .int .i64 gen, .slice a4 bs.length k4], .agg #[.bool ok, .int .i64 gen, v7]] w7 fun e w' => e = .returned (.bool true) ∧ Below w7.heap.size w7 w') := by
      intro w7 v7 o7 b7
      exact eqPage_same ok gen _ _ bs w7 (own_rdb (ownsRow_below own46 (undrew b7) (Nat.le_refl _))) (own_rdb o7) (by omega)
    clear fp fx
    go_wp2
    go_region_held3 (fun w' => w'.cell? ⟨w.heap.size, 0, none⟩ = some (.bool ok) ∧ w'.cell? ⟨w.heap.size, 1, none⟩ = some (.int .i64 gen) ∧ w'.cell? ⟨w.heap.size, 2, none⟩ = some (.slice a0 bs.length c0) ∧ w'.cell? ⟨w4.heap.size, 0, none⟩ = some (.bool ok) ∧ w'.cell? ⟨w4.heap.size, 1, none⟩ = some (.int .i64 gen) ∧ w'.cell? ⟨w4.heap.size, 2, none⟩ = some (.slice a4 bs.length k4)) (first | exact ⟨p0, p1, p2, x0, x1, x2⟩ | exact HK.out _ (undrew b7) | exact HK.out _ ((undrew b7).trans (b8.mono b7.size)))
      ((first | (go_at_call 13; refine (HHT.out _ rfl).mono ?_; rintro e w7 ⟨v7, rfl, o7, b7⟩) | (go_at_call 16; refine (HHE.out _ _ o7 b7).mono ?_; rintro e w8 ⟨rfl, b8⟩)))
    have b68 : Below w6.heap.size w6 w8 := (undrew b7).trans (b8.mono b7.size)
    have z8 := b68.size
    have own58 := ownsRow_below own56 b68 (by omega)
    have own38 := ownsRow_below own36 b68 (by omega)
    have own48 := ownsRow_below own46 b68 (by omega)
    have g8 : w8.heap[w.heap.size]? = some (.cells #[.bool ok, .int .i64 gen, .slice a0 bs.length c0] 36 (0, 0)) := by rw [b68.block _ (by omega)]; exact g6
    clear own56 own36 own46 HHE HHT HK p0 p1 p2 b7 b8 o7
    obtain ⟨x0, x1, x2⟩ : w8.cell? ⟨w4.heap.size, 0, none⟩ = some (.bool ok) ∧ w8.cell? ⟨w4.heap.size, 1, none⟩ = some (.int .i64 gen) ∧ w8.cell? ⟨w4.heap.size, 2, none⟩ = some (.slice a4 bs.length k4) := by
      have : w8.heap[w4.heap.size]? = some (.cells #[.bool ok, .int .i64 gen, .slice a4 bs.length k4] 39 (0, 0)) := by rw [b68.block _ (by omega)]; exact gX6
      exact (b3cells this).1
    go_wp2_with fail
    refine (markPage_but w3.heap.size ok gen _ bs 1 _ (by omega) (by omega) (by omega) own48).mono ?_; rintro e w9 ⟨rfl, _, kp9⟩
    have z9 := kp9.size
    have own59 := own_same own58 (fun k hk => kp9.block k (own58.lt k hk).2 (fun e => by have := lt4 k e; have := lt5 k hk; omega))
    have own39 := own_same own38 (fun k hk => kp9.block k (own38.lt k hk).2 (fun e => by have := lt4 k e; have := lt3 k hk; omega))
    have g9 : w9.heap[w.heap.size]? = some (.cells #[.bool ok, .int .i64 gen, .slice a0 bs.length c0] 36 (0, 0)) := by rw [kp9.block _ (by omega) (fun e => by have := lt4 _ e; omega)]; exact g8
    have B9 : Below w.heap.size w w9 := (B6.trans (b68.mono (by omega))).trans (kp9.below (by omega) (fun k e => by have := lt4 k e; omega))
    have hneg : ¬ (1 + (bs.length : Int) < 0) := by omega
    clear own58 own38 own48 x0 x1 x2 kp9
    go_wp2_with fail
    refine (eqBytes_any _ _ _ _ _ (Reads.of_own own59).1 (Reads.of_own own39).1 (by omega) (by omega)).mono ?_; rintro e w10 ⟨rfl, m10, hw10⟩
    have hd : decide (pageOf ok gen bs = pageOf ok gen bs) = true := by simp
    rw [hd]
    clear hd
    have b910 : Below w9.heap.size w9 w10 := by rw [hw10]; exact below_drewN (Below.refl _ _) m10
    have z10 : w10.heap.size = w9.heap.size := by rw [hw10]; rfl
    have own5a := ownsRow_below own59 b910 (Nat.le_refl _)
    have own3a := ownsRow_below own39 b910 (Nat.le_refl _)
    clear hw10
    go_wp2_with fail
    refine (mark_but (w4.heap.size + 1) v5 _ 1 _ (by omega) (by omega) (by omega) own5a).mono ?_; rintro e w11 ⟨rfl, own11, b11⟩
    have z11 := b11.size
    have own3b := own_same own3a (fun k hk => b11.block k (fun e => by have := lt5 k e; have := lt3 k hk; omega))
    have g11 : w11.heap[w.heap.size]? = some (.cells #[.bool ok, .int .i64 gen, .slice a0 bs.length c0] 36 (0, 0)) := by rw [b11.block _ (fun e => by have := lt5 _ e; omega), b910.block _ (by omega)]; exact g9
    have B11 : Below w.heap.size w w11 := (B9.trans (b910.mono (by omega))).trans (b11.below (fun k e => by have := lt5 k e; omega))
    have hmk : (marks 1 (pageOf ok gen bs).length).length = (pageOf ok gen bs).length := marks_length _ _
    have r11 := Reads.of_own own11
    go_wp2_with fail
    refine (held_any v5 1 _ _ (by omega) (by omega) (by omega) r11.1).mono ?_; rintro e w12 ⟨rfl, rfl⟩
    have hne : ((1 : Int) + (pageOf ok gen bs).length != 1 + (pageOf ok gen bs).length) = false := by simp
    have hq : ¬ ((1 : Int) + (pageOf ok gen bs).length < 0) := by omega
    obtain ⟨⟨p0, p1, p2⟩, fp⟩ := b3cells g11
    clear own5a own3a own59 own39
    go_wp2_with fail
    refine (toPage_any w.heap.size ok gen _ bs _ (HR.out.below B11) (by omega) (by omega)).mono ?_; rintro e w13 ⟨v13, rfl, own13, b13⟩
    have z13 := b13.size
    obtain ⟨a13, k13, rfl⟩ := own_len own13
    clear p0 p1 p2 fp
    go_wp2_with fail
    refine (implPageBlock_any ok gen a13 k13 bs _ (by unfold maxLen; omega) (own_rdb' own13) hbs).mono ?_; rintro e w14 ⟨v14, ety14, rfl, own14, b14⟩
    have z14 := b14.size
    have bE : Below w12.heap.size w12 w14 := b13.trans (b14.mono (by omega))
    have own3c := ownsRow_below own3b bE (Nat.le_refl _)
    have own11c := ownsRow_below own11 bE (Nat.le_refl _)
    go_wp2_with fail
    refine (eqBytes_any _ _ _ _ _ (Reads.of_own own14).1 (Reads.of_own own3c).1 (by omega) (by omega)).mono ?_; rintro e w15 ⟨rfl, m15, rfl⟩
    have hd : decide (pageOf ok gen bs = pageOf ok gen bs) = true := by simp
    rw [hd]
    clear hd
    have r15 : Reads (w14.drewN m15) v5 (marks 1 (pageOf ok gen bs).length) := (Reads.of_own own11c).1
    go_wp2_with fail
    refine (held_any v5 1 _ _ (by omega) (by omega) (by omega) r15).mono ?_; rintro e w16 ⟨rfl, rfl⟩
    go_wp2
    go_ret
    exact ⟨rfl, below_drewN (B11.trans (bE.mono (by omega))) _⟩
  · rw [if_neg hsz]
    go_wp2
    go_ret
    exact ⟨rfl, B1⟩

set_option maxRecDepth 100000 in
theorem liftedPageBlock (os : Os) (started : os.Started) (H : Type) (enc : TypeId × Value → H) :
    ReturnsInHanded {} Try.checked os 4 .any (Rows.fnExactPageBlockSpec.pre6 enc Try.prog Try.f4 Rows.fnExactPageBlockRow.domain false) (Rows.fnExactPageBlockSpec.post enc Try.prog Try.f4 false true false false) := by
  refine returnsInHanded_of_change (C := Try.checked) own started (by kernel_rfl) Try.func4
    (ChangeSpec.witness6 (enc := enc) (C := Try.checked) false ⟨#[], #[.agg #[.bool false, .int .i64 0, .slice none 0 0]], []⟩ 8 (by kernel_rfl) (by kernel_rfl) (by kernel_rfl) (by kernel_rfl)) ?_
  intro W base args ds gs before hval0 hW hcnd _
  have hval : ∀ (j : Nat) t v, Try.f4.params[j]? = some t → args[j]? = some v → Value.okWide Try.prog W .any base t v := hval0
  have hW' := hW
  obtain ⟨p, q, hA0, hV, rfl, hfz, hnd⟩ := hW
  have hA : DataW.TrodAll enc Try.prog W 0 (fun _ => true) true Try.f4.params.toList args.toList ds p := hA0
  rw [Try.params4] at hA hval
  obtain ⟨v0, vs0, d0, ds0, p0, q0, hargs, rfl, rfl, h0, r0⟩ := trodAll_cons hA
  obtain ⟨rfl, rfl, rfl⟩ := trodAll_nil r0
  obtain rfl : args = #[v0] := by cases args; simp_all
  obtain ⟨rfl, rfl⟩ := trodVars_none hV
  have k0 := h0
  have lt0 : ∀ x ∈ p0, x.block < W.heap.size := by obtain ⟨m, hm⟩ := k0; exact DataW.trod_lt m _ _ _ hm
  obtain ⟨ok, gen, v1, bs, rfl, hrd, hby⟩ := open_page (hval 0 36 v0 rfl rfl) h0
  clear hA0 hval0
  refine (walkPageBlock ok gen v1 bs W hrd hby).mono fun e W' ⟨he, bel⟩ => ?_
  subst he
  exact ⟨_, rfl, _, _, _, [], _, [], hW', trodAll_mk1 (shut_bool Try.underlying4 _), (trodAll_cons_mk (Below.trod laidOut (by kernel_rfl) (of_decide_eq_true (by kernel_rfl)) k0 bel lt0) trodAll_mk0), rfl, bel.frame _, fun h => by cases h⟩

theorem pageBlock_holds : Rows.FnExactPageBlockSaid :=
  OpenClaim.holds_of_wide 4 Try.f4 rfl rfl rfl rfl rfl rfl rfl ⟨rfl, rfl, rfl, rfl, rfl⟩ rfl rfl rfl rfl rfl (by kernel_rfl) Try.func4 (by kernel_rfl)
    (of_decide_eq_true (by kernel_rfl)) (by unfold Func.isWrapper; first | (rw [if_pos (by decide +kernel)]; kernel_rfl) | (rw [if_neg (by decide +kernel)]; exact ⟨rfl, rfl⟩))
    (fun os started H enc _ => liftedPageBlock os started H enc)
#print axioms pageBlock_holds
end Go.Proofs.YtepagknkhlpicabRRRR
