/-
  The law FnExactCounts, over what impl.Counts keeps to.
-/
import Derived.Test.YtepagknkhlpicacNoteOpen
namespace Go.Proofs.Ytepagknkhlpicac
open Go.ChangeShapes Go.WideShapes Go.ChangeAt Go.RowKit Go.Deep
set_option linter.unusedVariables false
set_option linter.unusedSimpArgs false

theorem Kp.below' {S : Nat → Prop} {w w' : World} (h : Kp S w w') {B : Nat} (hB : B ≤ w.heap.size) (hS : ∀ k, S k → B ≤ k) : Below B w w' := h.below hB hS
theorem own_at {w w' : World} {lo e size : Nat} {v : Value} {n : Nat} {xs : List Value} {B : Nat} (h : w.ownsRow lo e size v n xs) (hb : Below B w w') (hB : w.heap.size ≤ B) : w'.ownsRow lo e size v n xs := own_same h (fun k hk => hb.block k (by have := (h.lt k hk).2; omega))
theorem own_kept {S : Nat → Prop} {w w' : World} {lo e size : Nat} {v : Value} {n : Nat} {xs : List Value} (h : w.ownsRow lo e size v n xs) (hb : Kp S w w') (hS : ∀ k, v.ownBlock = some k → ¬ S k) : w'.ownsRow lo e size v n xs := own_same h (fun k hk => hb.block k (h.lt k hk).2 (hS k hk))

set_option maxRecDepth 5000 in
set_option maxHeartbeats 4000000 in
theorem walkCounts (hI0 : CountsC 17) (hS0 : CountsC 16) (v : Value) (ns : List ND) (w : World) (hG : Grd w) (h : RNS w.heap.size w v ns) (hs : ∀ d ∈ ns, d.s.size ≤ maxLen) :
    Calls Try.prog 4 #[v] w fun e w' => e = .returned (.bool true) ∧ Below w.heap.size w w' := by
  have hI : ∀ (N : Nat) (v : Value) (W : World), Below w.heap.size w W → RNS N W v ns → N ≤ W.heap.size → ns.length ≤ 100000000 → Calls Try.prog 17 #[v] W fun e w' => ∃ vo, e = .returned vo ∧ w'.ownsRow W.heap.size 58 3 vo (countsL ns).length (cCells (countsL ns)) ∧ Below W.heap.size W w' := fun N v W hW h1 h2 h3 => hI0 N v ns W (hG.below hW) h1 h2 h3
  have hSp : ∀ (N : Nat) (v : Value) (W : World), Below w.heap.size w W → RNS N W v ns → N ≤ W.heap.size → ns.length ≤ 100000000 → Calls Try.prog 16 #[v] W fun e w' => ∃ vo, e = .returned vo ∧ w'.ownsRow W.heap.size 58 3 vo (countsL ns).length (cCells (countsL ns)) ∧ Below W.heap.size W w' := fun N v W hW h1 h2 h3 => hS0 N v ns W (hG.below hW) h1 h2 h3
  have HR : Hid (RNS w.heap.size w v ns) := h
  have hcl : (countsL ns).length ≤ 101 := countsN_length ns 101
  generalize countsL ns = C at hI hSp hcl
  have HI : Hid (∀ (N : Nat) (v : Value) (W : World), Below w.heap.size w W → RNS N W v ns → N ≤ W.heap.size → ns.length ≤ 100000000 → Calls Try.prog 17 #[v] W fun e w' => ∃ vo, e = .returned vo ∧ w'.ownsRow W.heap.size 58 3 vo C.length (cCells C) ∧ Below W.heap.size W w') := hI
  have HSp : Hid (∀ (N : Nat) (v : Value) (W : World), Below w.heap.size w W → RNS N W v ns → N ≤ W.heap.size → ns.length ≤ 100000000 → Calls Try.prog 16 #[v] W fun e w' => ∃ vo, e = .returned vo ∧ w'.ownsRow W.heap.size 58 3 vo C.length (cCells C) ∧ Below W.heap.size W w') := hSp
  obtain ⟨a, cap, rfl⟩ : ∃ a cap, v = .slice a ns.length cap := by obtain ⟨a, cap, e, _⟩ := h; exact ⟨a, cap, e⟩
  clear h hI0 hS0 hI hSp
  go_enter Try.func4, Try.ntmps4
  go_wp2_with fail
  refine (szNoteS_any w.heap.size _ ns 1048576 _ HR.out hs (Nat.le_refl _) (by omega) (by omega)).mono ?_; rintro e w1 ⟨z, rfl, hz, B1⟩
  rcases hz with rfl | ⟨hz0, hz⟩
  · go_wp2
    go_ret
    exact ⟨rfl, B1⟩
  · have hsum := sumN_mem ns
    have hl : ns.length ≤ 1048576 := by omega
    have z1 := B1.size
    clear hz hsum hs
    go_wp2_with fail
    refine (toNoteS_any w.heap.size _ ns _ (HR.out.below B1) (by omega) (by omega)).mono ?_; rintro e w2 ⟨v2, rfl, own2, b2⟩
    have z2 := b2.size
    go_wp2_with fail
    refine (HSp.out w2.heap.size _ _ (B1.trans (b2.mono (by omega))) (own_rns own2) (Nat.le_refl _) (by omega)).mono ?_; rintro e w3 ⟨v3, rfl, own3, b3⟩
    have z3 := b3.size
    have l3 := own3.lt
    have B3 : Below w.heap.size w w3 := (B1.trans (b2.mono (by omega))).trans (b3.mono (by omega))
    clear own2
    go_wp2_with fail
    refine (toNoteS_any w.heap.size _ ns _ (HR.out.below B3) (by omega) (by omega)).mono ?_; rintro e w4 ⟨v4, rfl, own4, b4⟩
    have z4 := b4.size
    have l4 := own4.lt
    have own34 := own_at own3 b4 (Nat.le_refl _)
    clear own3
    go_wp2_with fail
    refine (HI.out w4.heap.size _ _ (B3.trans (b4.mono (by omega))) (own_rns own4) (Nat.le_refl _) (by omega)).mono ?_; rintro e w5 ⟨v5, rfl, own5, b5⟩
    have z5 := b5.size
    have l5 := own5.lt
    have own35 := own_at own34 b5 (Nat.le_refl _)
    have own45 := own_at own4 b5 (Nat.le_refl _)
    clear own34 own4
    have B5 : Below w.heap.size w w5 := (B3.trans (b4.mono (by omega))).trans (b5.mono (by omega))
    go_wp2_with fail
    refine (eqCountS_same _ _ C _ (own_rdc own5) (own_rdc own35) (by omega)).mono ?_; rintro e w6 ⟨rfl, b6⟩
    have z6 := b6.size
    have own36 := own_at own35 b6 (Nat.le_refl _)
    have own46 := own_at own45 b6 (Nat.le_refl _)
    have own56 := own_at own5 b6 (Nat.le_refl _)
    have B6 : Below w.heap.size w w6 := B5.trans (b6.mono (by omega))
    clear own35 own45 own5
    go_wp2_with fail
    refine (toNoteS_any w.heap.size _ ns _ (HR.out.below B6) (by omega) (by omega)).mono ?_; rintro e w7 ⟨v7, rfl, own7, b7⟩
    have z7 := b7.size
    have own37 := own_at own36 b7 (Nat.le_refl _)
    have own47 := own_at own46 b7 (Nat.le_refl _)
    have own57 := own_at own56 b7 (Nat.le_refl _)
    have B7 : Below w.heap.size w w7 := B6.trans (b7.mono (by omega))
    clear own36 own46 own56
    go_wp2_with fail
    refine (eqNoteS_same w7.heap.size _ _ ns _ (own_rns own47) (own_rns own7) (Nat.le_refl _) (by omega)).mono ?_; rintro e w8 ⟨rfl, b8⟩
    have z8 := b8.size
    have own38 := own_at own37 b8 (Nat.le_refl _)
    have own48 := own_at own47 b8 (Nat.le_refl _)
    have own58 := own_at own57 b8 (Nat.le_refl _)
    have B8 : Below w.heap.size w w8 := B7.trans (b8.mono (by omega))
    clear own37 own47 own57 own7
    go_wp2_with fail
    refine (markNoteS_own _ _ _ ns.length 1 _ (by omega) (by omega) (by omega) own48).mono ?_; rintro e w9 ⟨rfl, k9⟩
    have z9 := k9.size
    have own39 := own_kept own38 k9 (fun k hk e => by have := l3 k hk; have := l4 k e; omega)
    have own59 := own_kept own58 k9 (fun k hk e => by have := l5 k hk; have := l4 k e; omega)
    have B9 : Below w.heap.size w w9 := B8.trans (k9.below (by omega) (fun k hk => by have := l4 k hk; omega))
    have hk0 : ¬ ((1 : Int) + (ns.length : Int) * 5 < 0) := by omega
    clear own38 own48 own58
    go_wp2_with fail
    refine (eqCountS_same _ _ C _ (own_rdc own59) (own_rdc own39) (by omega)).mono ?_; rintro e w10 ⟨rfl, b10⟩
    have z10 := b10.size
    have own310 := own_at own39 b10 (Nat.le_refl _)
    have own510 := own_at own59 b10 (Nat.le_refl _)
    have B10 : Below w.heap.size w w10 := B9.trans (b10.mono (by omega))
    clear own39 own59
    go_wp2_with fail
    refine (markCountS_own _ _ C 1 _ (by omega) (by omega) (by omega) own510).mono ?_; rintro e w11 ⟨rfl, own511, k11⟩
    have z11 := k11.size
    have own311 := own_kept own310 k11 (fun k hk e => by have := l3 k hk; have := l5 k e; omega)
    have B11 : Below w.heap.size w w11 := B10.trans (k11.below (by omega) (fun k hk => by have := l5 k hk; omega))
    have hml := marksC_length 1 C.length
    have hrc : RdC w11 v5 (marksC 1 C.length) := own_rdc (by rw [hml]; exact own511)
    have HML : Hid ((marksC 1 C.length).length = C.length) := hml
    clear own310 own510 hml
    go_wp2_with fail
    refine (heldCountS_any _ 1 C.length _ (by omega) (by omega) (by omega) hrc).mono ?_; rintro e w12 ⟨rfl, m12, hw12⟩
    have b12 : Below w11.heap.size w11 w12 := by rw [hw12]; exact below_drewN (Below.refl _ _) m12
    have z12 := b12.size
    have own312 := own_at own311 b12 (Nat.le_refl _)
    have own512 := own_at own511 b12 (Nat.le_refl _)
    have B12 : Below w.heap.size w w12 := B11.trans (b12.mono (by omega))
    have hq0 : ¬ ((1 : Int) + (C.length : Int) * 3 < 0) := by omega
    have hqm : ((1 : Int) + (C.length : Int) * 3 != (1 : Int) + (C.length : Int) * 3) = false := by simp
    clear own311 own511 hrc hw12
    go_wp2_with fail
    refine (toNoteS_any w.heap.size _ ns _ (HR.out.below B12) (by omega) (by omega)).mono ?_; rintro e w13 ⟨v13, rfl, own13, b13⟩
    have z13 := b13.size
    have own313 := own_at own312 b13 (Nat.le_refl _)
    have own513 := own_at own512 b13 (Nat.le_refl _)
    have B13 : Below w.heap.size w w13 := B12.trans (b13.mono (by omega))
    clear own312 own512
    go_wp2_with fail
    refine (HI.out w13.heap.size _ _ B13 (own_rns own13) (Nat.le_refl _) (by omega)).mono ?_; rintro e w14 ⟨v14, rfl, own14, b14⟩
    have z14 := b14.size
    have own314 := own_at own313 b14 (Nat.le_refl _)
    have own514 := own_at own513 b14 (Nat.le_refl _)
    have B14 : Below w.heap.size w w14 := B13.trans (b14.mono (by omega))
    clear own313 own513 own13
    go_wp2_with fail
    refine (eqCountS_same _ _ C _ (own_rdc own14) (own_rdc own314) (by omega)).mono ?_; rintro e w15 ⟨rfl, b15⟩
    have z15 := b15.size
    have own515 := own_at own514 b15 (Nat.le_refl _)
    have B15 : Below w.heap.size w w15 := B14.trans (b15.mono (by omega))
    have hrc2 : RdC w15 v5 (marksC 1 C.length) := own_rdc (by rw [HML.out]; exact own515)
    clear own314 own514 own14 own515
    go_wp2_with fail
    refine (heldCountS_any _ 1 C.length _ (by omega) (by omega) (by omega) hrc2).mono ?_; rintro e w16 ⟨rfl, m16, hw16⟩
    have B16 : Below w.heap.size w w16 := by rw [hw16]; exact below_drewN B15 m16
    clear hw16 hrc2
    go_wp2
    go_ret
    exact ⟨rfl, B16⟩

set_option maxRecDepth 100000 in
theorem liftedCounts (hI0 : CountsC 17) (os : Os) (started : os.Started) (H : Type) (enc : TypeId × Value → H) :
    ReturnsInHanded {} Try.checked os 4 .any (Rows.fnExactCountsSpec.pre6 enc Try.prog Try.f4 Rows.fnExactCountsRow.domain false) (Rows.fnExactCountsSpec.post enc Try.prog Try.f4 false true false false) := by
  refine returnsInHanded_of_change_shaped (C := Try.checked) own started (by kernel_rfl) Try.func4
    (ChangeSpec.witness6 (enc := enc) (C := Try.checked) false ⟨#[], #[.slice none 0 0], []⟩ 8 (by kernel_rfl) (by kernel_rfl) (by kernel_rfl) (by kernel_rfl)) ?_
  intro W base args ds gs before hval0 hW hcnd _ hsh _
  have hval : ∀ (j : Nat) t v, Try.f4.params[j]? = some t → args[j]? = some v → Value.okWide Try.prog W .any base t v := hval0
  have hW' := hW
  obtain ⟨p, q, hA0, hV, rfl, hfz, hnd⟩ := hW
  have hA : DataW.TrodAll enc Try.prog W 0 (fun _ => true) true Try.f4.params.toList args.toList ds p := hA0
  rw [Try.params4] at hA hval
  obtain ⟨v0, vs0, d0, ds0, p0, q0, hargs, rfl, rfl, h0, r0⟩ := trodAll_cons hA
  obtain ⟨rfl, rfl, rfl⟩ := trodAll_nil r0
  obtain rfl : args = #[v0] := by cases args; simp_all
  obtain ⟨rfl, rfl⟩ := trodVars_none hV
  have k0 := h0
  have lt0 : ∀ x ∈ p0, x.block < W.heap.size := by obtain ⟨m, hm⟩ := k0; exact DataW.trod_lt m _ _ _ hm
  obtain ⟨ns, hns, hsz⟩ := open_notes (hval 0 22 v0 rfl rfl) h0
  clear hA0 hval0
  refine (walkCounts hI0 specCountsC v0 ns W ⟨W, hsh, Below.refl _ _⟩ hns hsz).mono fun e W' ⟨he, bel⟩ => ?_
  subst he
  exact ⟨_, rfl, _, _, _, [], _, [], hW', trodAll_mk1 (shut_bool Try.underlying4 _), (trodAll_cons_mk (Below.trod laidOut (by kernel_rfl) (of_decide_eq_true (by kernel_rfl)) k0 bel lt0) trodAll_mk0), rfl, bel.frame _, fun h => by cases h⟩

theorem counts_of (hI0 : CountsC 17) : Rows.FnExactCountsSaid :=
  OpenClaim.holds_of_wide 4 Try.f4 rfl rfl rfl rfl rfl rfl rfl ⟨rfl, rfl, rfl, rfl, rfl⟩ rfl rfl rfl rfl rfl (by kernel_rfl) Try.func4 (by kernel_rfl)
    (of_decide_eq_true (by kernel_rfl)) (by unfold Func.isWrapper; first | (rw [if_pos (by decide +kernel)]; kernel_rfl) | (rw [if_neg (by decide +kernel)]; exact ⟨rfl, rfl⟩))
    (fun os started H enc _ => liftedCounts hI0 os started H enc)
end Go.Proofs.Ytepagknkhlpicac
