/-
  The law FnExactFind, over what impl.Find keeps to.
-/
import Derived.Test.YtepagknkhlpicacWCounts
namespace Go.Proofs.Ytepagknkhlpicac
open Go.ChangeShapes Go.WideShapes Go.ChangeAt Go.RowKit Go.Deep
set_option linter.unusedVariables false
set_option linter.unusedSimpArgs false

set_option maxRecDepth 5000 in
set_option maxHeartbeats 4000000 in
theorem walkFind (hI0 : FindC 10) (hS0 : FindC 7) (v : Value) (ns : List ND) (q : AD) (w : World) (hG : Grd w) (h : RNS w.heap.size w v ns) (hs : ∀ d ∈ ns, d.s.size ≤ maxLen) (hp : q.part.size ≤ maxLen) :
    Calls Try.prog 3 #[v, q.val] w fun e w' => e = .returned (.bool true) ∧ Below w.heap.size w w' := by
  have hI : ∀ (N : Nat) (v : Value) (W : World), Below w.heap.size w W → RNS N W v ns → N ≤ W.heap.size → ns.length ≤ 100000000 → (∀ d ∈ ns, d.s.size ≤ 1000000000) → q.part.size ≤ 1000000000 → Calls Try.prog 10 #[v, q.val] W fun e w' => ∃ vo, e = .returned vo ∧ w'.ownsRow W.heap.size 3 1 vo (findL ns q).length ((findL ns q).map (Value.int .i64)) ∧ Below W.heap.size W w' := fun N v W hW h1 h2 h3 h4 h5 => hI0 N v ns q W (hG.below hW) h1 h2 h3 h4 h5
  have hSp : ∀ (N : Nat) (v : Value) (W : World), Below w.heap.size w W → RNS N W v ns → N ≤ W.heap.size → ns.length ≤ 100000000 → (∀ d ∈ ns, d.s.size ≤ 1000000000) → q.part.size ≤ 1000000000 → Calls Try.prog 7 #[v, q.val] W fun e w' => ∃ vo, e = .returned vo ∧ w'.ownsRow W.heap.size 3 1 vo (findL ns q).length ((findL ns q).map (Value.int .i64)) ∧ Below W.heap.size W w' := fun N v W hW h1 h2 h3 h4 h5 => hS0 N v ns q W (hG.below hW) h1 h2 h3 h4 h5
  have HR : Hid (RNS w.heap.size w v ns) := h
  have hcl : (findL ns q).length ≤ ns.length := findN_length q ns 0
  generalize findL ns q = C at hI hSp hcl
  have HI : Hid (∀ (N : Nat) (v : Value) (W : World), Below w.heap.size w W → RNS N W v ns → N ≤ W.heap.size → ns.length ≤ 100000000 → (∀ d ∈ ns, d.s.size ≤ 1000000000) → q.part.size ≤ 1000000000 → Calls Try.prog 10 #[v, q.val] W fun e w' => ∃ vo, e = .returned vo ∧ w'.ownsRow W.heap.size 3 1 vo C.length (C.map (Value.int .i64)) ∧ Below W.heap.size W w') := hI
  have HSp : Hid (∀ (N : Nat) (v : Value) (W : World), Below w.heap.size w W → RNS N W v ns → N ≤ W.heap.size → ns.length ≤ 100000000 → (∀ d ∈ ns, d.s.size ≤ 1000000000) → q.part.size ≤ 1000000000 → Calls Try.prog 7 #[v, q.val] W fun e w' => ∃ vo, e = .returned vo ∧ w'.ownsRow W.heap.size 3 1 vo C.length (C.map (Value.int .i64)) ∧ Below W.heap.size W w') := hSp
  obtain ⟨a, cap, rfl⟩ : ∃ a cap, v = .slice a ns.length cap := by obtain ⟨a, cap, e, _⟩ := h; exact ⟨a, cap, e⟩
  have HT : Hid (∀ w, Calls Try.prog 9 #[q.val] w fun e w' => e = .returned q.val ∧ Below w.heap.size w w') := fun w => toAsk_any q w
  have HZ : Hid (∀ (left : Int) (w : World), 0 ≤ left → left ≤ 1048576 → Calls Try.prog 6 #[q.val, .int .i64 left] w fun e w' => e = .returned (.int .i64 (if (q.part.size : Int) ≤ left then left - q.part.size else -1)) ∧ Below w.heap.size w w') := fun left w h1 h2 => szAsk_any q left w hp h1 h2
  unfold AD.val at HI HSp HT HZ ⊢
  clear h hI0 hS0 hI hSp
  go_enter Try.func3, Try.ntmps3
  go_wp2_with fail
  have hA0 := heap_alloc_new w (.cells #[.int .i64 q.lo, .int .i64 q.hi, .int .i64 q.kind, .int .i64 q.who, .string q.part] 24)
  have bA0 : Below w.heap.size w (w.alloc (.cells #[.int .i64 q.lo, .int .i64 q.hi, .int .i64 q.kind, .int .i64 q.who, .string q.part] 24)) := (Below.refl _ w).alloc (Nat.le_refl _) _
  have zA0 : w.heap.size + 1 ≤ (w.alloc (.cells #[.int .i64 q.lo, .int .i64 q.hi, .int .i64 q.kind, .int .i64 q.who, .string q.part] 24)).heap.size := by simp
  generalize w.alloc (.cells #[.int .i64 q.lo, .int .i64 q.hi, .int .i64 q.kind, .int .i64 q.who, .string q.part] 24) = wA at hA0 bA0 zA0 ⊢
  have HC : Hid (∀ W, Below (w.heap.size + 1) wA W → W.cell? ⟨w.heap.size, 0, none⟩ = some (.int .i64 q.lo) ∧ W.cell? ⟨w.heap.size, 1, none⟩ = some (.int .i64 q.hi) ∧ W.cell? ⟨w.heap.size, 2, none⟩ = some (.int .i64 q.kind) ∧ W.cell? ⟨w.heap.size, 3, none⟩ = some (.int .i64 q.who) ∧ W.cell? ⟨w.heap.size, 4, none⟩ = some (.string q.part)) := fun W hW => (b5cells (by rw [hW.block _ (by omega)]; exact hA0)).1
  have HN : Hid (∀ W, Below (w.heap.size + 1) wA W → RNS w.heap.size W (.slice a ns.length cap) ns) := fun W hW => HR.out.below (bA0.trans (hW.mono (by omega)))
  have HE : Hid (∀ W, Below (w.heap.size + 1) wA W → Below w.heap.size w W) := fun W hW => bA0.trans (hW.mono (by omega))
  have BA : Below (w.heap.size + 1) wA wA := Below.refl _ _
  clear hA0 bA0
  refine (szNoteS_any w.heap.size _ ns 1048576 _ (HN.out _ BA) hs (by omega) (by omega) (by omega)).mono ?_; rintro e w1 ⟨z, rfl, hz, b1⟩
  have B1 : Below (w.heap.size + 1) wA w1 := b1.mono (by omega)
  obtain ⟨c0, c1, c2, c3, c4⟩ := HC.out _ B1
  rcases hz with rfl | ⟨hz0, hz⟩
  · go_wp2
    go_ret
    exact ⟨rfl, HE.out _ B1⟩
  · have hsum := sumN_mem ns
    have hl : ns.length ≤ 1048576 := by omega
    have HS : Hid (∀ d ∈ ns, d.s.size ≤ 1000000000) := fun d hd => by have := hsum.1 d hd; omega
    have z1 := b1.size
    have hzz : z ≤ 1048576 := by omega
    clear hz hsum hs
    go_wp2_with fail
    refine (HZ.out z _ hz0 hzz).mono ?_; rintro e w1' ⟨rfl, b1'⟩
    have z1' := b1'.size
    have B1' : Below (w.heap.size + 1) wA w1' := B1.trans (b1'.mono (by omega))
    clear B1 b1' c0 c1 c2 c3 c4
    obtain ⟨c0, c1, c2, c3, c4⟩ := HC.out _ B1'
    by_cases hpz : (q.part.size : Int) ≤ z
    · rw [if_pos hpz]
      have hp9 : q.part.size ≤ 1000000000 := by omega
      have HHN : Hid (∀ W, Below (w.heap.size + 1) wA W → Calls Try.prog 8 #[.slice a ns.length cap] W fun e w' => ∃ v', e = .returned v' ∧ w'.ownsRow W.heap.size 46 5 v' ns.length (nCells ns) ∧ Below W.heap.size W w') := fun W hW => toNoteS_any w.heap.size _ ns W (HN.out W hW) (by have := hW.size; omega) (by omega)
      have HHS : Hid (∀ W v' lo, Below (w.heap.size + 1) wA W → W.ownsRow lo 46 5 v' ns.length (nCells ns) → Calls Try.prog 7 #[v', .agg #[.int .i64 q.lo, .int .i64 q.hi, .int .i64 q.kind, .int .i64 q.who, .string q.part]] W fun e w' => ∃ vo, e = .returned vo ∧ w'.ownsRow W.heap.size 3 1 vo C.length (C.map (Value.int .i64)) ∧ Below W.heap.size W w') := fun W v' lo hW ho => HSp.out W.heap.size v' W (HE.out W hW) (own_rns ho) (Nat.le_refl _) (by omega) HS.out hp9
      have HHI : Hid (∀ W v' lo, Below (w.heap.size + 1) wA W → W.ownsRow lo 46 5 v' ns.length (nCells ns) → Calls Try.prog 10 #[v', .agg #[.int .i64 q.lo, .int .i64 q.hi, .int .i64 q.kind, .int .i64 q.who, .string q.part]] W fun e w' => ∃ vo, e = .returned vo ∧ w'.ownsRow W.heap.size 3 1 vo C.length (C.map (Value.int .i64)) ∧ Below W.heap.size W w') := fun W v' lo hW ho => HI.out W.heap.size v' W (HE.out W hW) (own_rns ho) (Nat.le_refl _) (by omega) HS.out hp9
      have hpz0 : ¬ (z - (q.part.size : Int) < 0) := by omega
      have zA1 : w.heap.size + 1 ≤ w1'.heap.size := by omega
      go_wp2_with fail
      go_region_held3 (fun w' => w'.cell? ⟨w.heap.size, 0, none⟩ = some (.int .i64 q.lo) ∧ w'.cell? ⟨w.heap.size, 1, none⟩ = some (.int .i64 q.hi) ∧ w'.cell? ⟨w.heap.size, 2, none⟩ = some (.int .i64 q.kind) ∧ w'.cell? ⟨w.heap.size, 3, none⟩ = some (.int .i64 q.who) ∧ w'.cell? ⟨w.heap.size, 4, none⟩ = some (.string q.part)) (first | exact ⟨c0, c1, c2, c3, c4⟩ | exact HC.out _ (B1'.drew.trans (ba.mono zA1)) | exact HC.out _ ((B1'.drew.trans (ba.mono zA1)).trans (bb.mono (Nat.le_trans zA1 ba.size))) | exact HC.out _ (((B1'.drew.trans (ba.mono zA1)).trans (bb.mono (Nat.le_trans zA1 ba.size))).trans (b3.mono (Nat.le_trans (Nat.le_trans zA1 ba.size) bb.size))))
        ((first | (go_at_call 8; refine (HHN.out _ B1'.drew).mono ?_; rintro e wa ⟨va, rfl, owna, ba⟩) | (go_at_call 9; refine (HT.out _).mono ?_; rintro e wb ⟨rfl, bb⟩) | (go_at_call 7; refine (HHS.out _ _ _ ((B1'.drew.trans (ba.mono zA1)).trans (bb.mono (Nat.le_trans zA1 ba.size))) (own_at owna bb (Nat.le_refl _))).mono ?_; rintro e w3 ⟨v3, rfl, own3, b3⟩)))
      have B3 : Below (w.heap.size + 1) wA w3 := ((B1'.drew.trans (ba.mono zA1)).trans (bb.mono (Nat.le_trans zA1 ba.size))).trans (b3.mono (Nat.le_trans (Nat.le_trans zA1 ba.size) bb.size))
      have za : w1'.heap.size ≤ wa.heap.size := ba.size
      have zb := bb.size
      have z3 := b3.size
      have l3 := own3.lt
      clear owna ba bb b3 c0 c1 c2 c3 c4
      obtain ⟨c0, c1, c2, c3, c4⟩ := HC.out _ B3
      go_wp2_with fail
      refine (toNoteS_any w.heap.size _ ns _ (HN.out _ B3) (by omega) (by omega)).mono ?_; rintro e w4 ⟨v4, rfl, own4, b4⟩
      have z4 := b4.size
      have l4 := own4.lt
      have own34 := own_at own3 b4 (Nat.le_refl _)
      have B4 : Below (w.heap.size + 1) wA w4 := B3.trans (b4.mono (by omega))
      clear own3 c0 c1 c2 c3 c4
      obtain ⟨c0, c1, c2, c3, c4⟩ := HC.out _ B4
      go_wp2_with fail
      refine (HT.out _).mono ?_; rintro e w4' ⟨rfl, b4'⟩
      have z4' := b4'.size
      have own34' := own_at own34 b4' (Nat.le_refl _)
      have own4' := own_at own4 b4' (Nat.le_refl _)
      clear own34 own4 c0 c1 c2 c3 c4
      go_wp2_with fail
      refine (HI.out w4'.heap.size _ _ (HE.out _ (B4.trans (b4'.mono (by omega)))) (own_rns own4') (Nat.le_refl _) (by omega) HS.out hp9).mono ?_; rintro e w5 ⟨v5, rfl, own5, b5⟩
      have z5 := b5.size
      have l5 := own5.lt
      have own35 := own_at own34' b5 (Nat.le_refl _)
      have own45 := own_at own4' b5 (Nat.le_refl _)
      clear own34' own4'
      have B5 : Below (w.heap.size + 1) wA w5 := ((B3.trans (b4.mono (by omega))).trans (b4'.mono (by omega))).trans (b5.mono (by omega))
      go_wp2_with fail
      refine (eqIntS_same _ _ C _ (own_rdi own5).1 (own_rdi own35).1 (by omega)).mono ?_; rintro e w6 ⟨rfl, m6, hw6⟩
      have b6 : Below w5.heap.size w5 w6 := by rw [hw6]; exact below_drewN (Below.refl _ _) m6
      have z6 := b6.size
      have own36 := own_at own35 b6 (Nat.le_refl _)
      have own46 := own_at own45 b6 (Nat.le_refl _)
      have own56 := own_at own5 b6 (Nat.le_refl _)
      have B6 : Below (w.heap.size + 1) wA w6 := B5.trans (b6.mono (by omega))
      clear own35 own45 own5 hw6
      go_wp2_with fail
      refine (toNoteS_any w.heap.size _ ns _ (HN.out _ B6) (by omega) (by omega)).mono ?_; rintro e w7 ⟨v7, rfl, own7, b7⟩
      have z7 := b7.size
      have own37 := own_at own36 b7 (Nat.le_refl _)
      have own47 := own_at own46 b7 (Nat.le_refl _)
      have own57 := own_at own56 b7 (Nat.le_refl _)
      have B7 : Below (w.heap.size + 1) wA w7 := B6.trans (b7.mono (by omega))
      clear own36 own46 own56
      go_wp2_with fail
      refine (eqNoteS_same w7.heap.size _ _ ns _ (own_rns own47) (own_rns own7) (Nat.le_refl _) (by omega)).mono ?_; rintro e w8 ⟨rfl, b8⟩
      have z8 := b8.size
      have own38 := own_at own37 b8 (Nat.le_refl _)
      have own48 := own_at own47 b8 (Nat.le_refl _)
      have own58 := own_at own57 b8 (Nat.le_refl _)
      have B8 : Below (w.heap.size + 1) wA w8 := B7.trans (b8.mono (by omega))
      clear own37 own47 own57 own7
      go_wp2_with fail
      refine (markNoteS_own _ _ _ ns.length 1 _ (by omega) (by omega) (by omega) own48).mono ?_; rintro e w9 ⟨rfl, k9⟩
      have z9 := k9.size
      have own39 := own_kept own38 k9 (fun k hk e => by have := l3 k hk; have := l4 k e; omega)
      have own59 := own_kept own58 k9 (fun k hk e => by have := l5 k hk; have := l4 k e; omega)
      have B9 : Below (w.heap.size + 1) wA w9 := B8.trans (k9.below (by omega) (fun k hk => by have := l4 k hk; omega))
      have hk0 : ¬ ((1 : Int) + (ns.length : Int) * 5 < 0) := by omega
      clear own38 own48 own58
      go_wp2_with fail
      refine (eqIntS_same _ _ C _ (own_rdi own59).1 (own_rdi own39).1 (by omega)).mono ?_; rintro e w10 ⟨rfl, m10, hw10⟩
      have b10 : Below w9.heap.size w9 w10 := by rw [hw10]; exact below_drewN (Below.refl _ _) m10
      have z10 := b10.size
      have own310 := own_at own39 b10 (Nat.le_refl _)
      have own510 := own_at own59 b10 (Nat.le_refl _)
      have B10 : Below (w.heap.size + 1) wA w10 := B9.trans (b10.mono (by omega))
      clear own39 own59 hw10
      go_wp2_with fail
      refine (markIntS_own _ _ C 1 _ (by omega) (by omega) (by omega) own510).mono ?_; rintro e w11 ⟨rfl, own511, k11⟩
      have z11 := k11.size
      have own311 := own_kept own310 k11 (fun k hk e => by have := l3 k hk; have := l5 k e; omega)
      have B11 : Below (w.heap.size + 1) wA w11 := B10.trans (k11.below (by omega) (fun k hk => by have := l5 k hk; omega))
      have hrc := (own_rdi own511).1
      clear own310 own510
      go_wp2_with fail
      refine (heldIntS_any _ 1 C.length _ (by omega) (by omega) (by omega) hrc).mono ?_; rintro e w12 ⟨rfl, hw12⟩
      have b12 : Below w11.heap.size w11 w12 := by rw [hw12]; exact Below.refl _ _
      have z12 := b12.size
      have own312 := own_at own311 b12 (Nat.le_refl _)
      have own512 := own_at own511 b12 (Nat.le_refl _)
      have B12 : Below (w.heap.size + 1) wA w12 := B11.trans (b12.mono (by omega))
      have hq0 : ¬ ((1 : Int) + (C.length : Int) < 0) := by omega
      have hqm : ((1 : Int) + (C.length : Int) != (1 : Int) + (C.length : Int)) = false := by simp
      clear own311 own511 hrc hw12
      obtain ⟨c0, c1, c2, c3, c4⟩ := HC.out _ B12
      have zA12 : w.heap.size + 1 ≤ w12.heap.size := by omega
      go_wp2_with fail
      go_region_held3 (fun w' => w'.cell? ⟨w.heap.size, 0, none⟩ = some (.int .i64 q.lo) ∧ w'.cell? ⟨w.heap.size, 1, none⟩ = some (.int .i64 q.hi) ∧ w'.cell? ⟨w.heap.size, 2, none⟩ = some (.int .i64 q.kind) ∧ w'.cell? ⟨w.heap.size, 3, none⟩ = some (.int .i64 q.who) ∧ w'.cell? ⟨w.heap.size, 4, none⟩ = some (.string q.part)) (first | exact ⟨c0, c1, c2, c3, c4⟩ | exact HC.out _ (B12.drew.trans (ba.mono zA12)) | exact HC.out _ ((B12.drew.trans (ba.mono zA12)).trans (bb.mono (Nat.le_trans zA12 ba.size))) | exact HC.out _ (((B12.drew.trans (ba.mono zA12)).trans (bb.mono (Nat.le_trans zA12 ba.size))).trans (b14.mono (Nat.le_trans (Nat.le_trans zA12 ba.size) bb.size))))
        ((first | (go_at_call 8; refine (HHN.out _ B12.drew).mono ?_; rintro e wa2 ⟨va, rfl, owna, ba⟩) | (go_at_call 9; refine (HT.out _).mono ?_; rintro e wb2 ⟨rfl, bb⟩) | (go_at_call 10; refine (HHI.out _ _ _ ((B12.drew.trans (ba.mono zA12)).trans (bb.mono (Nat.le_trans zA12 ba.size))) (own_at owna bb (Nat.le_refl _))).mono ?_; rintro e w14 ⟨v14, rfl, own14, b14⟩)))
      have B14 : Below (w.heap.size + 1) wA w14 := ((B12.drew.trans (ba.mono zA12)).trans (bb.mono (Nat.le_trans zA12 ba.size))).trans (b14.mono (Nat.le_trans (Nat.le_trans zA12 ba.size) bb.size))
      have za2 : w12.heap.size ≤ wa2.heap.size := ba.size
      have zb2 := bb.size
      have z14 := b14.size
      have b1214 : Below w12.heap.size w12 w14 := (undrew ba).trans ((bb.mono ba.size).trans (b14.mono (Nat.le_trans ba.size bb.size)))
      have own314 := own_at own312 b1214 (Nat.le_refl _)
      have own514 := own_at own512 b1214 (Nat.le_refl _)
      clear owna ba bb b14 own312 own512 c0 c1 c2 c3 c4
      go_wp2_with fail
      refine (eqIntS_same _ _ C _ (own_rdi own14).1 (own_rdi own314).1 (by omega)).mono ?_; rintro e w15 ⟨rfl, m15, hw15⟩
      have b15 : Below w14.heap.size w14 w15 := by rw [hw15]; exact below_drewN (Below.refl _ _) m15
      have z15 := b15.size
      have own515 := own_at own514 b15 (Nat.le_refl _)
      have B15 : Below (w.heap.size + 1) wA w15 := B14.trans (b15.mono (by omega))
      have hrc2 := (own_rdi own515).1
      clear own314 own514 own14 own515 hw15
      go_wp2_with fail
      refine (heldIntS_any _ 1 C.length _ (by omega) (by omega) (by omega) hrc2).mono ?_; rintro e w16 ⟨rfl, hw16⟩
      have B16 : Below (w.heap.size + 1) wA w16 := by rw [hw16]; exact B15
      clear hw16 hrc2
      go_wp2
      go_ret
      exact ⟨rfl, HE.out _ B16⟩
    · rw [if_neg hpz]
      go_wp2
      go_ret
      exact ⟨rfl, HE.out _ B1'⟩

set_option maxRecDepth 100000 in
theorem liftedFind (hI0 : FindC 10) (os : Os) (started : os.Started) (H : Type) (enc : TypeId × Value → H) :
    ReturnsInHanded {} Try.checked os 3 .any (Rows.fnExactFindSpec.pre6 enc Try.prog Try.f3 Rows.fnExactFindRow.domain false) (Rows.fnExactFindSpec.post enc Try.prog Try.f3 false true false false) := by
  refine returnsInHanded_of_change_shaped (C := Try.checked) own started (by kernel_rfl) Try.func3
    (ChangeSpec.witness6 (enc := enc) (C := Try.checked) false ⟨#[], #[.slice none 0 0, .agg #[.int .i64 0, .int .i64 0, .int .i64 0, .int .i64 0, .string ByteArray.empty]], []⟩ 8 (by kernel_rfl) (by kernel_rfl) (by kernel_rfl) (by kernel_rfl)) ?_
  intro W base args ds gs before hval0 hW hcnd _ hsh _
  have hval : ∀ (j : Nat) t v, Try.f3.params[j]? = some t → args[j]? = some v → Value.okWide Try.prog W .any base t v := hval0
  have hW' := hW
  obtain ⟨p, q, hA0, hV, rfl, hfz, hnd⟩ := hW
  have hA : DataW.TrodAll enc Try.prog W 0 (fun _ => true) true Try.f3.params.toList args.toList ds p := hA0
  rw [Try.params3] at hA hval
  obtain ⟨v0, vs0, d0, ds0, p0, q0, hargs, rfl, rfl, h0, r0⟩ := trodAll_cons hA
  obtain ⟨v1, vs1, d1, ds1, p1, q1, rfl, rfl, rfl, h1, r1⟩ := trodAll_cons r0
  obtain ⟨rfl, rfl, rfl⟩ := trodAll_nil r1
  obtain rfl : args = #[v0, v1] := by cases args; simp_all
  obtain ⟨rfl, rfl⟩ := trodVars_none hV
  have k0 := h0
  have k1 := h1
  have lt0 : ∀ x ∈ p0, x.block < W.heap.size := by obtain ⟨m, hm⟩ := k0; exact DataW.trod_lt m _ _ _ hm
  have lt1 : ∀ x ∈ p1, x.block < W.heap.size := by obtain ⟨m, hm⟩ := k1; exact DataW.trod_lt m _ _ _ hm
  obtain ⟨ns, hns, hsz⟩ := open_notes (hval 0 22 v0 rfl rfl) h0
  obtain ⟨aq, rfl, hps⟩ := open_ask (hval 1 24 v1 rfl rfl) h1
  clear hA0 hval0
  refine (walkFind hI0 specFindC v0 ns aq W ⟨W, hsh, Below.refl _ _⟩ hns hsz hps).mono fun e W' ⟨he, bel⟩ => ?_
  subst he
  exact ⟨_, rfl, _, _, _, [], _, [], hW', trodAll_mk1 (shut_bool Try.underlying4 _), (trodAll_cons_mk (Below.trod laidOut (by kernel_rfl) (of_decide_eq_true (by kernel_rfl)) k0 bel lt0) (trodAll_cons_mk (Below.trod laidOut (by kernel_rfl) (of_decide_eq_true (by kernel_rfl)) k1 bel lt1) trodAll_mk0)), rfl, bel.frame _, fun h => by cases h⟩

theorem find_of (hI0 : FindC 10) : Rows.FnExactFindSaid :=
  OpenClaim.holds_of_wide 3 Try.f3 rfl rfl rfl rfl rfl rfl rfl ⟨rfl, rfl, rfl, rfl, rfl⟩ rfl rfl rfl rfl rfl (by kernel_rfl) Try.func3 (by kernel_rfl)
    (of_decide_eq_true (by kernel_rfl)) (by unfold Func.isWrapper; first | (rw [if_pos (by decide +kernel)]; kernel_rfl) | (rw [if_neg (by decide +kernel)]; exact ⟨rfl, rfl⟩))
    (fun os started H enc _ => liftedFind hI0 os started H enc)
end Go.Proofs.Ytepagknkhlpicac
