/-
  The law FnAsk, over what impl.Find and impl.Counts keep to.
-/
import Derived.Test.YtepagknkhlpicaaWFind
import Derived.Test.YtepagknkhlpicaaAskMath
import Derived.Test.YtepagknkhlpicaaDrawAsk
namespace Go.Proofs.Ytepagknkhlpicaa
open Go.ChangeShapes Go.WideShapes Go.ChangeAt Go.RowKit Go.Deep
set_option linter.unusedVariables false
set_option linter.unusedSimpArgs false

set_option maxHeartbeats 1000000 in
theorem wInts_same (v1 v2 : Value) (xs : List Int) (w : World) (h1 : RdI w v1 xs) (h2 : RdI w v2 xs) (hl1 : xs.length ≤ 1000000000) :
    Calls Try.prog 22 #[v1, v2] w fun e w' => e = .returned (.bool true) ∧ ∃ n, w' = w.drewN n := by
  obtain ⟨a, c1, rfl, hc1, hm1, hx⟩ := h1
  obtain ⟨b, c2, rfl, hc2, hm2, hy⟩ := h2
  unfold maxLen at hm1 hm2
  have hne : ((xs.length : Int) != xs.length) = false := by simp
  go_enter Try.func22, Try.ntmps22
  go_wp2
  go_loopw [5, 13] (fun _ i wr => ∃ (j n : Nat), j ≤ xs.length ∧ i = .int .i64 j ∧ wr = w.drewN n) (fun _ i _ => xs.length - (intOf i).toNat)
  case atStart => exact ⟨0, 0, Nat.zero_le _, rfl, rfl⟩
  case round =>
    obtain ⟨j, m, hj, rfl, rfl⟩ := hrel
    by_cases hlt : j < xs.length
    · obtain ⟨g1, o1, rfl, _, hx1⟩ := hx j hlt
      obtain ⟨g2, o2, rfl, _, hy1⟩ := hy j hlt
      generalize xs.getD j 0 = x at hx1 hy1
      clear hx hy
      have hq' : (x != x) = false := by simp
      go_wp2
      go_quiet (fail)
      go_wp2
      go_roundw
      case rel => exact ⟨j + 1, _, by omega, by go_num, rfl⟩
      case measure => simp [intOf]; omega
    · go_wp2
      go_ret
      exact ⟨rfl, _, rfl⟩

theorem wByteA_any (v : Value) (cs : List Int) (i : Nat) (w : World) (h : Reads w v cs) (hb : Byt cs) (hi : i ≤ 1000) (hl : cs.length ≤ 1048576) :
    Calls Try.prog 19 #[v, .int .i64 i] w fun e w' => ∃ n : Nat, e = .returned (.int .i64 n) ∧ n ≤ 255 ∧ w' = w := by
  obtain ⟨a, cap, rfl, hc, hm, hx⟩ := h
  by_cases h0 : cs.length = 0
  · have q0 : ((cs.length : Int) == 0) = true := by simp [h0]
    clear hx
    go_enter Try.func19, Try.ntmps19
    go_wp2
    go_ret
    exact ⟨0, rfl, by omega, rfl⟩
  · have q0 : ((cs.length : Int) == 0) = false := by
      have : ¬ ((cs.length : Int) = 0) := by omega
      simpa using this
    have hlt : i % cs.length < cs.length := Nat.mod_lt _ (by omega)
    obtain ⟨g, o, rfl, hcl⟩ := hx (i % cs.length) hlt
    have hg : 0 ≤ cs.getD (i % cs.length) 0 ∧ cs.getD (i % cs.length) 0 ≤ 255 := by
      rw [List.getD_eq_getElem?_getD, List.getElem?_eq_getElem hlt]
      exact ⟨(hb _ (List.getElem_mem hlt)).1, by have := (hb _ (List.getElem_mem hlt)).2; simp; omega⟩
    generalize hB : cs.getD (i % cs.length) 0 = x at hcl hg
    obtain ⟨n, rfl⟩ := Int.eq_ofNat_of_zero_le hg.1
    have hne : (cs.length : Int) ≠ 0 := by omega
    have hr : Int.tmod (i : Int) (cs.length : Int) = ((i % cs.length : Nat) : Int) := by simp [Int.tmod]
    have hlt' : ((i % cs.length : Nat) : Int) < (cs.length : Int) := by omega
    have hn : n ≤ 255 := by omega
    generalize i % cs.length = j at hcl hr hlt'
    clear hx hB h0 hlt hg
    go_enter Try.func19, Try.ntmps19
    go_wp2
    go_ret
    exact ⟨n, rfl, hn, rfl⟩

theorem own_ln {w : World} {lo e n : Nat} {v : Value} {xs : List Value} (h : w.ownsRow lo e 1 v n xs) : ∃ a cap, v = .slice a n cap := by
  rcases h.2 with ⟨h1, h2⟩ | ⟨g, cap, cur, h1, _⟩
  · exact ⟨none, 0, by rw [h1, h2]⟩
  · exact ⟨_, _, h1⟩

set_option maxRecDepth 5000 in
set_option maxHeartbeats 4000000 in
theorem walkAsk (hI0 : FindC 21) (hS0 : FindC 23) (hC0 : CountsC 24) (v1 v2 : Value) (bs cs : List Int) (w : World) (hG : Grd w) (h1 : Reads w v1 bs) (h2 : Reads w v2 cs) (hb1 : Byt bs) (hb2 : Byt cs) (hl1 : bs.length ≤ maxLen) (hl2 : cs.length ≤ maxLen) (hv1 : ∀ k, v1.ownBlock = some k → bs.length = 0 ∨ k < w.heap.size) (hv2 : ∀ k, v2.ownBlock = some k → cs.length = 0 ∨ k < w.heap.size) :
    Calls Try.prog 5 #[v1, v2] w fun e w' => e = .returned (.bool true) ∧ Below w.heap.size w w' := by
  have hf1 : ∃ a cap, v1 = .slice a bs.length cap := by obtain ⟨a, cap, e, _⟩ := h1; exact ⟨a, cap, e⟩
  have hf2 : ∃ a cap, v2 = .slice a cs.length cap := by obtain ⟨a, cap, e, _⟩ := h2; exact ⟨a, cap, e⟩
  obtain ⟨a1, cap1, rfl⟩ := hf1
  obtain ⟨a2, cap2, rfl⟩ := hf2
  unfold maxLen at hl1 hl2
  have HR1 : Hid (Reads w (.slice a1 bs.length cap1) bs) := h1
  have HR2 : Hid (Reads w (.slice a2 cs.length cap2) cs) := h2
  clear h1 h2
  by_cases g1 : 1048576 < (bs.length : Int)
  · go_enter Try.func5, Try.ntmps5
    go_wp2
    go_ret
    exact ⟨rfl, Below.refl _ _⟩
  · by_cases g2 : 1048576 < (cs.length : Int)
    · go_enter Try.func5, Try.ntmps5
      go_wp2
      go_ret
      exact ⟨rfl, Below.refl _ _⟩
    · have g1' : ¬ ((bs.length : Int) > 1048576) := by omega
      have g2' : ¬ ((cs.length : Int) > 1048576) := by omega
      go_enter Try.func5, Try.ntmps5
      go_wp2_with fail
      refine (notes_any _ bs _ HR1.out hb1 (by omega) hv1).mono ?_; rintro e w1 ⟨vn, ns, rfl, hgood, hnl, own1, b1⟩
      have z1 := b1.size
      go_wp2_with fail
      refine (asked_any _ cs _ (HR2.out.below' b1 hv2) hb2 (by omega) (fun k hk => by have := hv2 k hk; omega)).mono ?_; rintro e w2 ⟨q, rfl, hq, b2⟩
      have z2 := b2.size
      obtain ⟨an, kn, rfl⟩ : ∃ a cap, vn = .slice a ns.length cap := by obtain ⟨a, cap, e, _⟩ := own_rns own1; exact ⟨a, cap, e⟩
      have HN : Hid (∀ W, Below w1.heap.size w1 W → RNS w1.heap.size W (.slice an ns.length kn) ns) := fun W hW => (own_rns own1).below hW
      have HG : Hid (∀ d ∈ ns, d.good) := hgood
      have HF : Hid (∀ W (p : AD), Below w1.heap.size w1 W → p.part.size ≤ 1000000000 → Calls Try.prog 21 #[.slice an ns.length kn, .agg #[.int .i64 p.lo, .int .i64 p.hi, .int .i64 p.kind, .int .i64 p.who, .string p.part]] W fun e w' => ∃ vo, e = .returned vo ∧ w'.ownsRow W.heap.size 3 1 vo (findL ns p).length ((findL ns p).map (Value.int .i64)) ∧ Below W.heap.size W w') := fun W p hW hp => hI0 w1.heap.size _ ns p W ((hG.below b1).below hW) (HN.out W hW) hW.size (by omega) (fun d hd => by have := (HG.out d hd).s1; omega) hp
      have HFs : Hid (∀ W (p : AD), Below w1.heap.size w1 W → p.part.size ≤ 1000000000 → Calls Try.prog 23 #[.slice an ns.length kn, .agg #[.int .i64 p.lo, .int .i64 p.hi, .int .i64 p.kind, .int .i64 p.who, .string p.part]] W fun e w' => ∃ vo, e = .returned vo ∧ w'.ownsRow W.heap.size 3 1 vo (findL ns p).length ((findL ns p).map (Value.int .i64)) ∧ Below W.heap.size W w') := fun W p hW hp => hS0 w1.heap.size _ ns p W ((hG.below b1).below hW) (HN.out W hW) hW.size (by omega) (fun d hd => by have := (HG.out d hd).s1; omega) hp
      have hct : ∀ W, Below w1.heap.size w1 W → Calls Try.prog 24 #[.slice an ns.length kn] W fun e w' => ∃ vo, e = .returned vo ∧ w'.ownsRow W.heap.size 46 3 vo (countsL ns).length (cCells (countsL ns)) ∧ Below W.heap.size W w' := fun W hW => hC0 w1.heap.size _ ns W ((hG.below b1).below hW) (HN.out W hW) hW.size (by omega)
      have hcm : ∀ c ∈ countsL ns, ∃ k : Nat, k < 101 ∧ c.k = k ∧ c.n = cntN k ns ∧ 0 < cntN k ns ∧ c.s = wrap64 (cntS k ns) := fun c hc => counts_mem ns 101 c hc
      have hcs := sum_all ns hgood
      have hcl : (countsL ns).length ≤ 101 := countsN_length ns 101
      generalize countsL ns = C at hct hcm hcs hcl
      have HCt : Hid (∀ W, Below w1.heap.size w1 W → Calls Try.prog 24 #[.slice an ns.length kn] W fun e w' => ∃ vo, e = .returned vo ∧ w'.ownsRow W.heap.size 46 3 vo C.length (cCells C) ∧ Below W.heap.size W w') := hct
      have HCm : Hid (∀ c ∈ C, ∃ k : Nat, k < 101 ∧ c.k = k ∧ c.n = cntN k ns ∧ 0 < cntN k ns ∧ c.s = wrap64 (cntS k ns)) := hcm
      have HCs : Hid (sumC C = ns.length) := hcs
      clear hct hcm hcs
      clear hI0 hS0 hC0 hgood own1
      have hpp := hq.p1
      unfold AD.val
      go_wp2_with fail
      have hA0 := heap_alloc_new w2 (.cells #[.int .i64 q.lo, .int .i64 q.hi, .int .i64 q.kind, .int .i64 q.who, .string q.part] 38)
      have bA0 : Below w2.heap.size w2 (w2.alloc (.cells #[.int .i64 q.lo, .int .i64 q.hi, .int .i64 q.kind, .int .i64 q.who, .string q.part] 38)) := (Below.refl _ w2).alloc (Nat.le_refl _) _
      have zA0 : w2.heap.size + 1 ≤ (w2.alloc (.cells #[.int .i64 q.lo, .int .i64 q.hi, .int .i64 q.kind, .int .i64 q.who, .string q.part] 38)).heap.size := by simp
      generalize w2.alloc (.cells #[.int .i64 q.lo, .int .i64 q.hi, .int .i64 q.kind, .int .i64 q.who, .string q.part] 38) = wA at hA0 bA0 zA0 ⊢
      have HC : Hid (∀ W, Below (w2.heap.size + 1) wA W → W.cell? ⟨w2.heap.size, 0, none⟩ = some (.int .i64 q.lo) ∧ W.cell? ⟨w2.heap.size, 1, none⟩ = some (.int .i64 q.hi) ∧ W.cell? ⟨w2.heap.size, 2, none⟩ = some (.int .i64 q.kind) ∧ W.cell? ⟨w2.heap.size, 3, none⟩ = some (.int .i64 q.who) ∧ W.cell? ⟨w2.heap.size, 4, none⟩ = some (.string q.part)) := fun W hW => (b5cells (by rw [hW.block _ (by omega)]; exact hA0)).1
      have HB : Hid (∀ W, Below (w2.heap.size + 1) wA W → Below w1.heap.size w1 W) := fun W hW => (b2.trans (bA0.mono (by omega))).trans (hW.mono (by omega))
      have HE : Hid (∀ W, Below w1.heap.size w1 W → Below w.heap.size w W) := fun W hW => b1.trans (hW.mono (by omega))
      have HR3 : Hid (∀ W, Below w1.heap.size w1 W → Reads W (.slice a2 cs.length cap2) cs) := fun W hW => HR2.out.below' (HE.out W hW) hv2
      have BA : Below (w2.heap.size + 1) wA wA := Below.refl _ _
      clear hA0 bA0
      refine (HF.out _ q (HB.out _ BA) (by omega)).mono ?_; rintro e w3 ⟨v3, rfl, own3, b3⟩
      have z3 := b3.size
      have l3 := own3.lt
      have B3 : Below (w2.heap.size + 1) wA w3 := BA.trans (b3.mono (by omega))
      obtain ⟨c0, c1, c2, c3, c4⟩ := HC.out _ B3
      go_wp2_with fail
      refine (HFs.out _ q (HB.out _ B3) (by omega)).mono ?_; rintro e w4 ⟨v4, rfl, own4, b4⟩
      have z4 := b4.size
      have own34 := own_at own3 b4 (Nat.le_refl _)
      have B4 : Below (w2.heap.size + 1) wA w4 := B3.trans (b4.mono (by omega))
      have hfl := findN_length q ns 0
      have hfl2 : (findL ns q).length ≤ 1000000000 := by unfold findL; omega
      obtain ⟨a3, k3, rfl⟩ : ∃ a cap, v3 = .slice a (findL ns q).length cap := by obtain ⟨a, cap, e, _⟩ := (own_rdi own3).1; exact ⟨a, cap, e⟩
      clear own3 hfl c0 c1 c2 c3 c4
      go_wp2_with fail
      refine (wInts_same _ _ (findL ns q) _ (own_rdi own34).1 (own_rdi own4).1 hfl2).mono ?_; rintro e w5 ⟨rfl, m5, hw5⟩
      have b5 : Below w4.heap.size w4 w5 := by rw [hw5]; exact below_drewN (Below.refl _ _) m5
      have z5 := b5.size
      have B5 : Below (w2.heap.size + 1) wA w5 := B4.trans (b5.mono (by omega))
      obtain ⟨c0, c1, c2, c3, c4⟩ := HC.out _ B5
      have HW : Hid (∀ W, Below w1.heap.size w1 W → Calls Try.prog 19 #[.slice a2 cs.length cap2, .int .i64 5] W fun e w' => ∃ n : Nat, e = .returned (.int .i64 n) ∧ n ≤ 255 ∧ w' = W) := fun W hW => wByteA_any _ cs 5 W (HR3.out W hW) hb2 (by omega) (by omega)
      have hq0 := hq.l0
      have hq1 := hq.l1
      have hq2 := hq.h0
      have hq3 := hq.h1
      clear own34 own4 hw5 l3
      go_wp2_with fail
      go_region_held3 (fun w' => w'.cell? ⟨w2.heap.size, 0, none⟩ = some (.int .i64 q.lo)) (first | exact c0 | exact (HC.out _ B5.drew).1)
        ((go_at_call 19; refine (HW.out _ (HB.out _ B5).drew).mono ?_; rintro e w6 ⟨n, rfl, hn, rfl⟩))
      have hwr : IntKind.i64.wrap (q.lo + (n : Int)) = q.lo + n := by
        simp only [IntKind.wrap, IntKind.bits, IntKind.signed]
        simp
        omega
      rw [hwr]
      have ne25 : w2.heap.size ≠ w5.heap.size := by omega
      have ne52 : w5.heap.size ≠ w2.heap.size := by omega
      have ne26 : w2.heap.size ≠ w5.heap.size + 1 := by omega
      have ne62 : w5.heap.size + 1 ≠ w2.heap.size := by omega
      have hca : ∀ o, (w5.alloc o).cell? ⟨w2.heap.size, 0, none⟩ = some (.int .i64 q.lo) ∧ (w5.alloc o).cell? ⟨w2.heap.size, 1, none⟩ = some (.int .i64 q.hi) ∧ (w5.alloc o).cell? ⟨w2.heap.size, 2, none⟩ = some (.int .i64 q.kind) ∧ (w5.alloc o).cell? ⟨w2.heap.size, 3, none⟩ = some (.int .i64 q.who) ∧ (w5.alloc o).cell? ⟨w2.heap.size, 4, none⟩ = some (.string q.part) := fun o => HC.out _ (B5.alloc (by omega) o)
      have hca0 := fun o => (hca o).1
      have hca1 := fun o => (hca o).2.1
      have hca2 := fun o => (hca o).2.2.1
      have hca3 := fun o => (hca o).2.2.2.1
      have hca4 := fun o => (hca o).2.2.2.2
      clear hca
      by_cases hmid : q.hi < q.lo + n
      · go_wp2_with fail
        have hL0 : (((w5.alloc (.cells #[.int .i64 q.lo, .int .i64 q.hi, .int .i64 q.kind, .int .i64 q.who, .string q.part] 38)).alloc (.cells #[.int .i64 (q.hi + 1), .int .i64 q.hi, .int .i64 q.kind, .int .i64 q.who, .string q.part] 38)).drew).heap[w5.heap.size]? = some (.cells #[.int .i64 q.lo, .int .i64 q.hi, .int .i64 q.kind, .int .i64 q.who, .string q.part] 38 (0, 0)) := by show ((w5.alloc (.cells #[.int .i64 q.lo, .int .i64 q.hi, .int .i64 q.kind, .int .i64 q.who, .string q.part] 38)).alloc (.cells #[.int .i64 (q.hi + 1), .int .i64 q.hi, .int .i64 q.kind, .int .i64 q.who, .string q.part] 38)).heap[w5.heap.size]? = _; rw [Below.heap_alloc _ _ _ (by simp)]; exact heap_alloc_new w5 _
        have hH0 : (((w5.alloc (.cells #[.int .i64 q.lo, .int .i64 q.hi, .int .i64 q.kind, .int .i64 q.who, .string q.part] 38)).alloc (.cells #[.int .i64 (q.hi + 1), .int .i64 q.hi, .int .i64 q.kind, .int .i64 q.who, .string q.part] 38)).drew).heap[w5.heap.size + 1]? = some (.cells #[.int .i64 (q.hi + 1), .int .i64 q.hi, .int .i64 q.kind, .int .i64 q.who, .string q.part] 38 (0, 0)) := by show ((w5.alloc (.cells #[.int .i64 q.lo, .int .i64 q.hi, .int .i64 q.kind, .int .i64 q.who, .string q.part] 38)).alloc (.cells #[.int .i64 (q.hi + 1), .int .i64 q.hi, .int .i64 q.kind, .int .i64 q.who, .string q.part] 38)).heap[w5.heap.size + 1]? = _; have h := heap_alloc_new (w5.alloc (.cells #[.int .i64 q.lo, .int .i64 q.hi, .int .i64 q.kind, .int .i64 q.who, .string q.part] 38)) (.cells #[.int .i64 (q.hi + 1), .int .i64 q.hi, .int .i64 q.kind, .int .i64 q.who, .string q.part] 38); rw [World.size_alloc] at h; exact h
        have bL0 : Below w5.heap.size w5 (((w5.alloc (.cells #[.int .i64 q.lo, .int .i64 q.hi, .int .i64 q.kind, .int .i64 q.who, .string q.part] 38)).alloc (.cells #[.int .i64 (q.hi + 1), .int .i64 q.hi, .int .i64 q.kind, .int .i64 q.who, .string q.part] 38)).drew) := (((Below.refl _ w5).alloc (Nat.le_refl _) _).alloc (by simp) _).drew
        have zL0 : w5.heap.size + 1 + 1 ≤ (((w5.alloc (.cells #[.int .i64 q.lo, .int .i64 q.hi, .int .i64 q.kind, .int .i64 q.who, .string q.part] 38)).alloc (.cells #[.int .i64 (q.hi + 1), .int .i64 q.hi, .int .i64 q.kind, .int .i64 q.who, .string q.part] 38)).drew).heap.size := by show _ ≤ ((w5.alloc (.cells #[.int .i64 q.lo, .int .i64 q.hi, .int .i64 q.kind, .int .i64 q.who, .string q.part] 38)).alloc (.cells #[.int .i64 (q.hi + 1), .int .i64 q.hi, .int .i64 q.kind, .int .i64 q.who, .string q.part] 38)).heap.size; simp
        generalize ((w5.alloc (.cells #[.int .i64 q.lo, .int .i64 q.hi, .int .i64 q.kind, .int .i64 q.who, .string q.part] 38)).alloc (.cells #[.int .i64 (q.hi + 1), .int .i64 q.hi, .int .i64 q.kind, .int .i64 q.who, .string q.part] 38)).drew = wL at hL0 hH0 bL0 zL0 ⊢
        have HL : Hid (∀ W, Below (w5.heap.size + 1 + 1) wL W → (W.cell? ⟨w5.heap.size, 0, none⟩ = some (.int .i64 q.lo) ∧ W.cell? ⟨w5.heap.size, 1, none⟩ = some (.int .i64 q.hi) ∧ W.cell? ⟨w5.heap.size, 2, none⟩ = some (.int .i64 q.kind) ∧ W.cell? ⟨w5.heap.size, 3, none⟩ = some (.int .i64 q.who) ∧ W.cell? ⟨w5.heap.size, 4, none⟩ = some (.string q.part)) ∧ (W.cell? ⟨(w5.heap.size + 1), 0, none⟩ = some (.int .i64 (q.hi + 1)) ∧ W.cell? ⟨(w5.heap.size + 1), 1, none⟩ = some (.int .i64 q.hi) ∧ W.cell? ⟨(w5.heap.size + 1), 2, none⟩ = some (.int .i64 q.kind) ∧ W.cell? ⟨(w5.heap.size + 1), 3, none⟩ = some (.int .i64 q.who) ∧ W.cell? ⟨(w5.heap.size + 1), 4, none⟩ = some (.string q.part))) := fun W hW => ⟨(b5cells (by rw [hW.block _ (by omega)]; exact hL0)).1, (b5cells (by rw [hW.block _ (by omega)]; exact hH0)).1⟩
        have HM : Hid (∀ W, Below (w5.heap.size + 1 + 1) wL W → Below (w2.heap.size + 1) wA W) := fun W hW => (B5.trans (bL0.mono (by omega))).trans (hW.mono (by omega))
        have BL : Below (w5.heap.size + 1 + 1) wL wL := Below.refl _ _
        obtain ⟨⟨e0, e1, e2, e3, e4⟩, f0, f1, f2, f3, f4⟩ := HL.out _ BL
        have hp9 : q.part.size ≤ 1000000000 := by omega
        have HF2 : Hid (∀ W (lo hi kind who : Int) (part : ByteArray), Below (w5.heap.size + 1 + 1) wL W → part.size ≤ 1000000000 → Calls Try.prog 21 #[.slice an ns.length kn, .agg #[.int .i64 lo, .int .i64 hi, .int .i64 kind, .int .i64 who, .string part]] W fun e w' => ∃ vo, e = .returned vo ∧ w'.ownsRow W.heap.size 3 1 vo (findL ns ⟨lo, hi, kind, who, part⟩).length ((findL ns ⟨lo, hi, kind, who, part⟩).map (Value.int .i64)) ∧ Below W.heap.size W w') := fun W lo hi kind who part hW hp => HF.out W ⟨lo, hi, kind, who, part⟩ (HB.out _ (HM.out _ hW)) hp
        have hlA := findN_length (⟨q.lo, q.hi, q.kind, q.who, q.part⟩ : AD) ns 0
        have hlB := findN_length (⟨(q.hi + 1), q.hi, q.kind, q.who, q.part⟩ : AD) ns 0
        have hlA' : (findL ns (⟨q.lo, q.hi, q.kind, q.who, q.part⟩ : AD)).length ≤ 11 := by unfold findL; omega
        have hlB' : (findL ns (⟨(q.hi + 1), q.hi, q.kind, q.who, q.part⟩ : AD)).length ≤ 11 := by unfold findL; omega
        clear hlA hlB hL0 hH0 bL0 c0 c1 c2 c3 c4 hca0 hca1 hca2 hca3 hca4
        go_region_held3 (fun w' => (w'.cell? ⟨w5.heap.size, 0, none⟩ = some (.int .i64 q.lo) ∧ w'.cell? ⟨w5.heap.size, 1, none⟩ = some (.int .i64 q.hi) ∧ w'.cell? ⟨w5.heap.size, 2, none⟩ = some (.int .i64 q.kind) ∧ w'.cell? ⟨w5.heap.size, 3, none⟩ = some (.int .i64 q.who) ∧ w'.cell? ⟨w5.heap.size, 4, none⟩ = some (.string q.part)) ∧ (w'.cell? ⟨(w5.heap.size + 1), 0, none⟩ = some (.int .i64 (q.hi + 1)) ∧ w'.cell? ⟨(w5.heap.size + 1), 1, none⟩ = some (.int .i64 q.hi) ∧ w'.cell? ⟨(w5.heap.size + 1), 2, none⟩ = some (.int .i64 q.kind) ∧ w'.cell? ⟨(w5.heap.size + 1), 3, none⟩ = some (.int .i64 q.who) ∧ w'.cell? ⟨(w5.heap.size + 1), 4, none⟩ = some (.string q.part))) (first | exact ⟨⟨e0, e1, e2, e3, e4⟩, f0, f1, f2, f3, f4⟩ | exact HL.out _ (BL.drew.trans (bl.mono zL0)) | exact HL.out _ ((BL.drew.trans (bl.mono zL0)).trans (bh.mono (Nat.le_trans zL0 bl.size))))
          ((first | (go_at_call 21; refine (HF2.out _ _ _ _ _ _ (BL.drew.trans (bl.mono zL0)) hp9).mono ?_; rintro e wh ⟨vh, rfl, ownh, bh⟩; obtain ⟨ah, kh, rfl⟩ := own_ln ownh) | (go_at_call 21; refine (HF2.out _ _ _ _ _ _ BL.drew hp9).mono ?_; rintro e wl ⟨vl, rfl, ownl, bl⟩; obtain ⟨al, kl, rfl⟩ := own_ln ownl)))
        have hwr2 : IntKind.i64.wrap (((findL ns (⟨q.lo, q.hi, q.kind, q.who, q.part⟩ : AD)).length : Int) + ((findL ns (⟨(q.hi + 1), q.hi, q.kind, q.who, q.part⟩ : AD)).length : Int)) = ((findL ns (⟨q.lo, q.hi, q.kind, q.who, q.part⟩ : AD)).length : Int) + ((findL ns (⟨(q.hi + 1), q.hi, q.kind, q.who, q.part⟩ : AD)).length : Int) := by
          simp only [IntKind.wrap, IntKind.bits, IntKind.signed]
          simp
          omega
        rw [hwr2]
        clear hwr2
        have hsp : q.lo ≤ q.hi → (findL ns (⟨q.lo, q.hi, q.kind, q.who, q.part⟩ : AD)).length + (findL ns (⟨(q.hi + 1), q.hi, q.kind, q.who, q.part⟩ : AD)).length = (findL ns q).length := fun h => find_split ns q q.hi (by omega) (by omega)
        have zl : wL.heap.size ≤ wl.heap.size := bl.size
        have zh := bh.size
        have Bh : Below (w5.heap.size + 1 + 1) wL wh := (BL.drew.trans (bl.mono zL0)).trans (bh.mono (Nat.le_trans zL0 bl.size))
        have hnn : q.lo ≤ q.hi → ((((findL ns (⟨q.lo, q.hi, q.kind, q.who, q.part⟩ : AD)).length : Int) + ((findL ns (⟨(q.hi + 1), q.hi, q.kind, q.who, q.part⟩ : AD)).length : Int)) != ((findL ns q).length : Int)) = false := fun h => by have := hsp h; simp only [bne_eq_false_iff_eq]; omega
        clear ownl ownh bl bh e0 e1 e2 e3 e4 f0 f1 f2 f3 f4 hsp
        have Bm : Below (w2.heap.size + 1) wA wh := HM.out _ Bh
        have zm : w2.heap.size + 1 ≤ wh.heap.size := by omega
        obtain ⟨c0, c1, c2, c3, c4⟩ := HC.out _ Bm
        clear HL HM HF2 BL
        by_cases hle : q.lo ≤ q.hi
        all_goals try (exfalso; omega)
        all_goals
          first | (have hnn2 := hnn hle) | skip
          clear hnn
          go_wp2_with fail
          refine (HCt.out _ (HB.out _ Bm)).mono ?_; rintro e wc ⟨vc, rfl, ownc, bc⟩
          have zc := bc.size
          have Bc : Below (w2.heap.size + 1) wA wc := Bm.trans (bc.mono (by omega))
          have HRC : Hid (∀ W, Below wc.heap.size wc W → RdC W vc C) := fun W hW => own_rdc (own_at ownc hW (Nat.le_refl _))
          obtain ⟨ac, kc, rfl⟩ : ∃ a cap, vc = .slice a C.length cap := by obtain ⟨a, cap, e, _⟩ := own_rdc ownc; exact ⟨a, cap, e⟩
          clear ownc c0 c1 c2 c3 c4
          go_wp2_with fail
          go_loopw [12, 84] (fun o i wr => ∃ (j : Nat) (sm : Int), j ≤ C.length ∧ i = .int .i64 j ∧ o = .int .i64 sm ∧ sm = sumC (C.take j) ∧ 0 ≤ sm ∧ sm ≤ 11 * j ∧ Below wc.heap.size wc wr) (fun _ i _ => C.length - (intOf i).toNat)
          case atStart => exact ⟨0, 0, Nat.zero_le _, rfl, rfl, by simp [sumC], by omega, by omega, Below.refl _ _⟩
          case round =>
            obtain ⟨j, sm, hj, rfl, rfl, hsm, hs0, hs1, hb⟩ := hrel
            have HSM : Hid (sm = sumC (C.take j)) := hsm
            clear hsm
            obtain ⟨wo, hwo⟩ : ∃ wo, wo = wr := ⟨wr, rfl⟩
            subst hwo
            have zo := hb.size
            have Bo : Below (w2.heap.size + 1) wA wo := Bc.trans (hb.mono (by omega))
            by_cases hlt : j < C.length
            · obtain ⟨a', cp', e', _, _, hx'⟩ := HRC.out wo hb
              simp only [Value.slice.injEq] at e'
              obtain ⟨rfl, _, rfl⟩ := e'
              obtain ⟨gc, oc, rfl, hgc, m0, m1, m2⟩ := hx' j hlt
              obtain ⟨k, hk, ek, en, h0, es⟩ := HCm.out C[j] (List.getElem_mem hlt)
              have HT : Hid (sumC (C.take (j + 1)) = sumC (C.take j) + C[j].n) := by show _ = _; rw [List.take_succ_eq_append_getElem hlt, sumC_append]; simp [sumC]
              rw [ek] at m0
              rw [en] at m1 HT
              rw [es] at m2
              have hkl := find_kind k (by omega) ns HG.out
              have hks := sum_kind k (by omega) ns HG.out
              have hkm := findL_mem ns (kindAsk k)
              have hkc := cntN_le k ns
              have hfk : ∀ W, Below w1.heap.size w1 W → Calls Try.prog 21 #[.slice an ns.length kn, .agg #[.int .i64 0, .int .i64 1000000000, .int .i64 k, .int .i64 (-1), .string ByteArray.empty]] W fun e w' => ∃ vo, e = .returned vo ∧ w'.ownsRow W.heap.size 3 1 vo (findL ns (kindAsk k)).length ((findL ns (kindAsk k)).map (Value.int .i64)) ∧ Below W.heap.size W w' := fun W hW => HF.out W (kindAsk k) hW (by simp [kindAsk])
              rw [hkl] at hfk
              generalize findL ns (kindAsk k) = K at hkl hks hkm hfk
              generalize cntS k ns = qs at m2 hks
              generalize cntN k ns = qn at m1 hkl hkc hfk h0 HT
              have HFK : Hid (∀ W, Below w1.heap.size w1 W → Calls Try.prog 21 #[.slice an ns.length kn, .agg #[.int .i64 0, .int .i64 1000000000, .int .i64 k, .int .i64 (-1), .string ByteArray.empty]] W fun e w' => ∃ vo, e = .returned vo ∧ w'.ownsRow W.heap.size 3 1 vo qn (K.map (Value.int .i64)) ∧ Below W.heap.size W w') := hfk
              have HKL : Hid (K.length = qn) := hkl
              have HKS : Hid (sumAt ns K = qs) := hks
              have HKM : Hid (∀ x, x ∈ K → 0 ≤ x ∧ x < ns.length) := hkm
              have q0 : (0 : Int) ≤ (j : Int) := by omega
              have q1 : (j : Int) < (C.length : Int) := by omega
              clear hfk hkl hks hkm hx' ek en es
              go_wp2_with fail
              refine (HFK.out _ (HB.out _ (Bo.alloc (by omega) _))).mono ?_; rintro e w7 ⟨vk, rfl, ownk, b7⟩
              have z7 := b7.size
              simp only [World.size_alloc] at z7
              have hC7 : w7.heap[wo.heap.size]? = some (.cells #[.int .i64 k, .int .i64 qn, .int .i64 (wrap64 qs)] 46 (0, 0)) := by rw [b7.block _ (by simp)]; exact heap_alloc_new wo _
              have c1 : w7.cell? ⟨wo.heap.size, 1, none⟩ = some (.int .i64 qn) := by rw [Joins.cell_of_block hC7]; rfl
              have c2 : w7.cell? ⟨wo.heap.size, 2, none⟩ = some (.int .i64 (wrap64 qs)) := by rw [Joins.cell_of_block hC7]; rfl
              have bo7 : Below wo.heap.size wo w7 := ((Below.refl _ wo).alloc (Nat.le_refl _) _).trans (b7.mono (by simp))
              have B7 : Below (w2.heap.size + 1) wA w7 := Bo.trans (bo7.mono (by omega))
              have HRI : Hid (RdI w7 vk K) := (own_rdi ownk).1
              have hkf : ∃ a cap, vk = .slice a qn cap := own_ln ownk
              obtain ⟨ak, kk, rfl⟩ := hkf
              have n0 : ((qn : Int) != (qn : Int)) = false := by simp
              have n1 : ((qn : Int) == 0) = false := by simp; omega
              have HN7 : Hid (RNS w1.heap.size w7 (.slice an ns.length kn) ns) := HN.out _ (HB.out _ B7)
              clear ownk b7 hC7 m0 m1 m2
              go_wp2_with fail
              go_loopw [16, 105] (fun o i wq => ∃ (t : Nat), t ≤ qn ∧ i = .int .i64 t ∧ o = .int .i64 (wrap64 (sumAt ns (K.take t))) ∧ wq = w7) (fun _ i _ => qn - (intOf i).toNat)
              case atStart => exact ⟨0, Nat.zero_le _, rfl, by simp [sumAt, wrap64], rfl⟩
              case round =>
                obtain ⟨t, ht, rfl, rfl, rfl⟩ := hrel
                by_cases htl : t < qn
                · have htK : t < K.length := by rw [HKL.out]; exact htl
                  obtain ⟨a8, cp8, e8, _, _, hx8⟩ := HRI.out
                  simp only [Value.slice.injEq] at e8
                  obtain ⟨rfl, _, rfl⟩ := e8
                  obtain ⟨gk, ok, rfl, hgk, hcx⟩ := hx8 t htK
                  have hex : K.getD t 0 = K[t] := by simp [List.getD_eq_getElem?_getD, List.getElem?_eq_getElem htK]
                  rw [hex] at hcx
                  obtain ⟨hx0, hx1⟩ := HKM.out K[t] (List.getElem_mem htK)
                  have HTS : Hid (sumAt ns (K.take (t + 1)) = sumAt ns (K.take t) + numAt ns K[t]) := by show _ = _; rw [List.take_succ_eq_append_getElem htK, sumAt_append]; simp [sumAt]
                  generalize K[t] = x at hcx hx0 hx1 HTS
                  obtain ⟨xn, rfl⟩ := Int.eq_ofNat_of_zero_le hx0
                  have hxn : xn < ns.length := by omega
                  have HNA : Hid (numAt ns (xn : Int) = ns[xn].n) := by show _ = _; unfold numAt; simp [List.getElem?_eq_getElem hxn]
                  obtain ⟨a9, cp9, e9, _, _, hx9⟩ := HN7.out
                  simp only [Value.slice.injEq] at e9
                  obtain ⟨rfl, _, rfl⟩ := e9
                  obtain ⟨gn, on, rfl, hgn, y0, y1, y2, y3, y4⟩ := hx9 xn hxn
                  generalize ns[xn].n = nn at y3 HNA
                  have r0 : (0 : Int) ≤ (t : Int) := by omega
                  have r1 : (t : Int) < (qn : Int) := by omega
                  clear hx8 hx9 hex y0 y1 y2 y4
                  go_wp2
                  go_roundw
                  case rel => exact ⟨t + 1, by omega, by go_num, by rw [HTS.out, HNA.out, wrap_add], trivial⟩
                  case measure => simp [intOf]; omega
                · have htq : t = qn := by omega
                  have HSQ : Hid (sumAt ns (K.take t) = qs) := by show _ = _; rw [htq, ← HKL.out, List.take_length, HKS.out]
                  clear htq
                  rw [HSQ.out]
                  have n2 : (wrap64 qs != wrap64 qs) = false := by simp
                  go_wp2
                  go_roundw
                  case rel => exact ⟨j + 1, sm + qn, by omega, by go_num, by go_num, by rw [HT.out, HSM.out], by omega, by omega, hb.trans (bo7.mono (by omega))⟩
                  case measure => simp [intOf]; omega
            · have hjC : j = C.length := by omega
              have HX : Hid (sm = ns.length) := by show _ = _; rw [HSM.out, hjC, List.take_length, HCs.out]
              clear hjC
              have hxx : ((sm : Int) == (ns.length : Int)) = true := by rw [HX.out]; simp
              go_wp2
              go_ret
              exact ⟨rfl, HE.out _ (HB.out _ Bo)⟩
      · go_wp2_with fail
        have hL0 : (((w5.alloc (.cells #[.int .i64 q.lo, .int .i64 (q.lo + n), .int .i64 q.kind, .int .i64 q.who, .string q.part] 38)).alloc (.cells #[.int .i64 (q.lo + n + 1), .int .i64 q.hi, .int .i64 q.kind, .int .i64 q.who, .string q.part] 38)).drew).heap[w5.heap.size]? = some (.cells #[.int .i64 q.lo, .int .i64 (q.lo + n), .int .i64 q.kind, .int .i64 q.who, .string q.part] 38 (0, 0)) := by show ((w5.alloc (.cells #[.int .i64 q.lo, .int .i64 (q.lo + n), .int .i64 q.kind, .int .i64 q.who, .string q.part] 38)).alloc (.cells #[.int .i64 (q.lo + n + 1), .int .i64 q.hi, .int .i64 q.kind, .int .i64 q.who, .string q.part] 38)).heap[w5.heap.size]? = _; rw [Below.heap_alloc _ _ _ (by simp)]; exact heap_alloc_new w5 _
        have hH0 : (((w5.alloc (.cells #[.int .i64 q.lo, .int .i64 (q.lo + n), .int .i64 q.kind, .int .i64 q.who, .string q.part] 38)).alloc (.cells #[.int .i64 (q.lo + n + 1), .int .i64 q.hi, .int .i64 q.kind, .int .i64 q.who, .string q.part] 38)).drew).heap[w5.heap.size + 1]? = some (.cells #[.int .i64 (q.lo + n + 1), .int .i64 q.hi, .int .i64 q.kind, .int .i64 q.who, .string q.part] 38 (0, 0)) := by show ((w5.alloc (.cells #[.int .i64 q.lo, .int .i64 (q.lo + n), .int .i64 q.kind, .int .i64 q.who, .string q.part] 38)).alloc (.cells #[.int .i64 (q.lo + n + 1), .int .i64 q.hi, .int .i64 q.kind, .int .i64 q.who, .string q.part] 38)).heap[w5.heap.size + 1]? = _; have h := heap_alloc_new (w5.alloc (.cells #[.int .i64 q.lo, .int .i64 (q.lo + n), .int .i64 q.kind, .int .i64 q.who, .string q.part] 38)) (.cells #[.int .i64 (q.lo + n + 1), .int .i64 q.hi, .int .i64 q.kind, .int .i64 q.who, .string q.part] 38); rw [World.size_alloc] at h; exact h
        have bL0 : Below w5.heap.size w5 (((w5.alloc (.cells #[.int .i64 q.lo, .int .i64 (q.lo + n), .int .i64 q.kind, .int .i64 q.who, .string q.part] 38)).alloc (.cells #[.int .i64 (q.lo + n + 1), .int .i64 q.hi, .int .i64 q.kind, .int .i64 q.who, .string q.part] 38)).drew) := (((Below.refl _ w5).alloc (Nat.le_refl _) _).alloc (by simp) _).drew
        have zL0 : w5.heap.size + 1 + 1 ≤ (((w5.alloc (.cells #[.int .i64 q.lo, .int .i64 (q.lo + n), .int .i64 q.kind, .int .i64 q.who, .string q.part] 38)).alloc (.cells #[.int .i64 (q.lo + n + 1), .int .i64 q.hi, .int .i64 q.kind, .int .i64 q.who, .string q.part] 38)).drew).heap.size := by show _ ≤ ((w5.alloc (.cells #[.int .i64 q.lo, .int .i64 (q.lo + n), .int .i64 q.kind, .int .i64 q.who, .string q.part] 38)).alloc (.cells #[.int .i64 (q.lo + n + 1), .int .i64 q.hi, .int .i64 q.kind, .int .i64 q.who, .string q.part] 38)).heap.size; simp
        generalize ((w5.alloc (.cells #[.int .i64 q.lo, .int .i64 (q.lo + n), .int .i64 q.kind, .int .i64 q.who, .string q.part] 38)).alloc (.cells #[.int .i64 (q.lo + n + 1), .int .i64 q.hi, .int .i64 q.kind, .int .i64 q.who, .string q.part] 38)).drew = wL at hL0 hH0 bL0 zL0 ⊢
        have HL : Hid (∀ W, Below (w5.heap.size + 1 + 1) wL W → (W.cell? ⟨w5.heap.size, 0, none⟩ = some (.int .i64 q.lo) ∧ W.cell? ⟨w5.heap.size, 1, none⟩ = some (.int .i64 (q.lo + n)) ∧ W.cell? ⟨w5.heap.size, 2, none⟩ = some (.int .i64 q.kind) ∧ W.cell? ⟨w5.heap.size, 3, none⟩ = some (.int .i64 q.who) ∧ W.cell? ⟨w5.heap.size, 4, none⟩ = some (.string q.part)) ∧ (W.cell? ⟨(w5.heap.size + 1), 0, none⟩ = some (.int .i64 (q.lo + n + 1)) ∧ W.cell? ⟨(w5.heap.size + 1), 1, none⟩ = some (.int .i64 q.hi) ∧ W.cell? ⟨(w5.heap.size + 1), 2, none⟩ = some (.int .i64 q.kind) ∧ W.cell? ⟨(w5.heap.size + 1), 3, none⟩ = some (.int .i64 q.who) ∧ W.cell? ⟨(w5.heap.size + 1), 4, none⟩ = some (.string q.part))) := fun W hW => ⟨(b5cells (by rw [hW.block _ (by omega)]; exact hL0)).1, (b5cells (by rw [hW.block _ (by omega)]; exact hH0)).1⟩
        have HM : Hid (∀ W, Below (w5.heap.size + 1 + 1) wL W → Below (w2.heap.size + 1) wA W) := fun W hW => (B5.trans (bL0.mono (by omega))).trans (hW.mono (by omega))
        have BL : Below (w5.heap.size + 1 + 1) wL wL := Below.refl _ _
        obtain ⟨⟨e0, e1, e2, e3, e4⟩, f0, f1, f2, f3, f4⟩ := HL.out _ BL
        have hp9 : q.part.size ≤ 1000000000 := by omega
        have HF2 : Hid (∀ W (lo hi kind who : Int) (part : ByteArray), Below (w5.heap.size + 1 + 1) wL W → part.size ≤ 1000000000 → Calls Try.prog 21 #[.slice an ns.length kn, .agg #[.int .i64 lo, .int .i64 hi, .int .i64 kind, .int .i64 who, .string part]] W fun e w' => ∃ vo, e = .returned vo ∧ w'.ownsRow W.heap.size 3 1 vo (findL ns ⟨lo, hi, kind, who, part⟩).length ((findL ns ⟨lo, hi, kind, who, part⟩).map (Value.int .i64)) ∧ Below W.heap.size W w') := fun W lo hi kind who part hW hp => HF.out W ⟨lo, hi, kind, who, part⟩ (HB.out _ (HM.out _ hW)) hp
        have hlA := findN_length (⟨q.lo, (q.lo + n), q.kind, q.who, q.part⟩ : AD) ns 0
        have hlB := findN_length (⟨(q.lo + n + 1), q.hi, q.kind, q.who, q.part⟩ : AD) ns 0
        have hlA' : (findL ns (⟨q.lo, (q.lo + n), q.kind, q.who, q.part⟩ : AD)).length ≤ 11 := by unfold findL; omega
        have hlB' : (findL ns (⟨(q.lo + n + 1), q.hi, q.kind, q.who, q.part⟩ : AD)).length ≤ 11 := by unfold findL; omega
        clear hlA hlB hL0 hH0 bL0 c0 c1 c2 c3 c4 hca0 hca1 hca2 hca3 hca4
        go_region_held3 (fun w' => (w'.cell? ⟨w5.heap.size, 0, none⟩ = some (.int .i64 q.lo) ∧ w'.cell? ⟨w5.heap.size, 1, none⟩ = some (.int .i64 (q.lo + n)) ∧ w'.cell? ⟨w5.heap.size, 2, none⟩ = some (.int .i64 q.kind) ∧ w'.cell? ⟨w5.heap.size, 3, none⟩ = some (.int .i64 q.who) ∧ w'.cell? ⟨w5.heap.size, 4, none⟩ = some (.string q.part)) ∧ (w'.cell? ⟨(w5.heap.size + 1), 0, none⟩ = some (.int .i64 (q.lo + n + 1)) ∧ w'.cell? ⟨(w5.heap.size + 1), 1, none⟩ = some (.int .i64 q.hi) ∧ w'.cell? ⟨(w5.heap.size + 1), 2, none⟩ = some (.int .i64 q.kind) ∧ w'.cell? ⟨(w5.heap.size + 1), 3, none⟩ = some (.int .i64 q.who) ∧ w'.cell? ⟨(w5.heap.size + 1), 4, none⟩ = some (.string q.part))) (first | exact ⟨⟨e0, e1, e2, e3, e4⟩, f0, f1, f2, f3, f4⟩ | exact HL.out _ (BL.drew.trans (bl.mono zL0)) | exact HL.out _ ((BL.drew.trans (bl.mono zL0)).trans (bh.mono (Nat.le_trans zL0 bl.size))))
          ((first | (go_at_call 21; refine (HF2.out _ _ _ _ _ _ (BL.drew.trans (bl.mono zL0)) hp9).mono ?_; rintro e wh ⟨vh, rfl, ownh, bh⟩; obtain ⟨ah, kh, rfl⟩ := own_ln ownh) | (go_at_call 21; refine (HF2.out _ _ _ _ _ _ BL.drew hp9).mono ?_; rintro e wl ⟨vl, rfl, ownl, bl⟩; obtain ⟨al, kl, rfl⟩ := own_ln ownl)))
        have hwr2 : IntKind.i64.wrap (((findL ns (⟨q.lo, (q.lo + n), q.kind, q.who, q.part⟩ : AD)).length : Int) + ((findL ns (⟨(q.lo + n + 1), q.hi, q.kind, q.who, q.part⟩ : AD)).length : Int)) = ((findL ns (⟨q.lo, (q.lo + n), q.kind, q.who, q.part⟩ : AD)).length : Int) + ((findL ns (⟨(q.lo + n + 1), q.hi, q.kind, q.who, q.part⟩ : AD)).length : Int) := by
          simp only [IntKind.wrap, IntKind.bits, IntKind.signed]
          simp
          omega
        rw [hwr2]
        clear hwr2
        have hsp : q.lo ≤ q.hi → (findL ns (⟨q.lo, (q.lo + n), q.kind, q.who, q.part⟩ : AD)).length + (findL ns (⟨(q.lo + n + 1), q.hi, q.kind, q.who, q.part⟩ : AD)).length = (findL ns q).length := fun h => find_split ns q (q.lo + n) (by omega) (by omega)
        have zl : wL.heap.size ≤ wl.heap.size := bl.size
        have zh := bh.size
        have Bh : Below (w5.heap.size + 1 + 1) wL wh := (BL.drew.trans (bl.mono zL0)).trans (bh.mono (Nat.le_trans zL0 bl.size))
        have hnn : q.lo ≤ q.hi → ((((findL ns (⟨q.lo, (q.lo + n), q.kind, q.who, q.part⟩ : AD)).length : Int) + ((findL ns (⟨(q.lo + n + 1), q.hi, q.kind, q.who, q.part⟩ : AD)).length : Int)) != ((findL ns q).length : Int)) = false := fun h => by have := hsp h; simp only [bne_eq_false_iff_eq]; omega
        clear ownl ownh bl bh e0 e1 e2 e3 e4 f0 f1 f2 f3 f4 hsp
        have Bm : Below (w2.heap.size + 1) wA wh := HM.out _ Bh
        have zm : w2.heap.size + 1 ≤ wh.heap.size := by omega
        obtain ⟨c0, c1, c2, c3, c4⟩ := HC.out _ Bm
        clear HL HM HF2 BL
        by_cases hle : q.lo ≤ q.hi
        all_goals try (exfalso; omega)
        all_goals
          first | (have hnn2 := hnn hle) | skip
          clear hnn
          go_wp2_with fail
          refine (HCt.out _ (HB.out _ Bm)).mono ?_; rintro e wc ⟨vc, rfl, ownc, bc⟩
          have zc := bc.size
          have Bc : Below (w2.heap.size + 1) wA wc := Bm.trans (bc.mono (by omega))
          have HRC : Hid (∀ W, Below wc.heap.size wc W → RdC W vc C) := fun W hW => own_rdc (own_at ownc hW (Nat.le_refl _))
          obtain ⟨ac, kc, rfl⟩ : ∃ a cap, vc = .slice a C.length cap := by obtain ⟨a, cap, e, _⟩ := own_rdc ownc; exact ⟨a, cap, e⟩
          clear ownc c0 c1 c2 c3 c4
          go_wp2_with fail
          go_loopw [12, 84] (fun o i wr => ∃ (j : Nat) (sm : Int), j ≤ C.length ∧ i = .int .i64 j ∧ o = .int .i64 sm ∧ sm = sumC (C.take j) ∧ 0 ≤ sm ∧ sm ≤ 11 * j ∧ Below wc.heap.size wc wr) (fun _ i _ => C.length - (intOf i).toNat)
          case atStart => exact ⟨0, 0, Nat.zero_le _, rfl, rfl, by simp [sumC], by omega, by omega, Below.refl _ _⟩
          case round =>
            obtain ⟨j, sm, hj, rfl, rfl, hsm, hs0, hs1, hb⟩ := hrel
            have HSM : Hid (sm = sumC (C.take j)) := hsm
            clear hsm
            obtain ⟨wo, hwo⟩ : ∃ wo, wo = wr := ⟨wr, rfl⟩
            subst hwo
            have zo := hb.size
            have Bo : Below (w2.heap.size + 1) wA wo := Bc.trans (hb.mono (by omega))
            by_cases hlt : j < C.length
            · obtain ⟨a', cp', e', _, _, hx'⟩ := HRC.out wo hb
              simp only [Value.slice.injEq] at e'
              obtain ⟨rfl, _, rfl⟩ := e'
              obtain ⟨gc, oc, rfl, hgc, m0, m1, m2⟩ := hx' j hlt
              obtain ⟨k, hk, ek, en, h0, es⟩ := HCm.out C[j] (List.getElem_mem hlt)
              have HT : Hid (sumC (C.take (j + 1)) = sumC (C.take j) + C[j].n) := by show _ = _; rw [List.take_succ_eq_append_getElem hlt, sumC_append]; simp [sumC]
              rw [ek] at m0
              rw [en] at m1 HT
              rw [es] at m2
              have hkl := find_kind k (by omega) ns HG.out
              have hks := sum_kind k (by omega) ns HG.out
              have hkm := findL_mem ns (kindAsk k)
              have hkc := cntN_le k ns
              have hfk : ∀ W, Below w1.heap.size w1 W → Calls Try.prog 21 #[.slice an ns.length kn, .agg #[.int .i64 0, .int .i64 1000000000, .int .i64 k, .int .i64 (-1), .string ByteArray.empty]] W fun e w' => ∃ vo, e = .returned vo ∧ w'.ownsRow W.heap.size 3 1 vo (findL ns (kindAsk k)).length ((findL ns (kindAsk k)).map (Value.int .i64)) ∧ Below W.heap.size W w' := fun W hW => HF.out W (kindAsk k) hW (by simp [kindAsk])
              rw [hkl] at hfk
              generalize findL ns (kindAsk k) = K at hkl hks hkm hfk
              generalize cntS k ns = qs at m2 hks
              generalize cntN k ns = qn at m1 hkl hkc hfk h0 HT
              have HFK : Hid (∀ W, Below w1.heap.size w1 W → Calls Try.prog 21 #[.slice an ns.length kn, .agg #[.int .i64 0, .int .i64 1000000000, .int .i64 k, .int .i64 (-1), .string ByteArray.empty]] W fun e w' => ∃ vo, e = .returned vo ∧ w'.ownsRow W.heap.size 3 1 vo qn (K.map (Value.int .i64)) ∧ Below W.heap.size W w') := hfk
              have HKL : Hid (K.length = qn) := hkl
              have HKS : Hid (sumAt ns K = qs) := hks
              have HKM : Hid (∀ x, x ∈ K → 0 ≤ x ∧ x < ns.length) := hkm
              have q0 : (0 : Int) ≤ (j : Int) := by omega
              have q1 : (j : Int) < (C.length : Int) := by omega
              clear hfk hkl hks hkm hx' ek en es
              go_wp2_with fail
              refine (HFK.out _ (HB.out _ (Bo.alloc (by omega) _))).mono ?_; rintro e w7 ⟨vk, rfl, ownk, b7⟩
              have z7 := b7.size
              simp only [World.size_alloc] at z7
              have hC7 : w7.heap[wo.heap.size]? = some (.cells #[.int .i64 k, .int .i64 qn, .int .i64 (wrap64 qs)] 46 (0, 0)) := by rw [b7.block _ (by simp)]; exact heap_alloc_new wo _
              have c1 : w7.cell? ⟨wo.heap.size, 1, none⟩ = some (.int .i64 qn) := by rw [Joins.cell_of_block hC7]; rfl
              have c2 : w7.cell? ⟨wo.heap.size, 2, none⟩ = some (.int .i64 (wrap64 qs)) := by rw [Joins.cell_of_block hC7]; rfl
              have bo7 : Below wo.heap.size wo w7 := ((Below.refl _ wo).alloc (Nat.le_refl _) _).trans (b7.mono (by simp))
              have B7 : Below (w2.heap.size + 1) wA w7 := Bo.trans (bo7.mono (by omega))
              have HRI : Hid (RdI w7 vk K) := (own_rdi ownk).1
              have hkf : ∃ a cap, vk = .slice a qn cap := own_ln ownk
              obtain ⟨ak, kk, rfl⟩ := hkf
              have n0 : ((qn : Int) != (qn : Int)) = false := by simp
              have n1 : ((qn : Int) == 0) = false := by simp; omega
              have HN7 : Hid (RNS w1.heap.size w7 (.slice an ns.length kn) ns) := HN.out _ (HB.out _ B7)
              clear ownk b7 hC7 m0 m1 m2
              go_wp2_with fail
              go_loopw [16, 105] (fun o i wq => ∃ (t : Nat), t ≤ qn ∧ i = .int .i64 t ∧ o = .int .i64 (wrap64 (sumAt ns (K.take t))) ∧ wq = w7) (fun _ i _ => qn - (intOf i).toNat)
              case atStart => exact ⟨0, Nat.zero_le _, rfl, by simp [sumAt, wrap64], rfl⟩
              case round =>
                obtain ⟨t, ht, rfl, rfl, rfl⟩ := hrel
                by_cases htl : t < qn
                · have htK : t < K.length := by rw [HKL.out]; exact htl
                  obtain ⟨a8, cp8, e8, _, _, hx8⟩ := HRI.out
                  simp only [Value.slice.injEq] at e8
                  obtain ⟨rfl, _, rfl⟩ := e8
                  obtain ⟨gk, ok, rfl, hgk, hcx⟩ := hx8 t htK
                  have hex : K.getD t 0 = K[t] := by simp [List.getD_eq_getElem?_getD, List.getElem?_eq_getElem htK]
                  rw [hex] at hcx
                  obtain ⟨hx0, hx1⟩ := HKM.out K[t] (List.getElem_mem htK)
                  have HTS : Hid (sumAt ns (K.take (t + 1)) = sumAt ns (K.take t) + numAt ns K[t]) := by show _ = _; rw [List.take_succ_eq_append_getElem htK, sumAt_append]; simp [sumAt]
                  generalize K[t] = x at hcx hx0 hx1 HTS
                  obtain ⟨xn, rfl⟩ := Int.eq_ofNat_of_zero_le hx0
                  have hxn : xn < ns.length := by omega
                  have HNA : Hid (numAt ns (xn : Int) = ns[xn].n) := by show _ = _; unfold numAt; simp [List.getElem?_eq_getElem hxn]
                  obtain ⟨a9, cp9, e9, _, _, hx9⟩ := HN7.out
                  simp only [Value.slice.injEq] at e9
                  obtain ⟨rfl, _, rfl⟩ := e9
                  obtain ⟨gn, on, rfl, hgn, y0, y1, y2, y3, y4⟩ := hx9 xn hxn
                  generalize ns[xn].n = nn at y3 HNA
                  have r0 : (0 : Int) ≤ (t : Int) := by omega
                  have r1 : (t : Int) < (qn : Int) := by omega
                  clear hx8 hx9 hex y0 y1 y2 y4
                  go_wp2
                  go_roundw
                  case rel => exact ⟨t + 1, by omega, by go_num, by rw [HTS.out, HNA.out, wrap_add], trivial⟩
                  case measure => simp [intOf]; omega
                · have htq : t = qn := by omega
                  have HSQ : Hid (sumAt ns (K.take t) = qs) := by show _ = _; rw [htq, ← HKL.out, List.take_length, HKS.out]
                  clear htq
                  rw [HSQ.out]
                  have n2 : (wrap64 qs != wrap64 qs) = false := by simp
                  go_wp2
                  go_roundw
                  case rel => exact ⟨j + 1, sm + qn, by omega, by go_num, by go_num, by rw [HT.out, HSM.out], by omega, by omega, hb.trans (bo7.mono (by omega))⟩
                  case measure => simp [intOf]; omega
            · have hjC : j = C.length := by omega
              have HX : Hid (sm = ns.length) := by show _ = _; rw [HSM.out, hjC, List.take_length, HCs.out]
              clear hjC
              have hxx : ((sm : Int) == (ns.length : Int)) = true := by rw [HX.out]; simp
              go_wp2
              go_ret
              exact ⟨rfl, HE.out _ (HB.out _ Bo)⟩

set_option maxRecDepth 100000 in
theorem liftedAsk (hI0 : FindC 21) (hC0 : CountsC 24) (os : Os) (started : os.Started) (H : Type) (enc : TypeId × Value → H) :
    ReturnsInHanded {} Try.checked os 5 .any (Rows.fnAskSpec.pre6 enc Try.prog Try.f5 Rows.fnAskRow.domain false) (Rows.fnAskSpec.post enc Try.prog Try.f5 false true false false) := by
  refine returnsInHanded_of_change_shaped (C := Try.checked) own started (by kernel_rfl) Try.func5
    (ChangeSpec.witness6 (enc := enc) (C := Try.checked) false ⟨#[], #[.slice none 0 0, .slice none 0 0], []⟩ 8 (by kernel_rfl) (by kernel_rfl) (by kernel_rfl) (by kernel_rfl)) ?_
  intro W base args ds gs before hval0 hW hcnd _ hsh _
  have hval : ∀ (j : Nat) t v, Try.f5.params[j]? = some t → args[j]? = some v → Value.okWide Try.prog W .any base t v := hval0
  have hW' := hW
  obtain ⟨p, q, hA0, hV, rfl, hfz, hnd⟩ := hW
  have hA : DataW.TrodAll enc Try.prog W 0 (fun _ => true) true Try.f5.params.toList args.toList ds p := hA0
  rw [Try.params5] at hA hval
  obtain ⟨v0, vs0, d0, ds0, p0, q0, hargs, rfl, rfl, h0, r0⟩ := trodAll_cons hA
  obtain ⟨v1, vs1, d1, ds1, p1, q1, rfl, rfl, rfl, h1, r1⟩ := trodAll_cons r0
  obtain ⟨rfl, rfl, rfl⟩ := trodAll_nil r1
  obtain rfl : args = #[v0, v1] := by cases args; simp_all
  obtain ⟨rfl, rfl⟩ := trodVars_none hV
  have k0 := h0
  have k1 := h1
  have lt1 : ∀ x ∈ p1, x.block < W.heap.size := by obtain ⟨m, hm⟩ := k1; exact DataW.trod_lt m _ _ _ hm
  have lt0 : ∀ x ∈ p0, x.block < W.heap.size := by obtain ⟨m, hm⟩ := k0; exact DataW.trod_lt m _ _ _ hm
  obtain ⟨a0, len0, cap0, rfl⟩ := okWide_slice Try.underlying22 (hval 0 22 v0 rfl rfl)
  obtain ⟨a1, len1, cap1, rfl⟩ := okWide_slice Try.underlying22 (hval 1 22 v1 rfl rfl)
  obtain ⟨z0, w0⟩ : ∃ zs, IsRow W a0 len0 cap0 zs := by
    obtain ⟨fuel, hf⟩ := h0
    rcases open_ints Try.underlying22 Try.underlying5 (by kernel_rfl) hf with ⟨hcs, _⟩ | ⟨x, l, c, zs, hcs, _, hl, hm, hz, _, hcell, hwz⟩
    · simp [Value.cells] at hcs
      obtain ⟨rfl, rfl, rfl⟩ := hcs
      exact ⟨[], .inl ⟨rfl, rfl, rfl, rfl⟩⟩
    · simp [Value.cells] at hcs
      obtain ⟨rfl, rfl, rfl⟩ := hcs
      exact ⟨zs, .inr ⟨_, rfl, hl, hm, by simpa using hz, hcell, hwz⟩⟩
  obtain ⟨z1, w1⟩ : ∃ zs, IsRow W a1 len1 cap1 zs := by
    obtain ⟨fuel, hf⟩ := h1
    rcases open_ints Try.underlying22 Try.underlying5 (by kernel_rfl) hf with ⟨hcs, _⟩ | ⟨x, l, c, zs, hcs, _, hl, hm, hz, _, hcell, hwz⟩
    · simp [Value.cells] at hcs
      obtain ⟨rfl, rfl, rfl⟩ := hcs
      exact ⟨[], .inl ⟨rfl, rfl, rfl, rfl⟩⟩
    · simp [Value.cells] at hcs
      obtain ⟨rfl, rfl, rfl⟩ := hcs
      exact ⟨zs, .inr ⟨_, rfl, hl, hm, by simpa using hz, hcell, hwz⟩⟩
  obtain ⟨bs, hrd, hby, hml, hle, hol⟩ := w0.reads
  obtain ⟨cs, hrd1, hby1, hml1, hle1, hol1⟩ := w1.reads
  clear hA0 hval0
  refine (walkAsk hI0 specFindC hC0 _ _ bs cs W ⟨W, hsh, Below.refl _ _⟩ hrd hrd1 hby hby1 hml hml1 (fun k hk => by rw [hle]; exact hol k hk) (fun k hk => by rw [hle1]; exact hol1 k hk)).mono fun e W' ⟨he, bel⟩ => ?_
  subst he
  exact ⟨_, rfl, _, _, _, [], _, [], hW', trodAll_mk1 (shut_bool Try.underlying4 _), (trodAll_cons_mk (Below.trod laidOut (by kernel_rfl) (of_decide_eq_true (by kernel_rfl)) k0 bel lt0) (trodAll_cons_mk (Below.trod laidOut (by kernel_rfl) (of_decide_eq_true (by kernel_rfl)) k1 bel lt1) trodAll_mk0)), rfl, bel.frame _, fun h => by cases h⟩

theorem ask_of (hI0 : FindC 21) (hC0 : CountsC 24) : Rows.FnAskSaid :=
  OpenClaim.holds_of_wide 5 Try.f5 rfl rfl rfl rfl rfl rfl rfl ⟨rfl, rfl, rfl, rfl, rfl⟩ rfl rfl rfl rfl rfl (by kernel_rfl) Try.func5 (by kernel_rfl)
    (of_decide_eq_true (by kernel_rfl)) (by unfold Func.isWrapper; first | (rw [if_pos (by decide +kernel)]; kernel_rfl) | (rw [if_neg (by decide +kernel)]; exact ⟨rfl, rfl⟩))
    (fun os started H enc _ => liftedAsk hI0 hC0 os started H enc)
end Go.Proofs.Ytepagknkhlpicaa
