/-
  What is counted: spec.Counts.
-/
import Derived.Test.YtepagknkhlpicacCountS
namespace Go.Proofs.Ytepagknkhlpicac
open Go.ChangeShapes Go.WideShapes Go.ChangeAt Go.RowKit Go.Deep
set_option linter.unusedVariables false
set_option linter.unusedSimpArgs false

/-- How many notes of a kind there are, and their sum. -/
def cntN (k : Int) : List ND → Nat
  | [] => 0
  | d :: r => (if d.k = k then 1 else 0) + cntN k r
def cntS (k : Int) : List ND → Int
  | [] => 0
  | d :: r => (if d.k = k then d.n else 0) + cntS k r
theorem cntN_append (k : Int) : ∀ A B : List ND, cntN k (A ++ B) = cntN k A + cntN k B
  | [], B => by simp [cntN]
  | d :: r, B => by simp [cntN, cntN_append k r B]; omega
theorem cntS_append (k : Int) : ∀ A B : List ND, cntS k (A ++ B) = cntS k A + cntS k B
  | [], B => by simp [cntS]
  | d :: r, B => by simp [cntS, cntS_append k r B]; omega
theorem cntN_le (k : Int) : ∀ A : List ND, cntN k A ≤ A.length
  | [] => by simp [cntN]
  | d :: r => by have := cntN_le k r; simp only [cntN, List.length_cons]; split <;> omega
theorem wrap_add (a b : Int) : wrap64 (wrap64 a + b) = wrap64 (a + b) := by unfold wrap64; omega
/-- The counts of the kinds below k. -/
def countsN (ns : List ND) : Nat → List CD
  | 0 => []
  | k + 1 => countsN ns k ++ (if 0 < cntN k ns then [⟨k, cntN k ns, wrap64 (cntS k ns)⟩] else [])
def countsL (ns : List ND) : List CD := countsN ns 101
theorem countsN_length (ns : List ND) : ∀ k, (countsN ns k).length ≤ k
  | 0 => by simp [countsN]
  | k + 1 => by have := countsN_length ns k; simp only [countsN, List.length_append]; split <;> simp <;> omega

theorem infoC : (Try.prog.info? 58).map (fun i => (i.zero, i.size, i.bytes)) = some (some (.agg #[.int .i64 0, .int .i64 0, .int .i64 0]), 3, 24) := by kernel_rfl

set_option maxRecDepth 5000 in
set_option maxHeartbeats 4000000 in
theorem specCounts_any (N : Nat) (v : Value) (ns : List ND) (w : World) (h : RNS N w v ns) (hN : N ≤ w.heap.size) (hl : ns.length ≤ 100000000) :
    Calls Try.prog 16 #[v] w fun e w' => ∃ vo, e = .returned vo ∧ w'.ownsRow w.heap.size 58 3 vo (countsL ns).length (cCells (countsL ns)) ∧ Below w.heap.size w w' := by
  obtain ⟨av, cap, rfl, h1, h2, hx⟩ := h
  obtain ⟨i0, hi, hz0, hz1, hz2⟩ := info_parts infoC
  unfold maxLen at h2
  go_enter Try.func16, Try.ntmps16
  go_wp2
  go_loopw [3, 4] (fun o i wr => ∃ (k : Nat), k ≤ 101 ∧ i = .int .i64 k ∧ wr.ownsRow w.heap.size 58 3 o (countsN ns k).length (cCells (countsN ns k)) ∧ Below w.heap.size w wr) (fun _ i _ => 101 - (intOf i).toNat)
  case atStart => exact ⟨0, by omega, rfl, World.ownsRow_nil _ _ _ _, Below.refl _ _⟩
  case round =>
    obtain ⟨k, hk, rfl, hown, hb⟩ := hrel
    obtain ⟨wo, hwo⟩ : ∃ wo, wo = wr := ⟨wr, rfl⟩
    subst hwo
    have hsz := hb.size
    by_cases hlt : k ≤ 100
    · have k1 : (k : Int) ≤ 100 := by omega
      have HB : Hid (Below w.heap.size w wo) := hb
      have HO : Hid (wo.ownsRow w.heap.size 58 3 u3 (countsN ns k).length (cCells (countsN ns k))) := hown
      clear hb hown
      go_wp2
      go_loopw [16] (fun i wq => ∃ (j : Nat), j ≤ ns.length ∧ i = .int .i64 j ∧ wq.heap[wo.heap.size]? = some (.cells #[.int .i64 k, .int .i64 (cntN k (ns.take j)), .int .i64 (wrap64 (cntS k (ns.take j)))] 58 (0, 0)) ∧ Below wo.heap.size wo wq ∧ wo.heap.size < wq.heap.size) (fun i _ => ns.length - (intOf i).toNat)
      case atStart => exact ⟨0, by omega, rfl, by have := heap_alloc_new wo (.cells #[.int .i64 k, .int .i64 0, .int .i64 0] 58); simpa [cntN, cntS, wrap64] using this, (Below.refl _ wo).alloc (Nat.le_refl _) _, by simp⟩
      case round =>
        obtain ⟨j, hj, rfl, hC, hbq, hzq⟩ := hrel
        by_cases hjl : j < ns.length
        · obtain ⟨g, off, rfl, hgN, hat⟩ := hx j hjl
          obtain ⟨m0, m1, m2, m3, m4⟩ := hat.below (HB.out.trans (hbq.mono (by omega))) (by omega)
          have HN : Hid (cntN k (ns.take (j + 1)) = cntN k (ns.take j) + (if ns[j].k = k then 1 else 0)) := by show _ = _; rw [List.take_succ_eq_append_getElem hjl, cntN_append]; simp [cntN]
          have HS : Hid (cntS k (ns.take (j + 1)) = cntS k (ns.take j) + (if ns[j].k = k then ns[j].n else 0)) := by show _ = _; rw [List.take_succ_eq_append_getElem hjl, cntS_append]; simp [cntS]
          have hcl := cntN_le k (ns.take j)
          have htl : (ns.take j).length ≤ j := by simp; omega
          generalize ns[j] = d at m0 m1 m2 m3 m4 HN HS
          generalize hqn : cntN k (ns.take j) = qn at hC HN hcl
          generalize hqs : cntS k (ns.take j) = qs at hC HS
          have q0 : (0 : Int) ≤ (j : Int) := by omega
          have q1 : (j : Int) < (ns.length : Int) := by omega
          have HC : Hid (wr.heap[wo.heap.size]? = some (.cells #[.int .i64 k, .int .i64 qn, .int .i64 (wrap64 qs)] 58 (0, 0))) := hC
          have c1 : wr.cell? ⟨wo.heap.size, 1, none⟩ = some (.int .i64 qn) := by rw [Joins.cell_of_block hC]; rfl
          have c2 : wr.cell? ⟨wo.heap.size, 2, none⟩ = some (.int .i64 (wrap64 qs)) := by rw [Joins.cell_of_block hC]; rfl
          have hfz := fun q => Joins.unfrozen_of_block hC q
          have hne : wo.heap.size ≠ wr.heap.size := by omega
          have hne2 : wr.heap.size ≠ wo.heap.size := by omega
          clear hx hat hqn hqs hC
          cases e1 : (d.k == (k : Int))
          · have HE : Hid (¬ d.k = k) := by show ¬ _; simpa using e1
            go_wp2
            go_roundw
            case rel =>
              refine ⟨j + 1, by omega, by go_num, ?_, hbq.alloc (by omega) _, by simp; omega⟩
              rw [HN.out, HS.out, if_neg HE.out, if_neg HE.out, Below.heap_alloc _ _ _ (by omega), Nat.add_zero, Int.add_zero]
              exact HC.out
            case measure => simp [intOf]; omega
          · have HE : Hid (d.k = k) := by show _ = _; simpa using e1
            go_wp2
            go_roundw
            case rel =>
              refine ⟨j + 1, by omega, by go_num, ?_, (((hbq.setCell (by simp) _).setCell (by simp) _).alloc (by simp [World.setCell]; omega) _), by simp [World.setCell]; omega⟩
              rw [HN.out, HS.out, if_pos HE.out, if_pos HE.out, Below.heap_alloc _ _ _ (by simp [World.setCell]; omega), Joins.block_setCell (Joins.block_setCell HC.out _) _, wrap_add]
              simp
            case measure => simp [intOf]; omega
        · have : j = ns.length := by omega
          subst this
          rw [List.take_length] at hC
          have c0 : wr.cell? ⟨wo.heap.size, 0, none⟩ = some (.int .i64 k) := by rw [Joins.cell_of_block hC]; rfl
          have c1 : wr.cell? ⟨wo.heap.size, 1, none⟩ = some (.int .i64 (cntN k ns)) := by rw [Joins.cell_of_block hC]; rfl
          have c2 : wr.cell? ⟨wo.heap.size, 2, none⟩ = some (.int .i64 (wrap64 (cntS k ns))) := by rw [Joins.cell_of_block hC]; rfl
          have HO2 : Hid (wr.ownsRow w.heap.size 58 3 u3 (countsN ns k).length (cCells (countsN ns k))) := own_same HO.out (fun q hq => hbq.block q (HO.out.lt q hq).2)
          have hcl := countsN_length ns k
          have hlo := HO.out.lt
          have HLO : Hid (∀ q, u3.ownBlock = some q → w.heap.size ≤ q ∧ q < wo.heap.size) := hlo
          have hcn := cntN_le k ns
          have HC0 : Hid (countsN ns (k + 1) = countsN ns k ++ (if 0 < cntN k ns then [⟨k, cntN k ns, wrap64 (cntS k ns)⟩] else [])) := rfl
          generalize cntN k ns = qn at c1 HC0 hcn
          generalize wrap64 (cntS k ns) = qs at c2 HC0
          clear hC hlo hx HO
          by_cases h0 : 0 < qn
          · have h0' : (0 : Int) < (qn : Int) := by omega
            go_wp2_with (at_builtin; refine wpList_append_own _ rfl _ _ 38 rfl w.heap.size 58 i0 _ 3 24 Try.underlying38 hi hz0 hz1 hz2 rfl (by decide) _ _ _ rfl (HO2.out.alloc _) ⟨wr.heap.size, 0, none⟩ 1 1 [.int .i64 k, .int .i64 qn, .int .i64 qs] rfl rfl ?c1 ?c2 ?c3 ?c4 ?c5 ?_)
            case c1 =>
              intro q u hq
              match q, hq with
              | 0, hq => simp at hq; subst hq; simp [Addr.add]
              | 1, hq => simp at hq; subst hq; simp [Addr.add]
              | 2, hq => simp at hq; subst hq; simp [Addr.add]
            case c2 => intro u hu; simp at hu; rcases hu with rfl | rfl | rfl <;> rfl
            case c3 => unfold maxLen; omega
            case c4 => omega
            case c5 => simp; omega
            intro v2 w2 own2 grow2 _
            have b12 : Below w.heap.size wr w2 := ((Below.refl _ wr).alloc (by omega) _).grown grow2 (by simp; omega) (fun q hq => (HLO.out q hq).1)
            have HO3 : Hid (w2.ownsRow w.heap.size 58 3 v2 (countsN ns (k + 1)).length (cCells (countsN ns (k + 1)))) := by
              show w2.ownsRow _ _ _ _ _ _
              rw [HC0.out, if_pos h0, cCells_append]
              simpa [cCells, CD.cells] using own2
            clear own2 grow2
            go_wp2
            go_roundw
            case rel => exact ⟨k + 1, by omega, by go_num, HO3.out, (HB.out.trans (hbq.mono (by omega))).trans b12⟩
            case measure => simp [intOf]; omega
          · have h0' : ¬ (0 : Int) < (qn : Int) := by omega
            have HO3 : Hid (wr.ownsRow w.heap.size 58 3 u3 (countsN ns (k + 1)).length (cCells (countsN ns (k + 1)))) := by
              show wr.ownsRow _ _ _ _ _ _
              rw [HC0.out, if_neg h0, List.append_nil]
              exact HO2.out
            go_wp2
            go_roundw
            case rel => exact ⟨k + 1, by omega, by go_num, HO3.out, HB.out.trans (hbq.mono (by omega))⟩
            case measure => simp [intOf]; omega
    · have : k = 101 := by omega
      subst this
      go_wp2
      go_ret
      exact ⟨_, rfl, hown, hb⟩
end Go.Proofs.Ytepagknkhlpicac
