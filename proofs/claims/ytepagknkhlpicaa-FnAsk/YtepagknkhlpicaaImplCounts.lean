/-
  What is counted: impl.Counts (a table of an entry for each kind).
-/
import Derived.Test.YtepagknkhlpicaaWCounts
import Derived.Test.YtepagknkhlpicaaArr
namespace Go.Proofs.Ytepagknkhlpicaa
open Go.ChangeShapes Go.WideShapes Go.ChangeAt Go.RowKit Go.Deep
set_option linter.unusedVariables false
set_option linter.unusedSimpArgs false

/-- The table of counts, as it lies in memory. -/
structure Tab (cs : Array Value) (ns : List ND) : Prop where
  sz : cs.size = 303
  all : cs.all (·.oneCell') = true
  k : ∀ k : Nat, k < 101 → cs[k * 3]? = some (.int .i64 0)
  n : ∀ k : Nat, k < 101 → cs[k * 3 + 1]? = some (.int .i64 (cntN k ns))
  s : ∀ k : Nat, k < 101 → cs[k * 3 + 2]? = some (.int .i64 (wrap64 (cntS k ns)))
theorem tab_nil : Tab (Array.replicate 303 (Value.int .i64 0)) [] where
  sz := by simp
  all := by
    rw [Array.all_eq_true]
    intro i hi
    rw [Array.getElem_replicate]
    rfl
  k := fun k hk => by rw [Array.getElem?_replicate, if_pos (by omega)]
  n := fun k hk => by rw [Array.getElem?_replicate, if_pos (by omega)]; rfl
  s := fun k hk => by rw [Array.getElem?_replicate, if_pos (by omega)]; simp [cntS, wrap64]
theorem sz66 : (Try.prog.info? 99).map (·.size) = some 303 := by kernel_rfl
theorem zero66i : (Try.prog.info? 99).map (·.zero) = some (some (.agg (Array.replicate 303 (Value.int .i64 0)))) := by kernel_rfl
theorem zero66 (w : World) : (zeroValue 99).run Try.prog w = .ok (.agg (Array.replicate 303 (Value.int .i64 0))) w := by
  have h := zero66i
  generalize Array.replicate 303 (Value.int .i64 0) = Z at h ⊢
  cases e : Try.prog.info? 99 with
  | none => rw [e] at h; simp at h
  | some i =>
    rw [e] at h
    simp at h
    simp [zeroValue, typeInfo, e, h, go_sem]

theorem Tab.other {cs : Array Value} {ns : List ND} {d : ND} (h : Tab cs ns) (hd : d.k < 0 ∨ 100 < d.k) : Tab cs (ns ++ [d]) where
  sz := h.sz
  all := h.all
  k := h.k
  n := fun k hk => by rw [h.n k hk, cntN_append]; have : ¬ d.k = k := by omega
                      simp [cntN, this]
  s := fun k hk => by rw [h.s k hk, cntS_append]; have : ¬ d.k = k := by omega
                      simp [cntS, this]
theorem Tab.add {cs : Array Value} {ns : List ND} {d : ND} (h : Tab cs ns) (k : Nat) (hk : k < 101) (hd : d.k = k) : Tab ((cs.setIfInBounds (k * 3 + 1) (.int .i64 (cntN k ns + 1))).setIfInBounds (k * 3 + 2) (.int .i64 (wrap64 (wrap64 (cntS k ns) + d.n)))) (ns ++ [d]) where
  sz := by simp [h.sz]
  all := by
    have := h.all
    rw [Array.all_eq_true] at this ⊢
    intro i hi
    simp only [Array.size_setIfInBounds] at hi
    rw [Array.getElem_setIfInBounds (by simpa using hi)]
    split
    · rfl
    · rw [Array.getElem_setIfInBounds hi]
      split
      · rfl
      · exact this i hi
  k := fun q hq => by rw [Array.getElem?_setIfInBounds_ne (by omega), Array.getElem?_setIfInBounds_ne (by omega)]; exact h.k q hq
  n := fun q hq => by
    rw [Array.getElem?_setIfInBounds_ne (by omega), cntN_append]
    by_cases e : k = q
    · subst e
      rw [Array.getElem?_setIfInBounds_self_of_lt (by rw [h.sz]; omega)]
      simp [cntN, hd]
    · rw [Array.getElem?_setIfInBounds_ne (by omega), h.n q hq]
      have : ¬ d.k = q := by omega
      simp [cntN, this]
  s := fun q hq => by
    rw [cntS_append]
    by_cases e : k = q
    · subst e
      rw [Array.getElem?_setIfInBounds_self_of_lt (by simp [h.sz]; omega), wrap_add]
      simp [cntS, hd]
    · rw [Array.getElem?_setIfInBounds_ne (by omega), Array.getElem?_setIfInBounds_ne (by omega), h.s q hq]
      have : ¬ d.k = q := by omega
      simp [cntS, this]
theorem Tab.row {cs : Array Value} {ns : List ND} (h : Tab cs ns) (k : Nat) (hk : k < 101) : cs.extract (k * 3) (k * 3 + 3) = #[.int .i64 0, .int .i64 (cntN k ns), .int .i64 (wrap64 (cntS k ns))] := by
  have hs := h.sz
  apply Array.ext_getElem?
  intro i
  by_cases hi : i < 3
  · rw [Array.getElem?_extract_of_lt (by omega)]
    match i, hi with
    | 0, _ => exact (Array.getElem?_eq_getElem _).symm.trans (h.k k hk)
    | 1, _ => exact (Array.getElem?_eq_getElem _).symm.trans (h.n k hk)
    | 2, _ => exact (Array.getElem?_eq_getElem _).symm.trans (h.s k hk)
  · rw [Array.getElem?_eq_none (by simp; omega), Array.getElem?_eq_none (by simp; omega)]

set_option maxRecDepth 5000 in
set_option maxHeartbeats 4000000 in
theorem implCounts : CountsC 24 := by
  intro N v ns w hg h hN hl
  obtain ⟨av, cap, rfl, h1, h2, hx⟩ := h
  unfold maxLen at h2
  have hT0 := tab_nil
  have HZ : Hid (∀ w, (zeroValue 99).run Try.prog w = .ok (.agg (Array.replicate 303 (Value.int .i64 0))) w) := zero66
  generalize Array.replicate 303 (Value.int .i64 0) = Z at hT0 HZ
  go_enter Try.func24, Try.ntmps24
  go_wp2_with (refine wpList_alloc_row rfl 99 rfl Z HZ.out ?_)
  have gZ := heap_alloc_new w (.cells Z 99)
  have bZ := (Below.refl _ w).alloc (Nat.le_refl _) (.cells Z 99)
  go_loopw [11] (fun i wr => ∃ (j : Nat) (cs : Array Value), j ≤ ns.length ∧ i = .int .i64 j ∧ wr.heap[w.heap.size]? = some (.cells cs 99 (0, 0)) ∧ Tab cs (ns.take j) ∧ Below w.heap.size w wr ∧ w.heap.size < wr.heap.size) (fun i _ => ns.length - (intOf i).toNat)
  case atStart => exact ⟨0, Z, Nat.zero_le _, rfl, gZ, hT0, bZ, by simp⟩
  case round =>
    obtain ⟨j, cs, hj, rfl, hC, hT, hb, hz⟩ := hrel
    by_cases hlt : j < ns.length
    · obtain ⟨g, off, rfl, hgN, hat⟩ := hx j hlt
      obtain ⟨m0, m1, m2, m3, m4⟩ := hat.below hb (by omega)
      have HT1 : Hid (ns.take (j + 1) = ns.take j ++ [ns[j]]) := List.take_succ_eq_append_getElem hlt
      generalize ns[j] = d at m0 m1 m2 m3 m4 HT1
      have q0 : (0 : Int) ≤ (j : Int) := by omega
      have q1 : (j : Int) < (ns.length : Int) := by omega
      cases hin : inB d.k 0 100
      · have HT2 : Hid (Tab cs (ns.take (j + 1))) := by show Tab _ _; rw [HT1.out]; exact hT.other (inB_false.1 hin)
        have HC : Hid (wr.heap[w.heap.size]? = some (.cells cs 99 (0, 0))) := hC
        clear hx hat hT hC
        go_wp2_with (go_at_call 65; refine (upTo_any _ _ _).mono ?_; rintro e w1 ⟨rfl, rfl⟩; rw [hin])
        go_roundw
        case rel => exact ⟨j + 1, cs, by omega, by go_num, by rw [Below.heap_alloc _ _ _ (by omega)]; exact HC.out, HT2.out, hb.alloc (by omega) _, by simp; omega⟩
        case measure => simp [intOf]; omega
      · obtain ⟨k, hk⟩ : ∃ k : Nat, d.k = k := ⟨d.k.toNat, by have := (inB_true.1 hin).1; omega⟩
        have hk1 : k < 101 := by have := (inB_true.1 hin).2; omega
        have HT2 : Hid (Tab ((cs.setIfInBounds (k * 3 + 1) (.int .i64 (cntN k (ns.take j) + 1))).setIfInBounds (k * 3 + 2) (.int .i64 (wrap64 (wrap64 (cntS k (ns.take j)) + d.n)))) (ns.take (j + 1))) := by show Tab _ _; rw [HT1.out]; exact hT.add k hk1 hk
        rw [hk] at m1
        rw [hk] at hin
        have c1 : wr.cell? ⟨w.heap.size, k * 3 + 1, none⟩ = some (.int .i64 (cntN k (ns.take j))) := by rw [Joins.cell_of_block hC]; exact hT.n k hk1
        have c2 : wr.cell? ⟨w.heap.size, k * 3 + 2, none⟩ = some (.int .i64 (wrap64 (cntS k (ns.take j)))) := by rw [Joins.cell_of_block hC]; exact hT.s k hk1
        have hcl := cntN_le k (ns.take j)
        have htl : (ns.take j).length ≤ j := by simp; omega
        generalize cntN k (ns.take j) = qn at c1 hcl HT2
        generalize wrap64 (cntS k (ns.take j)) = qs at c2 HT2
        have hfz := fun q => Joins.unfrozen_of_block hC q
        have HC : Hid (wr.heap[w.heap.size]? = some (.cells cs 99 (0, 0))) := hC
        have hne : w.heap.size ≠ wr.heap.size := by omega
        have hne2 : wr.heap.size ≠ w.heap.size := by omega
        have k0 : (0 : Int) ≤ (k : Int) := by omega
        have k1 : (k : Int) < 101 := by omega
        clear hx hat hT hC hk
        go_wp2_with (go_at_call 65; refine (upTo_any _ _ _).mono ?_; rintro e w1 ⟨rfl, rfl⟩; rw [hin])
        have hC2 := Joins.block_setCell (i := k * 3 + 1) HC.out (.int .i64 ((qn : Int) + 1))
        have HB2 : Hid (Below w.heap.size w (wr.setCell ⟨w.heap.size, k * 3 + 1, none⟩ (.int .i64 ((qn : Int) + 1)))) := hb.setCell (by simp) _
        have hz2 : w.heap.size < (wr.setCell ⟨w.heap.size, k * 3 + 1, none⟩ (.int .i64 ((qn : Int) + 1))).heap.size := by simpa [World.setCell] using hz
        have hzz : wr.heap.size = (wr.setCell ⟨w.heap.size, k * 3 + 1, none⟩ (.int .i64 ((qn : Int) + 1))).heap.size := by simp [World.setCell]
        have c2' : (wr.setCell ⟨w.heap.size, k * 3 + 1, none⟩ (.int .i64 ((qn : Int) + 1))).cell? ⟨w.heap.size, k * 3 + 2, none⟩ = some (.int .i64 qs) := by rw [Joins.cell_of_block hC2, Array.getElem?_setIfInBounds_ne (by omega), ← Joins.cell_of_block HC.out]; exact c2
        rw [hzz] at hne hne2 ⊢
        have HC2 : Hid ((wr.setCell ⟨w.heap.size, k * 3 + 1, none⟩ (.int .i64 ((qn : Int) + 1))).heap[w.heap.size]? = some (.cells (cs.setIfInBounds (k * 3 + 1) (.int .i64 ((qn : Int) + 1))) 99 (0, 0))) := hC2
        clear hC2 m0 m1 m2 m3 m4 hfz c1 c2
        generalize wr.setCell ⟨w.heap.size, k * 3 + 1, none⟩ (.int .i64 ((qn : Int) + 1)) = w2 at *
        have hC3 : (w2.alloc (.cells #[.int .i64 d.t, .int .i64 k, .int .i64 d.p, .int .i64 d.n, .string d.s] 26)).heap[w.heap.size]? = some (.cells (cs.setIfInBounds (k * 3 + 1) (.int .i64 ((qn : Int) + 1))) 99 (0, 0)) := by rw [Below.heap_alloc _ _ _ hz2]; exact HC2.out
        have HC3 : Hid ((w2.alloc (.cells #[.int .i64 d.t, .int .i64 k, .int .i64 d.p, .int .i64 d.n, .string d.s] 26)).heap[w.heap.size]? = some (.cells (cs.setIfInBounds (k * 3 + 1) (.int .i64 ((qn : Int) + 1))) 99 (0, 0))) := hC3
        have c3 : (w2.alloc (.cells #[.int .i64 d.t, .int .i64 k, .int .i64 d.p, .int .i64 d.n, .string d.s] 26)).cell? ⟨w.heap.size, k * 3 + 2, none⟩ = some (.int .i64 qs) := by rw [((Below.refl _ w2).alloc (Nat.le_refl _) _).cell (p := ⟨w.heap.size, k * 3 + 2, none⟩) hz2]; exact c2'
        have hfz := Joins.unfrozen_of_block hC3 (k * 3 + 2)
        have HB3 : Hid (Below w.heap.size w (w2.alloc (.cells #[.int .i64 d.t, .int .i64 k, .int .i64 d.p, .int .i64 d.n, .string d.s] 26))) := HB2.out.alloc (by omega) _
        have hz3 : w.heap.size < (w2.alloc (.cells #[.int .i64 d.t, .int .i64 k, .int .i64 d.p, .int .i64 d.n, .string d.s] 26)).heap.size := by simp; omega
        have hn1 : (w2.alloc (.cells #[.int .i64 d.t, .int .i64 k, .int .i64 d.p, .int .i64 d.n, .string d.s] 26)).cell? ⟨w2.heap.size, 1, none⟩ = some (.int .i64 k) := by simp [go_sem]
        have hn3 : (w2.alloc (.cells #[.int .i64 d.t, .int .i64 k, .int .i64 d.p, .int .i64 d.n, .string d.s] 26)).cell? ⟨w2.heap.size, 3, none⟩ = some (.int .i64 d.n) := by simp [go_sem]
        clear hC3 c2'
        generalize w2.alloc (.cells #[.int .i64 d.t, .int .i64 k, .int .i64 d.p, .int .i64 d.n, .string d.s] 26) = w3 at *
        go_region
        have HC4 : Hid (((w3.setCell ⟨w.heap.size, k * 3 + 2, none⟩ (.int .i64 (wrap64 (qs + d.n)))).drew).heap[w.heap.size]? = some (.cells ((cs.setIfInBounds (k * 3 + 1) (.int .i64 ((qn : Int) + 1))).setIfInBounds (k * 3 + 2) (.int .i64 (wrap64 (qs + d.n)))) 99 (0, 0))) := Joins.block_setCell HC3.out _
        have HB4 : Hid (Below w.heap.size w ((w3.setCell ⟨w.heap.size, k * 3 + 2, none⟩ (.int .i64 (wrap64 (qs + d.n)))).drew)) := (HB3.out.setCell (by simp) _).drew
        have hz4 : w.heap.size < ((w3.setCell ⟨w.heap.size, k * 3 + 2, none⟩ (.int .i64 (wrap64 (qs + d.n)))).drew).heap.size := by simpa [World.setCell] using hz3
        clear c3 hfz hn1 hn3
        generalize (w3.setCell ⟨w.heap.size, k * 3 + 2, none⟩ (.int .i64 (wrap64 (qs + d.n)))).drew = w4 at *
        go_wp2
        go_roundw
        case rel => exact ⟨j + 1, _, by omega, by go_num, HC4.out, HT2.out, HB4.out, hz4⟩
        case measure => simp [intOf]; omega
    · have : j = ns.length := by omega
      subst this
      rw [List.take_length] at hT
      clear hx gZ bZ hT0
      have hsz := hT.sz
      go_wp2_with (refine wpList_load_row rfl 99 _ rfl w.heap.size rfl 99 cs (0, 0) _ hC Try.underlying99 rfl (by rw [hsz]; exact sz66) ?_)
      obtain ⟨wo, hwo⟩ : ∃ wo, wo = wr := ⟨wr, rfl⟩
      subst hwo
      obtain ⟨i0, hi, hz0, hz1, hz2⟩ := info_parts infoC
      have HB : Hid (Below w.heap.size w wo) := hb
      have HT : Hid (Tab cs ns) := hT
      clear hT hC hb
      go_loopw [6, 38] (fun o i wr => ∃ (k : Nat), k ≤ 101 ∧ i = .int .i64 k ∧ wr.ownsRow w.heap.size 46 3 o (countsN ns k).length (cCells (countsN ns k)) ∧ Below w.heap.size w wr) (fun _ i _ => 101 - (intOf i).toNat)
      case atStart => exact ⟨0, by omega, rfl, World.ownsRow_nil _ _ _ _, HB.out⟩
      case round =>
        obtain ⟨k, hk, rfl, hown, hb⟩ := hrel
        have hsz := hb.size
        by_cases hlt : k ≤ 100
        · have k1 : (k : Int) ≤ 100 := by omega
          have k2 : (k : Int) < 101 := by omega
          have HIX : Hid (∀ W, (Instr.index 99 (.agg cs) (.int .i64 k)).run Try.prog W = .ok (.agg #[.int .i64 0, .int .i64 (cntN k ns), .int .i64 (wrap64 (cntS k ns))]) W) := fun W => by
            rw [run_index_agg 99 46 101 3 k cs .i64 W Try.underlying99 Try.isAgg46 Try.sizeOf46 (by omega), HT.out.row k (by omega)]
          have HO : Hid (wr.ownsRow w.heap.size 46 3 u6 (countsN ns k).length (cCells (countsN ns k))) := hown
          have hcl := countsN_length ns k
          have HLO : Hid (∀ q, u6.ownBlock = some q → w.heap.size ≤ q ∧ q < wr.heap.size) := hown.lt
          have hcn := cntN_le k ns
          have HC0 : Hid (countsN ns (k + 1) = countsN ns k ++ (if 0 < cntN k ns then [⟨k, cntN k ns, wrap64 (cntS k ns)⟩] else [])) := rfl
          generalize cntN k ns = qn at HC0 hcn HIX
          generalize wrap64 (cntS k ns) = qs at HC0 HIX
          clear hown
          by_cases h0 : 0 < qn
          · have h0' : (0 : Int) < (qn : Int) := by omega
            go_wp2_with (first | (refine wpList_index rfl 99 _ _ rfl (.agg cs) (.int .i64 k) _ rfl rfl (HIX.out _) ?_) | (at_builtin; refine wpList_append_own _ rfl _ _ 43 rfl w.heap.size 46 i0 _ 3 24 Try.underlying43 hi hz0 hz1 hz2 rfl (by decide) _ _ _ rfl ((HO.out.alloc _).alloc _) ⟨wr.heap.size + 1, 0, none⟩ 1 1 [.int .i64 k, .int .i64 qn, .int .i64 qs] rfl rfl ?c1 ?c2 ?c3 ?c4 ?c5 ?_))
            case c1 =>
              intro q u hq
              match q, hq with
              | 0, hq => simp at hq; subst hq; simp [Addr.add, go_sem]
              | 1, hq => simp at hq; subst hq; simp [Addr.add, go_sem]
              | 2, hq => simp at hq; subst hq; simp [Addr.add, go_sem]
            case c2 => intro u hu; simp at hu; rcases hu with rfl | rfl | rfl <;> rfl
            case c3 => unfold maxLen; omega
            case c4 => omega
            case c5 => simp; omega
            intro v2 w2 own2 grow2 _
            have b12 : Below w.heap.size wr w2 := (((Below.refl _ wr).alloc (by omega) _).alloc (by simp; omega) _).grown grow2 (by simp; omega) (fun q hq => (HLO.out q hq).1)
            have HO3 : Hid (w2.ownsRow w.heap.size 46 3 v2 (countsN ns (k + 1)).length (cCells (countsN ns (k + 1)))) := by
              show w2.ownsRow _ _ _ _ _ _
              rw [HC0.out, if_pos h0, cCells_append]
              simpa [cCells, CD.cells] using own2
            clear own2 grow2
            go_wp2
            go_roundw
            case rel => exact ⟨k + 1, by omega, by go_num, HO3.out, hb.trans b12⟩
            case measure => simp [intOf]; omega
          · have h0' : ¬ (0 : Int) < (qn : Int) := by omega
            have HO3 : Hid (wr.ownsRow w.heap.size 46 3 u6 (countsN ns (k + 1)).length (cCells (countsN ns (k + 1)))) := by
              show wr.ownsRow _ _ _ _ _ _
              rw [HC0.out, if_neg h0, List.append_nil]
              exact HO.out
            go_wp2_with (refine wpList_index rfl 99 _ _ rfl (.agg cs) (.int .i64 k) _ rfl rfl (HIX.out _) ?_)
            go_roundw
            case rel => exact ⟨k + 1, by omega, by go_num, HO3.out.alloc _, hb.alloc (by omega) _⟩
            case measure => simp [intOf]; omega
        · have : k = 101 := by omega
          subst this
          go_wp2
          go_ret
          exact ⟨_, rfl, hown, hb⟩
end Go.Proofs.Ytepagknkhlpicaa
