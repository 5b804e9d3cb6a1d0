/-
  What spec.l2copy's loops need: a copied row pushed behind a list of rows.
-/
import Derived.Test.YtepagknkhlpicaaSpecDisk
import Derived.Deep.AppendLies
import Derived.Deep.RegionLaw
namespace Go.Proofs.Ytepagknkhlpicaa
open Go.ChangeShapes Go.WideShapes Go.ChangeAt Go.RowKit
set_option linter.unusedVariables false
set_option linter.unusedSimpArgs false
attribute [local go_sem ↓] Go.wp_at_zero Go.wp_at_succ

theorem own_empty (w : World) : (w.alloc (.cells #[] 5)).ownsRow w.heap.size 5 1 (.slice (some ⟨w.heap.size, 0, none⟩) 0 0) 0 [] := by
  simpa using World.ownsRow_lit (base := w.heap.size) (e := 5) (size := 1) w #[] 0 (Nat.le_refl _) (by unfold maxLen; omega) rfl
theorem reads_news {w : World} {g o len cap : Nat} {bs : List Int} (h : Reads w (.slice (some ⟨g, o, none⟩) len cap) bs) : ∀ (j : Nat) (u : Value), (bs.map (Value.int .u8))[j]? = some u → w.cell? ((⟨g, o, none⟩ : Addr).add j) = some u := by
  intro j u hj
  obtain ⟨a, cap', e, _, _, hx⟩ := h
  simp only [Value.slice.injEq] at e
  obtain ⟨rfl, _, _⟩ := e
  rw [List.getElem?_map] at hj
  have hjl : j < bs.length := by
    rcases Nat.lt_or_ge j bs.length with h | h
    · exact h
    · rw [List.getElem?_eq_none h] at hj; simp at hj
  obtain ⟨b, off, e, hc⟩ := hx j hjl
  simp only [Option.some.injEq, Addr.mk.injEq] at e
  obtain ⟨rfl, rfl, _⟩ := e
  rw [add_at, hc]
  rw [List.getElem?_eq_getElem hjl] at hj
  simp at hj
  subst hj
  simp [List.getElem?_eq_getElem hjl]
theorem bytes_one (bs : List Int) : ∀ u ∈ bs.map (Value.int .u8), u.oneCell' = true := by
  intro u hu
  obtain ⟨b, _, rfl⟩ := List.mem_map.1 hu
  rfl

/-- 'append([]byte{}, b...)', at a step of a region that draws. -/
theorem inner_law {ops : Array Oper} {o : Oper} {a : Act} {K : Act → World → Prop} {Q : Exit → Act → World → Prop} {E : Prop} (wr : World) (gi oi ci m : Nat) (bj : List Int) (hm : 0 < m) (hm' : m ≤ 1000000) (hl : bj.length = m) (hrd : Reads wr (.slice (some ⟨gi, oi, none⟩) m ci) bj) (hgi : gi < wr.heap.size) (H : Nat) (hH : wr.heap.size = H)
    (hgd : o.guard = none) (s x : Operand) (ho : o.op = .call { callee := .builtin .append, args := #[s, x], argTypes := #[22, 22] })
    (hs : a.eval s = .slice (some ⟨H, 0, none⟩) 0 0) (hx : a.eval x = .slice (some ⟨gi, oi, none⟩) m ci)
    (h : ∀ g cap w', w'.ownsRow wr.heap.size 5 1 (.slice (some ⟨g, 0, none⟩) m cap) m (bj.map (Value.int .u8)) → Below wr.heap.size wr w' → K (a.put o.dst (.slice (some ⟨g, 0, none⟩) m cap)) w') :
    if Region.wanted o (yielded ops a.tmps) = true then Oper.wp Try.prog o a (wr.alloc (.cells #[] 5)).drew K Q else E := by
  subst hH
  obtain ⟨i5, hi5, hz50, hz51, hz52⟩ := info_parts info5
  have hr2 := hrd.below ((Below.refl _ wr).alloc (Nat.le_refl _) (.cells #[] 5)) (fun k hk => by simp [Value.ownBlock] at hk; omega)
  refine step_append_lies _ hgd s x 22 ho wr.heap.size 5 i5 _ 1 1 Try.underlying22 hi5 hz50 hz51 hz52 rfl (by omega) (.slice (some ⟨wr.heap.size, 0, none⟩) 0 0) 0 [] hs ((own_empty wr).drew) ⟨gi, oi, none⟩ m ci (bj.map (Value.int .u8)) hx (by simp [hl]) (reads_news hr2) (bytes_one bj) hm (by unfold maxLen; omega) (by omega) (by simp) (wr.heap.size + 1) (by simp) ?_
  intro g cap w' own grow _ _
  rw [Nat.zero_add] at own ⊢
  refine h g cap w' (by simpa using own) ?_
  exact (((Below.refl _ wr).alloc (Nat.le_refl _) (.cells #[] 5)).drew).grown grow (by simp) (fun k hk => by simp [Value.ownBlock] at hk; omega)

/-- 'append(out, x)', x in a block of its own, at a step of a region that draws. -/
theorem outer_law {ops : Array Oper} {o : Oper} {a : Act} {K : Act → World → Prop} {Q : Exit → Act → World → Prop} {E : Prop} (w1 : World) (lo : Nat) (vo xv : Value) (n : Nat) (rows : List Value) (hn : n ≤ 1000000) (hown : w1.ownsRow lo 22 1 vo n rows) (hlo : lo ≤ w1.heap.size) (hone : xv.oneCell' = true)
    (hgd : o.guard = none) (s x : Operand) (ho : o.op = .call { callee := .builtin .append, args := #[s, x], argTypes := #[55, 55] })
    (hs : a.eval s = vo) (hx : a.eval x = .slice (some ⟨w1.heap.size, 0, none⟩) 1 1)
    (h : ∀ g cap w', w'.ownsRow lo 22 1 (.slice (some ⟨g, 0, none⟩) (n + 1) cap) (n + 1) (rows ++ [xv]) → (w1.alloc (.cells #[xv] 22)).grownBy w' vo.ownBlock → (vo.ownBlock = some g ∨ g = w1.heap.size + 1) → K (a.put o.dst (.slice (some ⟨g, 0, none⟩) (n + 1) cap)) w') :
    if Region.wanted o (yielded ops a.tmps) = true then Oper.wp Try.prog o a (w1.alloc (.cells #[xv] 22)) K Q else E := by
  obtain ⟨iB, hiB, hzB0, hzB1, hzB2⟩ := info_parts infoBB
  refine step_append_lies _ hgd s x 55 ho lo 22 iB _ 1 24 Try.underlying55 hiB hzB0 hzB1 hzB2 rfl (by omega) vo n rows hs (hown.alloc _) ⟨w1.heap.size, 0, none⟩ 1 1 [xv] hx rfl (World.news_of_block (cs := #[xv]) (t := 22) (fr := (0, 0)) (heap_alloc_new w1 _)) (by simpa using hone) (by omega) (by unfold maxLen; omega) (by omega) (by simp; omega) (w1.heap.size + 1) (by simp) ?_
  intro g cap w' own grow hat _
  exact h g cap w' own grow hat

theorem OBB.push {lo O : Nat} {wr w1 w2 : World} {vo xv u : Value} {rows : List Value} {L : List (List Int)} {bj : List Int} {g2 n2 cap2 : Nat} {ob : Obj} (hob : OBB lo wr vo rows L)
    (hlo : lo ≤ wr.heap.size) (hO : O < lo) (own1 : w1.ownsRow wr.heap.size 5 1 xv bj.length (bj.map (Value.int .u8))) (bel1 : Below wr.heap.size wr w1)
    (own2 : w2.ownsRow lo 22 1 (.slice (some ⟨g2, 0, none⟩) n2 cap2) (L ++ [bj]).length (rows ++ [xv])) (grow2 : (w1.alloc ob).grownBy w2 vo.ownBlock) (at2 : vo.ownBlock = some g2 ∨ g2 = w1.heap.size + 1) (a : Addr) (ha : a.block = O) :
    OBB lo (w2.setCell a u) (.slice (some ⟨g2, 0, none⟩) n2 cap2) (rows ++ [xv]) (L ++ [bj]) := by
  have z1 := bel1.size
  have hlt := hob.lt
  have hrl := hob.inner.lt
  have hvo : ∀ k, vo.ownBlock = some k → k < wr.heap.size := fun k hk => (hob.outer.lt k hk).2
  have hnd : (fps rows).Nodup ∧ ∀ k, vo.ownBlock = some k → k ∉ fps rows := by
    have ha := hob.apart
    simp only [fps, List.filterMap_cons] at ha
    cases hv : vo.ownBlock with
    | none => rw [hv] at ha; exact ⟨ha, fun k hk => by simp at hk⟩
    | some x =>
      rw [hv] at ha
      have := List.nodup_cons.1 ha
      exact ⟨this.2, fun k hk => by simp at hk; subst hk; exact this.1⟩
  have hset : ∀ k, lo ≤ k → (w2.setCell a u).heap[k]? = w2.heap[k]? := fun k hk => Below.heap_setCell _ _ _ _ (by omega)
  have hg2 : lo ≤ g2 := (own2.lt g2 rfl).1
  have h12 : ∀ k, k < w1.heap.size → vo.ownBlock ≠ some k → w2.heap[k]? = w1.heap[k]? := fun k hk hne => by
    rw [grow2.block k (by simp; omega) (fun e => hne e.symm), Below.heap_alloc _ _ _ hk]
  refine ⟨own_same own2 (fun k hk => hset k ?_), OwnRows.snoc (hob.inner.same (fun k hk => ?_)) (own_low (own_same own1 (fun k hk => ?_)) hlo), ?_⟩
  · simp [Value.ownBlock] at hk; omega
  · have := hrl k hk
    rw [hset k this.1, h12 k (by omega) (fun e => hnd.2 k e hk), bel1.block k this.2]
  · have := own1.lt k hk
    rw [hset k (by omega), h12 k this.2 (fun e => by have := hvo k e; omega)]
  · have e : fps (Value.slice (some ⟨g2, 0, none⟩) n2 cap2 :: (rows ++ [xv])) = g2 :: fps (rows ++ [xv]) := by simp [fps, Value.ownBlock]
    rw [e, List.nodup_cons]
    refine ⟨fun hm => ?_, nodup_fps hnd.1 (fun k hk => (hrl k hk).2) (fun k hk => (own1.lt k hk).1)⟩
    rw [fps_append, fps_one, List.mem_append] at hm
    rcases hm with hm | hm
    · have := hrl g2 hm
      rcases at2 with h | h
      · exact hnd.2 g2 h hm
      · omega
    · have hx : xv.ownBlock = some g2 := by simpa using hm
      have := own1.lt g2 hx
      rcases at2 with h | h
      · have := hvo g2 h; omega
      · omega

/-- 'append(out, Write{..})', at a step of a region that draws. -/
theorem outerW_law {ops : Array Oper} {o : Oper} {a : Act} {K : Act → World → Prop} {Q : Exit → Act → World → Prop} {E : Prop} (w1 : World) (lo : Nat) (vo xv : Value) (blk : Int) (n : Nat) (cs : List Value) (hn : n ≤ 1000000) (hown : w1.ownsRow lo 130 2 vo n cs) (hlo : lo ≤ w1.heap.size) (hone : xv.oneCell' = true)
    (hgd : o.guard = none) (s x : Operand) (ho : o.op = .call { callee := .builtin .append, args := #[s, x], argTypes := #[56, 56] })
    (hs : a.eval s = vo) (hx : a.eval x = .slice (some ⟨w1.heap.size, 0, none⟩) 1 1)
    (h : ∀ g cap w', w'.ownsRow lo 130 2 (.slice (some ⟨g, 0, none⟩) (n + 1) cap) (n + 1) (cs ++ [.int .i64 blk, xv]) → (w1.alloc (.cells #[.int .i64 blk, xv] 130)).grownBy w' vo.ownBlock → (vo.ownBlock = some g ∨ g = w1.heap.size + 1) → K (a.put o.dst (.slice (some ⟨g, 0, none⟩) (n + 1) cap)) w') :
    if Region.wanted o (yielded ops a.tmps) = true then Oper.wp Try.prog o a (w1.alloc (.cells #[.int .i64 blk, xv] 130)) K Q else E := by
  obtain ⟨iB, hiB, hzB0, hzB1, hzB2⟩ := info_parts infoW
  refine step_append_lies _ hgd s x 56 ho lo 130 iB _ 2 32 Try.underlying56 hiB hzB0 hzB1 hzB2 rfl (by omega) vo n cs hs (hown.alloc _) ⟨w1.heap.size, 0, none⟩ 1 1 [.int .i64 blk, xv] hx rfl (World.news_of_block (cs := #[.int .i64 blk, xv]) (t := 130) (fr := (0, 0)) (heap_alloc_new w1 _)) (fun u hu => by simp at hu; rcases hu with rfl | rfl; rfl; exact hone) (by omega) (by unfold maxLen; omega) (by omega) (by simp; omega) (w1.heap.size + 1) (by simp) ?_
  intro g cap w' own grow hat _
  exact h g cap w' own grow hat

theorem OWW.push {lo O : Nat} {wr w1 w2 : World} {vo xv u : Value} {rows : List Value} {L : List WD} {d : WD} {g2 n2 cap2 : Nat} {ob : Obj} (hob : OWW lo wr vo rows L)
    (hlo : lo ≤ wr.heap.size) (hO : O < lo) (own1 : w1.ownsRow wr.heap.size 5 1 xv d.bs.length (d.bs.map (Value.int .u8))) (bel1 : Below wr.heap.size wr w1)
    (own2 : w2.ownsRow lo 130 2 (.slice (some ⟨g2, 0, none⟩) n2 cap2) (L ++ [d]).length (wCells rows L ++ [.int .i64 d.blk, xv])) (grow2 : (w1.alloc ob).grownBy w2 vo.ownBlock) (at2 : vo.ownBlock = some g2 ∨ g2 = w1.heap.size + 1) (a : Addr) (ha : a.block = O) :
    OWW lo (w2.setCell a u) (.slice (some ⟨g2, 0, none⟩) n2 cap2) (rows ++ [xv]) (L ++ [d]) := by
  have hlen : rows.length = L.length := by simpa using hob.inner.length
  have z1 := bel1.size
  have hrl := hob.inner.lt
  have hvo : ∀ k, vo.ownBlock = some k → k < wr.heap.size := fun k hk => (hob.outer.lt k hk).2
  have hnd : (fps rows).Nodup ∧ ∀ k, vo.ownBlock = some k → k ∉ fps rows := by
    have ha := hob.apart
    simp only [fps, List.filterMap_cons] at ha
    cases hv : vo.ownBlock with
    | none => rw [hv] at ha; exact ⟨ha, fun k hk => by simp at hk⟩
    | some x =>
      rw [hv] at ha
      have := List.nodup_cons.1 ha
      exact ⟨this.2, fun k hk => by simp at hk; subst hk; exact this.1⟩
  have hset : ∀ k, lo ≤ k → (w2.setCell a u).heap[k]? = w2.heap[k]? := fun k hk => Below.heap_setCell _ _ _ _ (by omega)
  have hg2 : lo ≤ g2 := (own2.lt g2 rfl).1
  have h12 : ∀ k, k < w1.heap.size → vo.ownBlock ≠ some k → w2.heap[k]? = w1.heap[k]? := fun k hk hne => by
    rw [grow2.block k (by simp; omega) (fun e => hne e.symm), Below.heap_alloc _ _ _ hk]
  refine ⟨?_, ?_, ?_⟩
  · rw [wCells_snoc rows L xv d hlen]
    exact own_same own2 (fun k hk => hset k (by simp [Value.ownBlock] at hk; omega))
  · rw [List.map_append]
    refine OwnRows.snoc (hob.inner.same (fun k hk => ?_)) (own_low (own_same own1 (fun k hk => ?_)) hlo)
    · have := hrl k hk
      rw [hset k this.1, h12 k (by omega) (fun e => hnd.2 k e hk), bel1.block k this.2]
    · have := own1.lt k hk
      rw [hset k (by omega), h12 k this.2 (fun e => by have := hvo k e; omega)]
  · have e : fps (Value.slice (some ⟨g2, 0, none⟩) n2 cap2 :: (rows ++ [xv])) = g2 :: fps (rows ++ [xv]) := by simp [fps, Value.ownBlock]
    rw [e, List.nodup_cons]
    refine ⟨fun hm => ?_, nodup_fps hnd.1 (fun k hk => (hrl k hk).2) (fun k hk => (own1.lt k hk).1)⟩
    rw [fps_append, fps_one, List.mem_append] at hm
    rcases hm with hm | hm
    · have := hrl g2 hm
      rcases at2 with h | h
      · exact hnd.2 g2 h hm
      · omega
    · have hx : xv.ownBlock = some g2 := by simpa using hm
      have := own1.lt g2 hx
      rcases at2 with h | h
      · have := hvo g2 h; omega
      · omega
end Go.Proofs.Ytepagknkhlpicaa
