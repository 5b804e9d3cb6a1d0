/-
  The law FnPages.
-/
import Derived.Test.YtepagknkhlpicaaPageBack
import Derived.Test.YtepagknkhlpicaaPageOf
import Derived.Test.YtepagknkhlpicaaDrawPage
import Derived.Test.YtepagknkhlpicaaWBytes
import Derived.Deep.RegionLaw
namespace Go.Proofs.Ytepagknkhlpicaa
open Go.ChangeShapes Go.WideShapes Go.ChangeAt Go.RowKit
set_option linter.unusedVariables false
set_option linter.unusedSimpArgs false
attribute [local go_sem ↓] Go.wp_at_zero Go.wp_at_succ

/-- The byte that wByte takes. -/
def wbD (cs : List Int) (i : Nat) : Nat := if cs.length = 0 then 0 else (cs.getD (i % cs.length) 0).toNat
theorem wbD_le (cs : List Int) (h : Byt cs) (i : Nat) : wbD cs i ≤ 255 := by
  unfold wbD
  split
  · omega
  · have := h.getD (i % cs.length)
    omega

set_option maxHeartbeats 1000000 in
theorem wByte_any (v : Value) (cs : List Int) (i : Nat) (w : World) (h : Reads w v cs) (hb : Byt cs) (hi : i ≤ 1000) (hl : cs.length ≤ 1048576) :
    Calls Try.prog 19 #[v, .int .i64 i] w fun e w' => e = .returned (.int .i64 (wbD cs i)) ∧ w' = w := by
  obtain ⟨a, cap, rfl, hc, hm, hx⟩ := h
  by_cases h0 : cs.length = 0
  · have q0 : ((cs.length : Int) == 0) = true := by simp [h0]
    have e : wbD cs i = 0 := by simp [wbD, h0]
    rw [e]
    clear hx
    go_enter Try.func19, Try.ntmps19
    go_wp2
    go_ret
    exact ⟨rfl, rfl⟩
  · have q0 : ((cs.length : Int) == 0) = false := by
      have : ¬ ((cs.length : Int) = 0) := by omega
      simpa using this
    have hlt : i % cs.length < cs.length := Nat.mod_lt _ (by omega)
    obtain ⟨g, o, rfl, hcl⟩ := hx (i % cs.length) hlt
    have hg := hb.getD (i % cs.length)
    have e : wbD cs i = (cs.getD (i % cs.length) 0).toNat := by simp [wbD, h0]
    generalize hB : cs.getD (i % cs.length) 0 = x at hcl hg e
    obtain ⟨n, rfl⟩ := Int.eq_ofNat_of_zero_le hg.1
    have e' : wbD cs i = n := by rw [e]; simp
    rw [e']
    have hne : (cs.length : Int) ≠ 0 := by omega
    have hr : Int.tmod (i : Int) (cs.length : Int) = ((i % cs.length : Nat) : Int) := by simp [Int.tmod]
    have hlt' : ((i % cs.length : Nat) : Int) < (cs.length : Int) := by omega
    generalize i % cs.length = j at hcl hr hlt'
    clear hx e e' hB h0 hlt
    go_enter Try.func19, Try.ntmps19
    go_wp2
    go_ret
    exact ⟨rfl, rfl⟩

theorem field0 (b : Bool) (g : Int) (v : Value) (w : World) : (Instr.field 33 (.agg #[.bool b, .int .i64 g, v]) 0).run Try.prog w = .ok (.bool b) w := by kernel_rfl
theorem okP_nil : okP [] = false := by simp [okP]
theorem own_nz {w : World} {lo e : Nat} {v : Value} {n : Nat} {xs : List Value} (h : w.ownsRow lo e 1 v n xs) (hn : 0 < n) : ∃ g cap cur, v = .slice (some ⟨g, 0, none⟩) n cap ∧ lo ≤ g ∧ w.heap[g]? = some (.cells cur e (0, 0)) ∧ n ≤ cap ∧ cap ≤ maxLen ∧ cur.size = cap ∧ cur.toList.take n = xs := by
  rcases h.2 with ⟨e, h0⟩ | ⟨g, cap, cur, hv, hg, hh, hn', hm, hs, ht⟩
  · omega
  · exact ⟨g, cap, cur, hv, hg, hh, hn', hm, by omega, by simpa using ht⟩

set_option maxRecDepth 5000 in
set_option maxHeartbeats 8000000 in
theorem walkPages (v1 v2 : Value) (bs cs : List Int) (w : World) (h1 : Reads w v1 bs) (h2 : Reads w v2 cs) (hb1 : Byt bs) (hb2 : Byt cs) (hv1 : ∀ k, v1.ownBlock = some k → bs.length = 0 ∨ k < w.heap.size) (hv2 : ∀ k, v2.ownBlock = some k → cs.length = 0 ∨ k < w.heap.size) :
    Calls Try.prog 4 #[v1, v2] w fun e w' => e = .returned (.bool true) ∧ Below w.heap.size w w' := by
  have hl1 := h1.le'
  have hl2 := h2.le'
  obtain ⟨a1, c1, rfl⟩ : ∃ a cap, v1 = .slice a bs.length cap := by obtain ⟨a, cap, e, _⟩ := h1; exact ⟨a, cap, e⟩
  obtain ⟨a2, c2, rfl⟩ : ∃ a cap, v2 = .slice a cs.length cap := by obtain ⟨a, cap, e, _⟩ := h2; exact ⟨a, cap, e⟩
  unfold maxLen at hl1 hl2
  have HR1 : Hid (Reads w (.slice a1 bs.length c1) bs) := h1
  have HR2 : Hid (Reads w (.slice a2 cs.length c2) cs) := h2
  clear h1 h2
  by_cases hlen : 1048576 < (bs.length : Int)
  · go_enter Try.func4, Try.ntmps4
    go_wp2
    go_ret
    exact ⟨rfl, Below.refl _ _⟩
  by_cases hlen2 : 1048576 < (cs.length : Int)
  · go_enter Try.func4, Try.ntmps4
    go_wp2
    go_ret
    exact ⟨rfl, Below.refl _ _⟩
  go_enter Try.func4, Try.ntmps4
  go_wp2_with fail
  refine (drawPage_any _ bs _ HR1.out hb1 (by omega) hv1).mono ?_; rintro e w1 ⟨ok, gen, a3, k3, Y, rfl, hbY, hYl, own1, b1⟩
  have z1 := b1.size
  have lt1 : ∀ k, (Value.slice a3 Y.length k3).ownBlock = some k → w.heap.size ≤ k ∧ k < w1.heap.size := own1.lt
  have bP : Below w1.heap.size w1 (w1.alloc (.cells #[.bool ok, .int .i64 gen, .slice a3 Y.length k3] 33)) := (Below.refl _ w1).alloc (Nat.le_refl _) _
  have gP := heap_alloc_new w1 (.cells #[.bool ok, .int .i64 gen, .slice a3 Y.length k3] 33)
  have ownP := ownsRow_below own1 bP (Nat.le_refl _)
  have BP : Below w.heap.size w (w1.alloc (.cells #[.bool ok, .int .i64 gen, .slice a3 Y.length k3] 33)) := b1.trans (bP.mono (by omega))
  have hYm : Y.length ≤ maxLen := by unfold maxLen; omega
  have hPl := pageOf_length ok gen Y
  clear own1
  go_wp2_with fail
  refine (implPageBlock_any ok gen a3 k3 Y _ hYm (own_rdb' ownP) hbY).mono ?_; rintro e w2 ⟨v4, ety, rfl, own2, b2⟩
  have z2 := b2.size
  simp only [World.size_alloc] at z2 own2 b2
  have lt2 : ∀ k, v4.ownBlock = some k → w1.heap.size + 1 ≤ k ∧ k < w2.heap.size := own2.lt
  have gP2 : w2.heap[w1.heap.size]? = some (.cells #[.bool ok, .int .i64 gen, .slice a3 Y.length k3] 33 (0, 0)) := by rw [b2.block _ (by omega)]; exact gP
  have ownP2 := ownsRow_below ownP b2 (by simp)
  have B2 : Below w.heap.size w w2 := BP.trans (b2.mono (by omega))
  obtain ⟨⟨p0, p1, p2⟩, fp⟩ := p3cells gP2
  go_wp2_with fail
  refine (specPageBlock_any ok gen a3 k3 Y _ hYm (own_rdb' ownP2) (own_nil ownP2) hbY).mono ?_; rintro e w3 ⟨v5, rfl, own3, b3⟩
  have z3 := b3.size
  have own23 := ownsRow_below own2 b3 (Nat.le_refl _)
  have ownP3 := ownsRow_below ownP2 b3 (Nat.le_refl _)
  have gP3 : w3.heap[w1.heap.size]? = some (.cells #[.bool ok, .int .i64 gen, .slice a3 Y.length k3] 33 (0, 0)) := by rw [b3.block _ (by omega)]; exact gP2
  have B3 : Below w.heap.size w w3 := B2.trans (b3.mono (by omega))
  clear p0 p1 p2 fp
  go_wp2_with fail
  refine (wBytes_any _ _ _ _ _ (Reads.of_own own23).1 (Reads.of_own own3).1 (by omega) (by omega)).mono ?_; rintro e w4 ⟨rfl, m4, hw4⟩
  have hd : decide (pageOf ok gen Y = pageOf ok gen Y) = true := by simp
  rw [hd]
  have b4 : Below w3.heap.size w3 w4 := by rw [hw4]; exact below_drewN (Below.refl _ _) m4
  have z4 : w4.heap.size = w3.heap.size := by rw [hw4]; rfl
  have own24 := ownsRow_below own23 b4 (Nat.le_refl _)
  have ownP4 := ownsRow_below ownP3 b4 (Nat.le_refl _)
  have gP4 : w4.heap[w1.heap.size]? = some (.cells #[.bool ok, .int .i64 gen, .slice a3 Y.length k3] 33 (0, 0)) := by rw [b4.block _ (by omega)]; exact gP3
  have B4 : Below w.heap.size w w4 := B3.trans (b4.mono (by omega))
  clear hd hw4 own2 own23 own3 ownP ownP2 ownP3 gP gP2 gP3
  cases hok : pageOkB ok gen Y.length with
  | false =>
    have hP0 : pageOf ok gen Y = [] := by simp [pageOf, hok]
    rw [hP0] at own24
    obtain ⟨a4, k4, rfl⟩ := own_len own24
    have q0 : ((([] : List Int).length : Int) == 0) = true := by simp
    have rd4 : Reads w4 (.slice a4 ([] : List Int).length k4) [] := (Reads.of_own own24).1
    have HRD : Hid (Reads w4 (.slice a4 ([] : List Int).length k4) []) := rd4
    have HOLD : Hid (∀ k, (Value.slice a4 ([] : List Int).length k4).ownBlock = some k → k < w4.heap.size) := fun k hk => (own24.lt k hk).2
    have hf := fun v w => field0 false (genP []) v w
    clear own24 rd4 hP0
    go_wp2_with fail
    refine (implPageOf_any _ [] _ HRD.out (fun b hb => by simp at hb) HOLD.out).mono ?_; rintro e w5 ⟨v6, ety6, rfl, own6, b5⟩
    rw [okP_nil]
    go_wp2
    go_ret
    exact ⟨rfl, B4.trans (b5.mono (by omega))⟩
  | true =>
    obtain ⟨rfl, g1, g2, hl56⟩ := pageOk_parts hok
    have hP1 : pageOf true gen Y = pageL gen Y := by simp [pageOf, hok]
    rw [hP1] at own24
    obtain ⟨hbk, hbg, hbb⟩ := page_back gen Y hok
    have hLl := pageL_length gen Y hl56
    have hLb := pageL_byt gen Y hbY hl56
    generalize pageL gen Y = L at own24 hbk hbg hbb hLl hLb
    rw [hLl] at own24
    obtain ⟨g4, k4, cur, rfl, hg4, hh4, hn4, hm4, hs4, ht4⟩ := own_nz own24 (by omega)
    have q0 : ((64 : Int) == 0) = false := by decide
    have HRD : Hid (Reads w4 (.slice (some ⟨g4, 0, none⟩) 64 k4) L) := (Reads.of_own own24).1
    have HOK : Hid (okP L = true ∧ genP L = gen ∧ bytesP L = Y) := ⟨hbk, hbg, hbb⟩
    have HL : Hid (L.length = 64) := hLl
    have HLB : Hid (Byt L) := hLb
    have ltg : g4 < w4.heap.size := lt_of_block hh4
    clear hP1 hbk hbg hbb hLl hLb hok
    go_wp2_with fail
    refine (implPageOf_any _ L _ HRD.out HLB.out (fun k hk => by simp [Value.ownBlock] at hk; omega)).mono ?_; rintro e w5 ⟨v6, ety6, rfl, own6, b5⟩
    obtain ⟨hbk, hbg, hbb⟩ := HOK.out
    rw [hbk, hbg]
    rw [hbb] at own6
    obtain ⟨a6, k6, rfl⟩ := own_len own6
    have z5 := b5.size
    have bX : Below w5.heap.size w5 (w5.alloc (.cells #[.bool true, .int .i64 gen, .slice a6 Y.length k6] 33)) := (Below.refl _ w5).alloc (Nat.le_refl _) _
    have gX := heap_alloc_new w5 (.cells #[.bool true, .int .i64 gen, .slice a6 Y.length k6] 33)
    have own6X := ownsRow_below own6 bX (Nat.le_refl _)
    have b4X : Below w4.heap.size w4 (w5.alloc (.cells #[.bool true, .int .i64 gen, .slice a6 Y.length k6] 33)) := b5.trans (bX.mono (by omega))
    have ownPX := ownsRow_below ownP4 b4X (Nat.le_refl _)
    have gPX : (w5.alloc (.cells #[.bool true, .int .i64 gen, .slice a6 Y.length k6] 33)).heap[w1.heap.size]? = some (.cells #[.bool true, .int .i64 gen, .slice a3 Y.length k3] 33 (0, 0)) := by rw [b4X.block _ (by omega)]; exact gP4
    have hX4 : (w5.alloc (.cells #[.bool true, .int .i64 gen, .slice a6 Y.length k6] 33)).heap[g4]? = some (.cells cur ety (0, 0)) := by rw [b4X.block _ ltg]; exact hh4
    have BX : Below w.heap.size w (w5.alloc (.cells #[.bool true, .int .i64 gen, .slice a6 Y.length k6] 33)) := B4.trans (b4X.mono (by omega))
    obtain ⟨⟨p0, p1, p2⟩, fp⟩ := p3cells gPX
    obtain ⟨⟨x0, x1, x2⟩, fx⟩ := p3cells gX
    have qg : (gen != gen) = false := by simp
    have nex : w1.heap.size ≠ w5.heap.size := by omega
    clear own6 gX gPX hbk hbg hbb
    go_wp2_with fail
    refine (wBytes_any _ _ _ _ _ (Reads.of_own own6X).1 (Reads.of_own ownPX).1 (by omega) (by omega)).mono ?_; rintro e w6 ⟨rfl, m6, hw6⟩
    have hd : decide (Y = Y) = true := by simp
    rw [hd]
    have b6 : Below (w5.heap.size + 1) (w5.alloc (.cells #[.bool true, .int .i64 gen, .slice a6 Y.length k6] 33)) w6 := by rw [hw6]; exact below_drewN (Below.refl _ _) m6
    have h64 : w6.heap[g4]? = some (.cells cur ety (0, 0)) := by rw [b6.block _ (by omega)]; exact hX4
    have B6 : Below w.heap.size w w6 := BX.trans (b6.mono (by omega))
    have z6 := b6.size
    simp only [World.size_alloc] at z6
    clear hd hw6 own6X ownPX p0 p1 p2 fp x0 x1 x2 fx hX4
    -- the changed byte
    have hx := wbD_le cs hb2 0
    have hy := wbD_le cs hb2 1
    have HW0 : Hid (∀ W, Below w.heap.size w W → Calls Try.prog 19 #[.slice a2 cs.length c2, .int .i64 0] W fun e w' => e = .returned (.int .i64 (wbD cs 0)) ∧ w' = W) := fun W hW => wByte_any _ cs 0 W (HR2.out.below' hW hv2) hb2 (by omega) (by omega)
    have HW1 : Hid (∀ W, Below w.heap.size w W → Calls Try.prog 19 #[.slice a2 cs.length c2, .int .i64 1] W fun e w' => e = .returned (.int .i64 (wbD cs 1)) ∧ w' = W) := fun W hW => wByte_any _ cs 1 W (HR2.out.below' hW hv2) hb2 (by omega) (by omega)
    generalize wbD cs 0 = x at HW0 hx
    generalize wbD cs 1 = y at HW1 hy
    have HW : Hid (∀ W z, z = 0 ∨ z = 1 → Below w.heap.size w W → Calls Try.prog 19 #[.slice a2 cs.length c2, .int .i64 z] W fun e w' => e = .returned (.int .i64 (if z = 0 then (x : Int) else y)) ∧ w' = W) := fun W z hz hW => by
      rcases hz with rfl | rfl
      · exact HW0.out W hW
      · exact HW1.out W hW
    clear HW0 HW1
    have hi64 : x % 64 < 64 := Nat.mod_lt _ (by omega)
    have hr1 : Int.tmod (x : Int) 64 = ((x % 64 : Nat) : Int) := by simp [Int.tmod]
    have hr2 : Int.tmod (y : Int) 255 = ((y % 255 : Nat) : Int) := by simp [Int.tmod]
    have hy2 : y % 255 < 255 := Nat.mod_lt _ (by omega)
    have hcell : w6.cell? ⟨g4, x % 64, none⟩ = some (.int .u8 (L.getD (x % 64) 0)) := by
      rw [Joins.cell_of_block h64]
      have hl := HL.out
      have : (cur.toList.take 64)[x % 64]? = (L.map (Value.int .u8))[x % 64]? := by rw [ht4]
      rw [List.getElem?_take_of_lt hi64] at this
      simpa [List.getElem?_eq_getElem (show x % 64 < L.length by omega)] using this
    have hfz := Joins.unfrozen_of_block h64 (x % 64)
    have hLx := HLB.out.getD (x % 64)
    generalize hj : x % 64 = j at hi64 hr1 hcell hfz hLx
    generalize hdd : y % 255 = d at hr2 hy2
    generalize hlx : L.getD j 0 = lx at hcell hLx
    have HLX : Hid (L.getD j 0 = lx) := hlx
    have j0 : (0 : Int) ≤ (j : Int) := by omega
    have j1 : (j : Int) < 64 := by omega
    have hwr : (lx + (1 + (d : Int))) % 256 = (lx + (1 + (d : Int))) % 256 := rfl
    clear hj hdd hlx hwr
    go_wp2
    go_region_law
      (go_simp; go_at_call 19; refine (HW.out _ _ (by decide) B6.drew).mono ?_; rintro e w7 ⟨rfl, rfl⟩)
    all_goals
      have hval : IntKind.u8.wrap (lx + IntKind.u8.wrap (IntKind.i64.wrap (1 + (d : Int)))) = (lx + (1 + (d : Int))) % 256 := by
        rw [IntWalk.i64_in (1 + (d : Int)) (by omega), IntKind.wrap_u8, IntKind.wrap_u8]
        omega
      rw [hval]
      have hset : L.set j ((L.getD j 0 + (1 + (d : Int))) % 256) = L.set j ((lx + (1 + (d : Int))) % 256) := by rw [HLX.out]
      have hno := page_spoilt HOK.out.1 HLB.out j (by rw [HL.out]; exact hi64) (1 + (d : Int)) (by omega) (by omega)
      rw [hset] at hno
      have hnx : 0 ≤ (lx + (1 + (d : Int))) % 256 ∧ (lx + (1 + (d : Int))) % 256 < 256 := by omega
      generalize (lx + (1 + (d : Int))) % 256 = nx at hno hnx
      have hh7 : (w6.setCell ⟨g4, j, none⟩ (.int .u8 nx)).drew.heap[g4]? = some (.cells (cur.setIfInBounds j (.int .u8 nx)) ety (0, 0)) := Joins.block_setCell h64 _
      have hL7 : (L.set j nx).length = 64 := by rw [List.length_set, HL.out]
      have own7 : (w6.setCell ⟨g4, j, none⟩ (.int .u8 nx)).drew.ownsRow (w1.heap.size + 1) ety 1 (.slice (some ⟨g4, 0, none⟩) 64 k4) 64 ((L.set j nx).map (Value.int .u8)) :=
        ⟨by rw [List.length_map, hL7], .inr ⟨g4, k4, _, rfl, hg4, hh7, hn4, hm4, by simp [hs4], by rw [Nat.mul_one, Array.toList_setIfInBounds, List.take_set, ht4, List.map_set]⟩⟩
      have HRD7 : Hid (Reads (w6.setCell ⟨g4, j, none⟩ (.int .u8 nx)).drew (.slice (some ⟨g4, 0, none⟩) 64 k4) (L.set j nx)) := (Reads.of_own own7).1
      have hby7 : Byt (L.set j nx) := fun b hb => by
        rcases List.mem_or_eq_of_mem_set hb with hb | rfl
        · exact HLB.out b hb
        · exact hnx
      have B7 : Below w.heap.size w (w6.setCell ⟨g4, j, none⟩ (.int .u8 nx)).drew := (B6.setCell (by simp; omega) _).drew
      have z7 : (w6.setCell ⟨g4, j, none⟩ (.int .u8 nx)).drew.heap.size = w6.heap.size := by simp [World.setCell]
      have hf := fun v w => field0 false (genP (L.set j nx)) v w
      generalize hW7 : (w6.setCell ⟨g4, j, none⟩ (.int .u8 nx)).drew = w7 at HRD7 B7 z7
      clear hh7 own7 hW7
      go_wp2_with fail
      refine (implPageOf_any _ (L.set j nx) _ HRD7.out hby7 (fun k hk => by simp [Value.ownBlock] at hk; omega)).mono ?_; rintro e w8 ⟨v8, ety8, rfl, own8, b8⟩
      rw [hno]
      go_wp2
      go_ret
      exact ⟨rfl, B7.trans (b8.mono (by omega))⟩

set_option maxRecDepth 100000 in
theorem liftedPages (os : Os) (started : os.Started) (H : Type) (enc : TypeId × Value → H) :
    ReturnsInHanded {} Try.checked os 4 .any (Rows.fnPagesSpec.pre6 enc Try.prog Try.f4 Rows.fnPagesRow.domain false) (Rows.fnPagesSpec.post enc Try.prog Try.f4 false true false false) := by
  refine returnsInHanded_of_change (C := Try.checked) own started (by kernel_rfl) Try.func4
    (ChangeSpec.witness6 (enc := enc) (C := Try.checked) false ⟨#[], #[.slice none 0 0, .slice none 0 0], []⟩ 8 (by kernel_rfl) (by kernel_rfl) (by kernel_rfl) (by kernel_rfl)) ?_
  intro W base args ds gs before hval0 hW hcnd _
  have hval : ∀ (j : Nat) t v, Try.f4.params[j]? = some t → args[j]? = some v → Value.okWide Try.prog W .any base t v := hval0
  have hW' := hW
  obtain ⟨p, q, hA0, hV, rfl, hfz, hnd⟩ := hW
  have hA : DataW.TrodAll enc Try.prog W 0 (fun _ => true) true Try.f4.params.toList args.toList ds p := hA0
  rw [Try.params4] at hA hval
  obtain ⟨v0, vs0, d0, ds0, p0, q0, hargs, rfl, rfl, h0, r0⟩ := trodAll_cons hA
  obtain ⟨v1, vs1, d1, ds1, p1, q1, rfl, rfl, rfl, h1, r1⟩ := trodAll_cons r0
  obtain ⟨rfl, rfl, rfl⟩ := trodAll_nil r1
  obtain rfl : args = #[v0, v1] := by cases args; simp_all
  obtain ⟨rfl, rfl⟩ := trodVars_none hV
  have k0 := h0
  have k1 := h1
  have lt1 : ∀ x ∈ p1, x.block < W.heap.size := by obtain ⟨m, hm⟩ := k1; exact DataW.trod_lt m _ _ _ hm
  have lt0 : ∀ x ∈ p0, x.block < W.heap.size := by obtain ⟨m, hm⟩ := k0; exact DataW.trod_lt m _ _ _ hm
  obtain ⟨a0, len0, cap0, rfl⟩ := okWide_slice Try.underlying22 (hval 0 22 v0 rfl rfl)
  obtain ⟨z0, w0⟩ : ∃ zs, IsRow W a0 len0 cap0 zs := by
    obtain ⟨fuel, hf⟩ := h0
    rcases open_ints Try.underlying22 Try.underlying5 (by kernel_rfl) hf with ⟨hcs, _⟩ | ⟨x, l, c, zs, hcs, _, hl, hm, hz, _, hcell, hwz⟩
    · simp [Value.cells] at hcs
      obtain ⟨rfl, rfl, rfl⟩ := hcs
      exact ⟨[], .inl ⟨rfl, rfl, rfl, rfl⟩⟩
    · simp [Value.cells] at hcs
      obtain ⟨rfl, rfl, rfl⟩ := hcs
      exact ⟨zs, .inr ⟨_, rfl, hl, hm, by simpa using hz, hcell, hwz⟩⟩
  obtain ⟨a1, len1, cap1, rfl⟩ := okWide_slice Try.underlying22 (hval 1 22 v1 rfl rfl)
  obtain ⟨z1, w1⟩ : ∃ zs, IsRow W a1 len1 cap1 zs := by
    obtain ⟨fuel, hf⟩ := h1
    rcases open_ints Try.underlying22 Try.underlying5 (by kernel_rfl) hf with ⟨hcs, _⟩ | ⟨x, l, c, zs, hcs, _, hl, hm, hz, _, hcell, hwz⟩
    · simp [Value.cells] at hcs
      obtain ⟨rfl, rfl, rfl⟩ := hcs
      exact ⟨[], .inl ⟨rfl, rfl, rfl, rfl⟩⟩
    · simp [Value.cells] at hcs
      obtain ⟨rfl, rfl, rfl⟩ := hcs
      exact ⟨zs, .inr ⟨_, rfl, hl, hm, by simpa using hz, hcell, hwz⟩⟩
  obtain ⟨bs, hrd, hby, hml, hle, hol⟩ := w0.reads
  obtain ⟨cs, hrd1, hby1, hml1, hle1, hol1⟩ := w1.reads
  clear hA0 hval0
  refine (walkPages _ _ bs cs W hrd hrd1 hby hby1 (fun k hk => by rw [hle]; exact hol k hk) (fun k hk => by rw [hle1]; exact hol1 k hk)).mono fun e W' ⟨he, bel⟩ => ?_
  subst he
  exact ⟨_, rfl, _, _, _, [], _, [], hW', trodAll_mk1 (shut_bool Try.underlying4 _), (trodAll_cons_mk (Below.trod laidOut (by kernel_rfl) (of_decide_eq_true (by kernel_rfl)) k0 bel lt0) (trodAll_cons_mk (Below.trod laidOut (by kernel_rfl) (of_decide_eq_true (by kernel_rfl)) k1 bel lt1) trodAll_mk0)), rfl, bel.frame _, fun h => by cases h⟩

theorem pages_holds : Rows.FnPagesSaid :=
  OpenClaim.holds_of_wide 4 Try.f4 rfl rfl rfl rfl rfl rfl rfl ⟨rfl, rfl, rfl, rfl, rfl⟩ rfl rfl rfl rfl rfl (by kernel_rfl) Try.func4 (by kernel_rfl)
    (of_decide_eq_true (by kernel_rfl)) (by unfold Func.isWrapper; first | (rw [if_pos (by decide +kernel)]; kernel_rfl) | (rw [if_neg (by decide +kernel)]; exact ⟨rfl, rfl⟩))
    (fun os started H enc _ => liftedPages os started H enc)
#print axioms pages_holds
end Go.Proofs.Ytepagknkhlpicaa
