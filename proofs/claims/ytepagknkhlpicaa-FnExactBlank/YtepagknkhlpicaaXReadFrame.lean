/-
  The law FnExactReadFrame.
-/
import Derived.Test.YtepagknkhlpicaaSpecRead
import Derived.Test.YtepagknkhlpicaaXFrame
namespace Go.Proofs.Ytepagknkhlpicaa
open Go.ChangeShapes Go.WideShapes Go.ChangeAt Go.RowKit
open Go.ChangeMaps (open_string shut_string)
set_option linter.unusedVariables false
set_option linter.unusedSimpArgs false

theorem Reads.below' {w w' : World} {B : Nat} {v : Value} {bs : List Int} (h : Reads w v bs) (hb : Below B w w') (hv : ∀ k, v.ownBlock = some k → bs.length = 0 ∨ k < B) : Reads w' v bs := by
  obtain ⟨a, cap, rfl, h1, h2, h3⟩ := h
  refine ⟨a, cap, rfl, h1, h2, fun i hi => ?_⟩
  obtain ⟨b, off, rfl, hc⟩ := h3 i hi
  exact ⟨b, off, rfl, by rw [hb.cell (p := ⟨b, off + i, none⟩) (by rcases hv b rfl with h | h; omega; exact h)]; exact hc⟩

set_option maxHeartbeats 1000000 in
theorem toBytes_any (v : Value) (bs : List Int) (w : World) (h : Reads w v bs) (hl : bs.length ≤ 1000000000) (hv : ∀ k, v.ownBlock = some k → bs.length = 0 ∨ k < w.heap.size) :
    Calls Try.prog 33 #[v] w fun e w' => ∃ v', e = .returned v' ∧ w'.ownsRow w.heap.size 5 1 v' bs.length (bs.map (Value.int .u8)) ∧ Below w.heap.size w w' := by
  have HR : Hid (Reads w v bs) := h
  obtain ⟨a, cap, rfl, h1, h2, hx⟩ := h
  have hmk := make_bytes bs.length (bs.length : Int) rfl hl
  unfold maxLen at h2
  go_enter Try.func33, Try.ntmps33
  go_wp2
  go_loopw [4] (fun i wr => ∃ (j : Nat), j ≤ bs.length ∧ i = .int .i64 j ∧ wr.heap[w.heap.size]? = some (.cells ((bs.take j).map (Value.int .u8) ++ List.replicate (bs.length - (bs.take j).length) (Value.int .u8 0)).toArray 5 (0, 0)) ∧ Below w.heap.size w wr) (fun i _ => bs.length - (intOf i).toNat)
  case atStart => exact ⟨0, Nat.zero_le _, rfl, by simpa using heap_alloc_new w (.cells (Array.replicate bs.length (Value.int .u8 0)) 5), (Below.refl _ w).alloc (Nat.le_refl _) _⟩
  case round =>
    obtain ⟨j, hj, rfl, hg, hb⟩ := hrel
    have htl : (bs.take j).length = j := by simp; omega
    by_cases hlt : j < bs.length
    · obtain ⟨g, o, rfl, hc⟩ := hx j hlt
      have hgl : g < w.heap.size := by rcases hv g rfl with h | h; omega; exact h
      have hc' : wr.cell? ⟨g, o + j, none⟩ = some (.int .u8 (bs.getD j 0)) := by rw [hb.cell (p := ⟨g, o + j, none⟩) hgl]; exact hc
      have hfz := Joins.unfrozen_of_block hg j
      have hcl : ∃ x, wr.cell? ⟨w.heap.size, j, none⟩ = some x := by rw [Joins.cell_of_block hg]; exact ⟨_, Array.getElem?_eq_getElem (by simp; omega)⟩
      obtain ⟨x, hcl⟩ := hcl
      have e := set_step (bs.take j) bs.length (bs.getD j 0) (by rw [htl]; exact hlt)
      rw [htl] at e
      have e2 : bs.take j ++ [bs.getD j 0] = bs.take (j + 1) := by
        rw [List.take_succ_eq_append_getElem hlt, List.getD_eq_getElem?_getD, List.getElem?_eq_getElem hlt]; rfl
      rw [e2] at e
      generalize bs.getD j 0 = y at hc' e
      have HE : Hid (_ = _) := e
      have HG : Hid (_ = _) := hg
      have HT : Hid ((bs.take j).length = j) := htl
      clear hx hc hmk e hg e2 htl
      go_wp2
      go_roundw
      case rel =>
        refine ⟨j + 1, by omega, by go_num, ?_, hb.setCell (by simp) _⟩
        rw [Joins.block_setCell HG.out]
        have := HE.out
        rw [HT.out]
        rw [this]
      case measure => simp [intOf]; omega
    · have : j = bs.length := by omega
      subst this
      go_wp2
      go_ret
      rw [List.take_length] at hg
      exact ⟨_, rfl, ⟨by simp, .inr ⟨w.heap.size, bs.length, _, rfl, Nat.le_refl _, hg, Nat.le_refl _, by unfold maxLen; omega, by simp, by simp [List.take_of_length_le]⟩⟩, hb⟩

set_option maxHeartbeats 1000000 in
theorem eqNote_same (t k p n : Int) (s : ByteArray) (w : World) :
    Calls Try.prog 67 #[.agg #[.int .i64 t, .int .i64 k, .int .i64 p, .int .i64 n, .string s], .agg #[.int .i64 t, .int .i64 k, .int .i64 p, .int .i64 n, .string s]] w fun e w' => e = .returned (.bool true) ∧ Below w.heap.size w w' := by
  go_enter Try.func67, Try.ntmps67
  go_wp2
  go_ret
  exact ⟨rfl, ((Below.refl _ _).alloc (Nat.le_refl _) _).alloc (by simp) _⟩

set_option maxHeartbeats 1000000 in
theorem eqFramed_same (ok : Bool) (t k p n : Int) (s : ByteArray) (len : Int) (w : World) :
    Calls Try.prog 34 #[frV ok t k p n s len, frV ok t k p n s len] w fun e w' => e = .returned (.bool true) ∧ Below w.heap.size w w' := by
  unfold frV
  have hk : (ok != ok) = false := by simp
  go_enter Try.func34, Try.ntmps34
  go_wp2_with fail
  refine (eqNote_same _ _ _ _ _ _).mono ?_; rintro e w1 ⟨rfl, hb1⟩
  obtain ⟨hc1, hf1⟩ := bcell hb1
  go_wp2
  go_ret
  exact ⟨rfl, (((Below.refl _ _).alloc (Nat.le_refl _) _).alloc (by simp) _).trans (hb1.mono (by simp; omega))⟩

theorem readV_form (bs : List Int) : ∃ ok t k p n s len, readV bs = frV ok t k p n s len := by
  unfold readV
  split
  · exact ⟨_, _, _, _, _, _, _, rfl⟩
  · exact ⟨_, _, _, _, _, _, _, rfl⟩
theorem eqFramed_read (bs : List Int) (w : World) :
    Calls Try.prog 34 #[readV bs, readV bs] w fun e w' => e = .returned (.bool true) ∧ Below w.heap.size w w' := by
  obtain ⟨ok, t, k, p, n, s, len, e⟩ := readV_form bs
  rw [e]
  exact eqFramed_same ok t k p n s len w

theorem own_old {w : World} {base ety : Nat} {v : Value} {n : Nat} {xs : List Value} (h : w.ownsRow base ety 1 v n xs) : ∀ k, v.ownBlock = some k → k < w.heap.size := fun k hk => (h.lt k hk).2

set_option maxHeartbeats 2000000 in
theorem walkReadFrame (v : Value) (bs : List Int) (w : World) (h : Reads w v bs) (hbs : Byt bs) (hlen : bs.length ≤ maxLen) (hv : ∀ k, v.ownBlock = some k → bs.length = 0 ∨ k < w.heap.size) :
    Calls Try.prog 8 #[v] w fun e w' => e = .returned (.bool true) ∧ Below w.heap.size w w' := by
  have hform : ∃ a cap, v = .slice a bs.length cap := by obtain ⟨a, cap, e, _⟩ := h; exact ⟨a, cap, e⟩
  obtain ⟨a, cap, rfl⟩ := hform
  unfold maxLen at hlen
  have HR : Hid (Reads w (.slice a bs.length cap) bs) := h
  clear h
  by_cases hl : 1048576 < (bs.length : Int)
  · go_enter Try.func8, Try.ntmps8
    go_wp2
    go_ret
    exact ⟨rfl, Below.refl _ _⟩
  · have hl' : bs.length ≤ 1048576 := by omega
    obtain ⟨ok, t, k, p, n, s, len, hrd⟩ := readV_form bs
    have HRD : Hid (readV bs = frV ok t k p n s len) := hrd
    clear hrd
    go_enter Try.func8, Try.ntmps8
    go_wp2_with fail
    refine (toBytes_any _ bs _ HR.out (by omega) hv).mono ?_; rintro e w1 ⟨v1, rfl, own1, b1⟩
    go_wp2_with fail
    refine (specRead_any v1 bs _ (Reads.of_own own1).1 hbs (by omega) (own_old own1)).mono ?_; rintro e w2 ⟨rfl, b2⟩
    rw [HRD.out, frV]
    have z1 := b1.size
    have z2 := b2.size
    have B2 : Below w.heap.size w w2 := b1.trans (b2.mono (by omega))
    go_wp2_with fail
    have BA : Below w.heap.size w (w2.alloc (.cells #[.bool ok, .int .i64 t, .int .i64 k, .int .i64 p, .int .i64 n, .string s, .int .i64 len] 30)) := B2.alloc (by omega) _
    refine (toBytes_any _ bs _ (HR.out.below' BA hv) (by omega) (fun k hk => by have := hv k hk; have := BA.size; omega)).mono ?_; rintro e w3 ⟨v3, rfl, own3, b3⟩
    have z3 := b3.size
    simp only [World.size_alloc] at z3
    have f3 : w3.heap[w2.heap.size]? = some (.cells #[.bool ok, .int .i64 t, .int .i64 k, .int .i64 p, .int .i64 n, .string s, .int .i64 len] 30 (0, 0)) := by rw [b3.block _ (by simp)]; exact heap_alloc_new w2 _
    go_wp2_with fail
    refine (implRead_any v3 bs _ (Reads.of_own own3).1 hbs (by omega) (own_old own3)).mono ?_; rintro e w4 ⟨rfl, b4⟩
    rw [HRD.out, frV]
    have z4 := b4.size
    have f4 : w4.heap[w2.heap.size]? = some (.cells #[.bool ok, .int .i64 t, .int .i64 k, .int .i64 p, .int .i64 n, .string s, .int .i64 len] 30 (0, 0)) := by rw [b4.block _ (by omega)]; exact f3
    have hne : w2.heap.size ≠ w4.heap.size := by omega
    have f5 : (w4.alloc (.cells #[.bool ok, .int .i64 t, .int .i64 k, .int .i64 p, .int .i64 n, .string s, .int .i64 len] 30)).heap[w2.heap.size]? = some (.cells #[.bool ok, .int .i64 t, .int .i64 k, .int .i64 p, .int .i64 n, .string s, .int .i64 len] 30 (0, 0)) := by rw [Below.heap_alloc _ _ _ (by omega)]; exact f4
    obtain ⟨⟨r0, r1, r2, r3, r4, r5, r6⟩, fr⟩ := blk7 f5
    clear f3 f4 f5
    have own4 := ownsRow_below own3 b4 (Nat.le_refl _)
    go_wp2_with fail
    refine (eqFramed_same ok t k p n s len _).mono ?_; rintro e w5 ⟨rfl, b5⟩
    have z5 := b5.size
    simp only [World.size_alloc] at z5
    have b45 : Below w4.heap.size w4 w5 := ((Below.refl _ w4).alloc (Nat.le_refl _) _).trans (b5.mono (by simp))
    have own5 := ownsRow_below own4 b45 (Nat.le_refl _)
    have B5 : Below w.heap.size w w5 := ((BA.trans (b3.mono (by simp; omega))).trans (b4.mono (by omega))).trans (b45.mono (by omega))
    clear r0 r1 r2 r3 r4 r5 r6 fr own3 own4
    go_wp2_with fail
    refine (toBytes_any _ bs _ (HR.out.below' B5 hv) (by omega) (fun k hk => by have := hv k hk; have := B5.size; omega)).mono ?_; rintro e w6 ⟨v6, rfl, own6, b6⟩
    have z6 := b6.size
    have own5' := ownsRow_below own5 b6 (Nat.le_refl _)
    go_wp2_with fail
    refine (eqBytes_any _ _ bs bs _ (Reads.of_own own5').1 (Reads.of_own own6).1 (by omega) (by omega)).mono ?_; rintro e w7 ⟨rfl, m7, rfl⟩
    have hd : decide (bs = bs) = true := by simp
    rw [hd]
    clear hd
    go_wp2
    go_ret
    exact ⟨rfl, below_drewN (B5.trans (b6.mono (by omega))) _⟩

/-- A slice of bytes that came in. -/
def IsRow (w : World) (a : Option Addr) (len cap : Nat) (zs : List Int) : Prop :=
  (a = none ∧ len = 0 ∧ cap = 0 ∧ zs = []) ∨
  ∃ x, a = some x ∧ len ≤ cap ∧ cap ≤ maxLen ∧ zs.length = cap ∧ (∀ i, i < zs.length → w.cell? (x.add i) = some (.int .u8 (zs.getD i 0))) ∧ ∀ n ∈ zs, (Lit.int .u8 n).wf = true

theorem IsRow.reads {w : World} {a : Option Addr} {len cap : Nat} {zs : List Int} (h : IsRow w a len cap zs) : ∃ bs, Reads w (.slice a len cap) bs ∧ Byt bs ∧ bs.length ≤ maxLen ∧ bs.length = len ∧ ∀ k, (Value.slice a len cap).ownBlock = some k → len = 0 ∨ k < w.heap.size := by
  rcases h with ⟨rfl, rfl, rfl, rfl⟩ | ⟨x, rfl, hl, hm, hz, hc, hwz⟩
  · exact ⟨[], ⟨none, 0, rfl, Nat.le_refl _, by unfold maxLen; omega, fun i hi => by simp at hi⟩, fun b hb => by simp at hb, by simp [maxLen], rfl, fun k hk => by simp [Value.ownBlock] at hk⟩
  · have hlen : (zs.take len).length = len := by simp; omega
    refine ⟨zs.take len, ⟨some x, cap, by rw [hlen], by omega, hm, fun i hi => ?_⟩, fun b hb => ?_, by omega, hlen, fun k hk => ?_⟩
    · have h00 := hc 0 (by omega)
      obtain ⟨b, off, spot⟩ := x
      have hspot : spot = none := by simpa [Addr.add] using World.cell?_spot h00
      subst hspot
      have h0 := hc i (by omega)
      refine ⟨b, off, rfl, ?_⟩
      have e : (zs.take len).getD i 0 = zs.getD i 0 := by
        rw [List.getD_eq_getElem?_getD, List.getD_eq_getElem?_getD, List.getElem?_take_of_lt (by omega)]
      rw [e]
      have ea : (⟨b, off, none⟩ : Addr).add i = ⟨b, off + i, none⟩ := by simp [Addr.add] <;> omega
      rw [ea] at h0
      exact h0
    · have := bounds_u8 (hwz b (List.mem_of_mem_take hb))
      omega
    · by_cases h0 : len = 0
      · exact .inl h0
      · right
        have h0' := hc 0 (by omega)
        obtain ⟨b, off, spot⟩ := x
        have hspot : spot = none := by simpa [Addr.add] using World.cell?_spot h0'
        subst hspot
        simp [Value.ownBlock] at hk
        subst hk
        exact World.block_lt_of_cell? w _ (by simpa [Addr.add] using h0')

set_option maxRecDepth 100000 in
theorem liftedReadFrame (os : Os) (started : os.Started) (H : Type) (enc : TypeId × Value → H) :
    ReturnsInHanded {} Try.checked os 8 .any (Rows.fnExactReadFrameSpec.pre6 enc Try.prog Try.f8 Rows.fnExactReadFrameRow.domain false) (Rows.fnExactReadFrameSpec.post enc Try.prog Try.f8 false true false false) := by
  refine returnsInHanded_of_change (C := Try.checked) own started (by kernel_rfl) Try.func8
    (ChangeSpec.witness6 (enc := enc) (C := Try.checked) false ⟨#[], #[.slice none 0 0], []⟩ 8 (by kernel_rfl) (by kernel_rfl) (by kernel_rfl) (by kernel_rfl)) ?_
  intro W base args ds gs before hval0 hW hcnd _
  have hval : ∀ (j : Nat) t v, Try.f8.params[j]? = some t → args[j]? = some v → Value.okWide Try.prog W .any base t v := hval0
  have hW' := hW
  obtain ⟨p, q, hA0, hV, rfl, hfz, hnd⟩ := hW
  have hA : DataW.TrodAll enc Try.prog W 0 (fun _ => true) true Try.f8.params.toList args.toList ds p := hA0
  rw [Try.params8] at hA hval
  obtain ⟨v0, vs0, d0, ds0, p0, q0, hargs, rfl, rfl, h0, r0⟩ := trodAll_cons hA
  obtain ⟨rfl, rfl, rfl⟩ := trodAll_nil r0
  obtain rfl : args = #[v0] := by cases args; simp_all
  obtain ⟨rfl, rfl⟩ := trodVars_none hV
  have k0 := h0
  have lt0 : ∀ x ∈ p0, x.block < W.heap.size := by obtain ⟨m, hm⟩ := k0; exact DataW.trod_lt m _ _ _ hm
  obtain ⟨a0, len0, cap0, rfl⟩ := okWide_slice Try.underlying22 (hval 0 22 v0 rfl rfl)
  obtain ⟨z0, w0⟩ : ∃ zs, IsRow W a0 len0 cap0 zs := by
    obtain ⟨fuel, hf⟩ := h0
    rcases open_ints Try.underlying22 Try.underlying5 (by kernel_rfl) hf with ⟨hcs, _⟩ | ⟨x, l, c, zs, hcs, _, hl, hm, hz, _, hcell, hwz⟩
    · simp [Value.cells] at hcs
      obtain ⟨rfl, rfl, rfl⟩ := hcs
      exact ⟨[], .inl ⟨rfl, rfl, rfl, rfl⟩⟩
    · simp [Value.cells] at hcs
      obtain ⟨rfl, rfl, rfl⟩ := hcs
      exact ⟨zs, .inr ⟨_, rfl, hl, hm, by simpa using hz, hcell, hwz⟩⟩
  obtain ⟨bs, hrd, hby, hml, hle, hol⟩ := w0.reads
  clear hA0 hval0
  refine (walkReadFrame _ bs W hrd hby hml (fun k hk => by rw [hle]; exact hol k hk)).mono fun e W' ⟨he, bel⟩ => ?_
  subst he
  exact ⟨_, rfl, _, _, _, [], _, [], hW', trodAll_mk1 (shut_bool Try.underlying4 _), (trodAll_cons_mk (Below.trod laidOut (by kernel_rfl) (of_decide_eq_true (by kernel_rfl)) k0 bel lt0) trodAll_mk0), rfl, bel.frame _, fun h => by cases h⟩

theorem readFrame_holds : Rows.FnExactReadFrameSaid :=
  OpenClaim.holds_of_wide 8 Try.f8 rfl rfl rfl rfl rfl rfl rfl ⟨rfl, rfl, rfl, rfl, rfl⟩ rfl rfl rfl rfl rfl (by kernel_rfl) Try.func8 (by kernel_rfl)
    (of_decide_eq_true (by kernel_rfl)) (by unfold Func.isWrapper; first | (rw [if_pos (by decide +kernel)]; kernel_rfl) | (rw [if_neg (by decide +kernel)]; exact ⟨rfl, rfl⟩))
    (fun os started H enc _ => liftedReadFrame os started H enc)
#print axioms readFrame_holds
end Go.Proofs.Ytepagknkhlpicaa
