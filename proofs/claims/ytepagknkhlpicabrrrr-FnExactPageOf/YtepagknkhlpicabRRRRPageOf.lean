/-
  impl.PageOf.
-/
import Derived.Test.YtepagknkhlpicabRRRRPageRead
namespace Go.Proofs.YtepagknkhlpicabRRRR
open Go.ChangeShapes Go.WideShapes Go.ChangeAt Go.RowKit
set_option linter.unusedVariables false
set_option linter.unusedSimpArgs false
attribute [local go_sem ↓] Go.wp_at_zero Go.wp_at_succ

/-- A slice's array, in a walk that only reads. -/
theorem quiet_arr {P : Program} {C : World → Prop} {K : Act → Prop} {a : Act} {o : Oper} (t e : TypeId) (n : Nat) (x : Operand) (ho : o.op = .sliceToArrayPointer t x) (ad : Option Addr) (len cap : Nat) (hx : a.eval x = .slice ad len cap)
    (hu : P.underlying t = some (.array n e)) (hn : n ≤ len) (hk : K (a.put o.dst (.pointer ad))) : o.quiet P a C K :=
  ⟨_, fun w hw => by
    have e : (execOp a.eval o).run P w = .ok (.value (.pointer ad)) w := by
      unfold execOp
      simp only [ho, hx, Instr.arrayAt, Sem.run_bind, run_underlying hu, Sem.run_pure, Result.andThen_ok]
      rw [if_neg (by omega)]
      simp
    unfold Oper.quietAt; rw [e]; exact ⟨rfl, rfl⟩, hk⟩
theorem quiet_neq {P : Program} {C : World → Prop} {K : Act → Prop} {a : Act} {o : Oper} (t u : TypeId) (x y : Operand) (ho : o.op = .binOp .neq t x y u) (X Y : Array Value) (b : Bool) (hx : a.eval x = .agg X) (hy : a.eval y = .agg Y)
    (hg : P.eqGuardType P.depth t = false) (he : ∀ w, (Op.equalIn 10000 t (.agg X) (.agg Y)).run P w = .ok b w) (hk : K (a.put o.dst (.bool (!b)))) : o.quiet P a C K :=
  ⟨_, fun w hw => by
    have e : (execOp a.eval o).run P w = .ok (.value (.bool (!b))) w := by
      unfold execOp
      simp only [ho, hx, hy, Sem.run_bind, run_eqGuard_agg _ _ _ _ _ _ _ hg, run_neq_struct, he, Result.andThen_ok]
      rfl
    unfold Oper.quietAt; rw [e]; exact ⟨rfl, rfl⟩, hk⟩

set_option maxRecDepth 5000 in
set_option maxHeartbeats 2000000 in
theorem implPageOf_any (v : Value) (bs : List Int) (w : World) (hr : Reads w v bs) (hbs : Byt bs) (hv : ∀ k, v.ownBlock = some k → k < w.heap.size) :
    Calls Try.prog 22 #[v] w fun e w' => ∃ v' ety, e = .returned (.agg #[.bool (okP bs), .int .i64 (genP bs), v']) ∧ w'.ownsRow w.heap.size ety 1 v' (bytesP bs).length ((bytesP bs).map (Value.int .u8)) ∧ Below w.heap.size w w' := by
  have hml := hr.le'
  have hform : ∃ a cap, v = .slice a bs.length cap := by obtain ⟨a, cap, e, _⟩ := hr; exact ⟨a, cap, e⟩
  obtain ⟨a, cap, rfl⟩ := hform
  unfold maxLen at hml
  have bA := (Below.refl _ w).alloc (Nat.le_refl _) (.cells #[.bool false, .int .i64 0, .slice none 0 0] 39)
  have gA := heap_alloc_new w (.cells #[.bool false, .int .i64 0, .slice none 0 0] 39)
  by_cases h64 : bs.length = 64
  · have q64 : ((bs.length : Int) != 64) = false := by simp [h64]
    have hg6 := hbs.getD 6
    obtain ⟨nz, hnz⟩ : ∃ nz : Nat, bs.getD 6 0 = (nz : Int) := ⟨(bs.getD 6 0).toNat, by omega⟩
    have hnz' : nz < 256 := by omega
    obtain ⟨g0, o0, ha, _⟩ : ∃ g0 o0, a = some ⟨g0, o0, none⟩ ∧ True := by
      obtain ⟨a', cap', e, _, _, hx⟩ := hr
      simp only [Value.slice.injEq] at e
      obtain ⟨rfl, _, _⟩ := e
      obtain ⟨b, off, e, _⟩ := hx 0 (by omega)
      exact ⟨b, off, e, trivial⟩
    subst ha
    have hg0 : g0 < w.heap.size := hv g0 rfl
    have HZ : Hid (bs.getD 6 0 = (nz : Int)) := hnz
    have HR : Hid (Reads w (.slice (some ⟨g0, o0, none⟩) bs.length cap) bs) := hr
    have H64 : Hid (bs.length = 64) := h64
    clear hr hnz hg6 h64
    go_enter Try.func22, Try.ntmps22
    go_wp2_with fail
    refine (fieldsOfPage_any _ bs _ (HR.out.below bA hv) hbs H64.out (fun k hk => by have := hv k hk; simp; omega)).mono ?_; rintro e w1 ⟨v1, rfl, own1, b1⟩
    rw [HZ.out, Int.toNat_natCast] at own1
    generalize hG : un (pad bs 2 4) = gen
    have HG : Hid (un (pad bs 2 4) = gen) := hG
    have hPl := pad_length bs nz 8
    have hby := pad_byt hbs nz 8
    generalize hBd : pad bs 8 nz = body at own1 hPl hby
    have HB : Hid (pad bs 8 nz = body) := hBd
    clear hG hBd
    have own1' : w1.ownsRow (w.heap.size + 1) 5 1 v1 body.length (body.map (Value.int .u8)) := by rw [hPl]; simpa using own1
    have hbl : body.length < 256 := by omega
    have HPl : Hid (body.length = nz) := hPl
    clear own1 hPl
    obtain ⟨a1, k1, rfl⟩ := own_len own1'
    have z1 := b1.size
    simp only [World.size_alloc] at z1
    have res1 : w1.heap[w.heap.size]? = some (.cells #[.bool false, .int .i64 0, .slice none 0 0] 39 (0, 0)) := by rw [b1.block _ (by simp)]; exact gA
    have B1 : Below w.heap.size w w1 := bA.trans (b1.mono (by simp))
    have bP : Below w1.heap.size w1 (w1.alloc (.cells #[.bool true, .int .i64 gen, .slice a1 body.length k1] 39)) := (Below.refl _ w1).alloc (Nat.le_refl _) _
    have pg1 := heap_alloc_new w1 (.cells #[.bool true, .int .i64 gen, .slice a1 body.length k1] 39)
    cases hok : pageOkB true gen body.length with
    | false =>
      have HO : Hid (okP bs = false) := by
        show okP bs = false
        have : ¬ pageOf true (un (pad bs 2 4)) (pad bs 8 (bs.getD 6 0).toNat) = bs := by
          rw [HZ.out, Int.toNat_natCast, HG.out, HB.out, pageOf, hok]
          intro e
          have := H64.out
          rw [← e] at this
          simp at this
        unfold okP
        rw [decide_eq_false this]
        simp
      go_wp2_with fail
      refine (arrayOfPage_no true gen a1 body.length k1 _ (by unfold maxLen; omega) hok).mono ?_; rintro e w2 ⟨rfl, b2⟩
      have z2 := b2.size
      simp only [World.size_alloc] at z2
      have res2 : w2.heap[w.heap.size]? = some (.cells #[.bool false, .int .i64 0, .slice none 0 0] 39 (0, 0)) := by rw [b2.block _ (by simp; omega), bP.block _ (by omega)]; exact res1
      have B2 : Below w.heap.size w w2 := (B1.trans (bP.mono (by omega))).trans (b2.mono (by simp; omega))
      have g0' := heap_alloc_new w2 (.cells zeroA 63)
      have hcs : zeroA.size = 64 := zeroA_size
      have hall := rep_all
      have BA : Below w.heap.size w (w2.alloc (.cells zeroA 63)) := B2.alloc (by omega) _
      have resA : (w2.alloc (.cells zeroA 63)).heap[w.heap.size]? = some (.cells #[.bool false, .int .i64 0, .slice none 0 0] 39 (0, 0)) := by rw [Below.heap_alloc _ _ _ (by omega)]; exact res2
      obtain ⟨⟨r0, r1, r2⟩, fr⟩ := b3cells' resA
      obtain ⟨hgf, hbf⟩ := okP_false HO.out
      have HF : Hid (okP bs = false ∧ genP bs = 0 ∧ bytesP bs = []) := ⟨HO.out, hgf, hbf⟩
      have hX : w2.heap.size ≠ w.heap.size := by omega
      clear hgf hbf HO res1 pg1 gA resA own1' b1 b2 bP
      go_wp2_with (first | (refine wpList_alloc_row rfl 63 rfl zeroA zero76' ?_) | (refine wpList_store_same rfl 63 _ _ rfl w2.heap.size rfl 63 zeroA rfl g0' (by rw [hcs]; exact sz76) hall ?_))
      go_quiet (fail)
      go_wp2
      refine bodyPost_ret (v := .agg #[.bool false, .int .i64 0, .slice none 0 0]) (by simp [results, Try.results22, go_sem, r0, r1, r2]) rfl ⟨.slice none 0 0, 0, by rw [HF.out.1, HF.out.2.1], by rw [HF.out.2.2]; exact World.ownsRow_nil _ _ _ _, ?_⟩
      iterate 3 refine Below.setCell ?_ (by simp) _
      exact below_drewN BA _
    | true =>
      obtain ⟨_, _, _, hl⟩ := pageOk_parts hok
      have hbd : decide (pageL gen body = bs) = okP bs := by
        unfold okP
        rw [HZ.out, Int.toNat_natCast, HG.out, HB.out, pageOf, if_pos hok, decide_eq_true H64.out, decide_eq_true (show (nz : Int) ≤ 56 by have := HPl.out; omega)]
        simp
      have HD : Hid (decide (pageL gen body = bs) = okP bs) := hbd
      clear hbd
      go_wp2_with fail
      refine (arrayOfPage_ok gen a1 k1 body _ hok ⟨(Reads.of_own own1').1.below bP (fun k hk => (own1'.lt k hk).2), fun k hk => .inr (by have := (own1'.lt k hk).2; simp; omega)⟩ hby).mono ?_; rintro e w2 ⟨rfl, b2⟩
      have z2 := b2.size
      simp only [World.size_alloc] at z2
      have res2 : w2.heap[w.heap.size]? = some (.cells #[.bool false, .int .i64 0, .slice none 0 0] 39 (0, 0)) := by rw [b2.block _ (by simp; omega), bP.block _ (by omega)]; exact res1
      have pg2 : w2.heap[w1.heap.size]? = some (.cells #[.bool true, .int .i64 gen, .slice a1 body.length k1] 39 (0, 0)) := by rw [b2.block _ (by simp)]; exact pg1
      have B12 : Below w1.heap.size w1 w2 := bP.trans (b2.mono (by simp))
      have B2 : Below w.heap.size w w2 := B1.trans (B12.mono (by omega))
      have hLl : (pageL gen body).length = 64 := pageL_length gen body hl
      have hEq : ∀ w, (Op.equalIn 10000 63 (.agg ((pageL gen body).map (Value.int .u8)).toArray) (.agg (bs.map (Value.int .u8)).toArray)).run Try.prog w = .ok (okP bs) w := fun w => by
        rw [run_equalIn_arr w 9998 64 63 5 .u8 Try.underlying63 Try.underlying5 Try.isAgg5 Try.sizeOf5 _ _ hLl H64.out, HD.out]
      have hEG : Try.prog.eqGuardType Try.prog.depth 63 = false := by kernel_rfl
      have hcs : ((pageL gen body).map (Value.int .u8)).toArray.size = 64 := by simp [hLl]
      have hall : ((pageL gen body).map (Value.int .u8)).toArray.all (·.oneCell') = true := by simp [Value.oneCell']
      have hR2 : w2.rangeAt g0 o0 (bs.map (Value.int .u8)) := range_reads (HR.out.below B2 hv)
      have hbl2 : (bs.map (Value.int .u8)).length = 64 := by simp [H64.out]
      generalize ((pageL gen body).map (Value.int .u8)).toArray = C at hEq hcs hall
      generalize bs.map (Value.int .u8) = Y at hEq hR2 hbl2
      have gZ := heap_alloc_new w2 (.cells zeroA 63)
      have gC := heap_alloc_new w2 (.cells C 63)
      have hRC : (w2.alloc (.cells C 63)).rangeAt w2.heap.size 0 C.toList := fun j u hj => by
        rw [Nat.zero_add, cell_of_row _ _ j C _ _ gC]
        simpa using hj
      have hRY : (w2.alloc (.cells C 63)).rangeAt g0 o0 Y := fun j u hj => by
        rw [((Below.refl _ w2).alloc (Nat.le_refl _) (.cells C 63)).cell (p := ⟨g0, o0 + j, none⟩) (show g0 < w2.heap.size by omega)]
        exact hR2 j u hj
      have HZ' := zero76'
      have hzs : zeroA.size = 64 := zeroA_size
      have B2C : Below w2.heap.size w2 (w2.alloc (.cells C 63)) := (Below.refl _ w2).alloc (Nat.le_refl _) _
      have BC : Below w.heap.size w (w2.alloc (.cells C 63)) := B2.trans (B2C.mono (by omega))
      have resC : (w2.alloc (.cells C 63)).heap[w.heap.size]? = some (.cells #[.bool false, .int .i64 0, .slice none 0 0] 39 (0, 0)) := by rw [Below.heap_alloc _ _ _ (by omega)]; exact res2
      have pgC : (w2.alloc (.cells C 63)).heap[w1.heap.size]? = some (.cells #[.bool true, .int .i64 gen, .slice a1 body.length k1] 39 (0, 0)) := by rw [Below.heap_alloc _ _ _ (by omega)]; exact pg2
      have ownC := ownsRow_below own1' (B12.trans (B2C.mono (by omega))) (Nat.le_refl _)
      obtain ⟨⟨r0, r1, r2⟩, fr⟩ := b3cells' resC
      obtain ⟨⟨p0, p1, p2⟩, fp⟩ := b3cells' pgC
      have HRC : Hid ((w2.alloc (.cells C 63)).rangeAt w2.heap.size 0 C.toList ∧ (w2.alloc (.cells C 63)).rangeAt g0 o0 Y ∧ (Try.prog.info? 63).map (·.size) = some C.toList.length ∧ (Try.prog.info? 63).map (·.size) = some Y.length) := ⟨hRC, hRY, by rw [Array.length_toList, hcs]; exact sz76, by rw [hbl2]; exact sz76⟩
      have HOC : Hid ((w2.alloc (.cells C 63)).ownsRow (w.heap.size + 1) 5 1 (.slice a1 body.length k1) body.length (body.map (Value.int .u8))) := ownC
      have HEq : Hid (∀ w, (Op.equalIn 10000 63 (.agg C) (.agg Y.toArray)).run Try.prog w = .ok (okP bs) w) := hEq
      clear hRC hRY hR2 resC pgC res2 pg2 res1 pg1 gA own1' ownC b1 b2 bP hEq
      go_wp2_with (first | (refine wpList_alloc_row rfl 63 rfl zeroA HZ' ?_) | (refine wpList_store_row rfl 63 _ _ rfl w2.heap.size C rfl rfl 63 zeroA gZ (by rw [hcs]; exact sz76) (by omega) hall ?_; rw [World.setRow_alloc_new]))
      refine wp_region_quiet_lit (by kernel_rfl) (by kernel_rfl) ?_
      quiet_step (fail)
      quiet_step (fail)
      quiet_step (fail)
      refine BigFrame.wpQuiet_want (by rfl) (fun K hK => ?_)
      refine quiet_load 63 _ rfl w2.heap.size 0 C.toList _ rfl ?_ Try.underlying63 rfl HRC.out.2.2.1 (hK _ ?_)
      · rintro W ⟨n, rfl⟩
        exact HRC.out.1
      clear hK K
      simp only [Act.put, List.setIfInBounds_toArray, List.set_cons_zero, List.set_cons_succ, Array.toArray_toList]
      have hlt64 : ¬ (bs.length < 64) := by have := H64.out; omega
      quiet_step (fail)
      refine BigFrame.wpQuiet_want (by rfl) (fun K hK => ?_)
      refine quiet_arr 63 _ 64 _ rfl (some ⟨g0, o0, none⟩) bs.length cap rfl Try.underlying63 (by omega) (hK _ ?_)
      clear hK K
      simp only [Act.put, List.setIfInBounds_toArray, List.set_cons_zero, List.set_cons_succ]
      refine BigFrame.wpQuiet_want (by rfl) (fun K hK => ?_)
      refine quiet_load 63 _ rfl g0 o0 Y _ rfl ?_ Try.underlying63 rfl HRC.out.2.2.2 (hK _ ?_)
      · rintro W ⟨n, rfl⟩
        exact HRC.out.2.1
      clear hK K
      simp only [Act.put, List.setIfInBounds_toArray, List.set_cons_zero, List.set_cons_succ]
      refine BigFrame.wpQuiet_want (by rfl) (fun K hK => ?_)
      refine quiet_neq 63 _ _ _ rfl C Y.toArray (okP bs) rfl rfl hEG HEq.out (hK _ ?_)
      clear hK K
      simp only [Act.put, List.setIfInBounds_toArray, List.set_cons_zero, List.set_cons_succ]
      quiet_step (fail)
      refine wpQuiet_nil ?_
      rintro _ ⟨nq, rfl⟩
      cases hres : okP bs with
      | false =>
        have e1 : (!false) = true := rfl
        rw [e1]
        obtain ⟨hgf, hbf⟩ := okP_false hres
        have HF : Hid (okP bs = false ∧ genP bs = 0 ∧ bytesP bs = []) := ⟨hres, hgf, hbf⟩
        clear hgf hbf hres p0 p1 p2 fp
        go_wp2
        refine bodyPost_ret (v := .agg #[.bool false, .int .i64 0, .slice none 0 0]) (by simp [results, Try.results22, go_sem, r0, r1, r2]) rfl ⟨.slice none 0 0, 0, by rw [HF.out.1, HF.out.2.1], by rw [HF.out.2.2]; exact World.ownsRow_nil _ _ _ _, ?_⟩
        iterate 3 refine Below.setCell ?_ (by simp) _
        exact below_drewN BC _
      | true =>
        have e1 : (!true) = false := rfl
        rw [e1]
        obtain ⟨hgf, hbf⟩ := okP_true hres
        rw [HG.out] at hgf
        rw [HZ.out, Int.toNat_natCast, HB.out] at hbf
        have HF : Hid (okP bs = true ∧ genP bs = gen ∧ bytesP bs = body) := ⟨hres, hgf, hbf⟩
        have q1 : w1.heap.size ≠ w.heap.size := by omega
        have q2 : w.heap.size ≠ w1.heap.size := by omega
        clear hgf hbf hres
        go_wp2
        refine bodyPost_ret (v := .agg #[.bool true, .int .i64 gen, .slice a1 body.length k1]) (by simp [results, Try.results22, go_sem, r0, r1, r2, p0, p1, p2, q1, q2]) rfl ⟨.slice a1 body.length k1, 5, by rw [HF.out.1, HF.out.2.1], ?_, ?_⟩
        · rw [HF.out.2.2]
          have own7 := HOC.out
          have hlt := own7.lt
          obtain ⟨t1, t2⟩ := own7
          refine ⟨t1, ?_⟩
          rcases t2 with t2 | ⟨g, cap', cur, e, hg, hh, r⟩
          · exact .inl t2
          · have hg' := (hlt g (by rw [e]; rfl)).1
            refine .inr ⟨g, cap', cur, e, by omega, ?_, r⟩
            rw [Below.heap_setCell _ _ _ _ (by simp; omega), Below.heap_setCell _ _ _ _ (by simp; omega), Below.heap_setCell _ _ _ _ (by simp; omega)]
            exact hh
        · iterate 3 refine Below.setCell ?_ (by simp) _
          exact below_drewN BC _
  · have q64 : ((bs.length : Int) != 64) = true := by simp; omega
    have HO : Hid (okP bs = false) := by
      show okP bs = false
      simp [okP, h64]
    obtain ⟨hg, hb⟩ := okP_false HO.out
    rw [HO.out, hg, hb]
    obtain ⟨⟨r0, r1, r2⟩, fr⟩ := b3cells' gA
    clear h64 hg hb
    go_enter Try.func22, Try.ntmps22
    go_wp2
    refine bodyPost_ret (v := .agg #[.bool false, .int .i64 0, .slice none 0 0]) (by simp [results, Try.results22, go_sem, r0, r1, r2]) rfl ⟨.slice none 0 0, 0, rfl, World.ownsRow_nil _ _ _ _, bA⟩
end Go.Proofs.YtepagknkhlpicabRRRR
