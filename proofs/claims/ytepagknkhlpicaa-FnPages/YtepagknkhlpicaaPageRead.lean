/-
  A page read back: impl.fieldsOfPage, impl.PageOf.
-/
import Derived.Test.YtepagknkhlpicaaSpecPage
import Derived.Deep.RegionLaw
import Derived.Lib.AppendStr
import Derived.Deep.MidRow
import Derived.Deep.QuietTactic
import Derived.Laws.StructEq
namespace Go.Proofs.Ytepagknkhlpicaa
open Go.ChangeShapes Go.WideShapes Go.ChangeAt Go.RowKit
set_option linter.unusedVariables false
set_option linter.unusedSimpArgs false
attribute [local go_sem ↓] Go.wp_at_zero Go.wp_at_succ

/-- Two arrays of bytes, held against each other. -/
theorem run_equalIn_arr {P : Program} (w : World) (d n : Nat) (t e : TypeId) (k' : IntKind) (hu : P.underlying t = some (.array n e)) (he : P.underlying e = some (.int k')) (ha : ∀ w, (isAgg e).run P w = .ok false w) (hz : ∀ w, (sizeOf e).run P w = .ok 1 w)
    (xs ys : List Int) (hx : xs.length = n) (hy : ys.length = n) :
    (Op.equalIn (d + 2) t (.agg (xs.map (Value.int .u8)).toArray) (.agg (ys.map (Value.int .u8)).toArray)).run P w = .ok (decide (xs = ys)) w := by
  have hp : ∀ (zs : List Int) (i : Nat) (h : i < zs.length), (part e (zs.map (Value.int .u8)).toArray i).run P w = .ok (.int .u8 zs[i]) w := fun zs i h => by
    simp [part, ha, h]
  rw [Op.equalIn]
  simp only [Sem.run_bind, run_underlying hu, Result.andThen_ok, hz]
  rw [Std.Legacy.Range.forIn_eq_forIn_range']
  simp only [Std.Legacy.Range.size]
  have e0 : (n - 0 + 1 - 1) / 1 = n := by simp
  rw [e0]
  have key : ∀ m i, i + m = n → xs.take i = ys.take i →
      ((forIn (List.range' i m) ((none : Option Bool), ()) fun i _ => do
            let a ← part e (List.map (Value.int IntKind.u8) xs).toArray (i * 1)
            let b ← part e (List.map (Value.int IntKind.u8) ys).toArray (i * 1)
            let r ← Op.equalIn (d + 1) e a b
            if (!r) = true then pure (ForInStep.done (some false, ())) else pure (ForInStep.yield (none, ())) : Sem (Option Bool × Unit)).run P w) = .ok (if xs = ys then (none, ()) else (some false, ())) w := by
    intro m
    induction m with
    | zero =>
      intro i hi ht
      have : xs = ys := by
        rw [List.take_of_length_le (by omega), List.take_of_length_le (by omega)] at ht
        exact ht
      simp [this]
    | succ m ih =>
      intro i hi ht
      rw [List.range'_succ, List.forIn_cons]
      simp only [Sem.run_bind, Nat.mul_one]
      rw [hp xs i (by omega)]
      simp only [Result.andThen_ok]
      rw [hp ys i (by omega)]
      simp only [Result.andThen_ok]
      rw [run_equalIn_int w d e .u8 k' _ _ he]
      simp only [Result.andThen_ok]
      by_cases hq : xs[i]'(by omega) = ys[i]'(by omega)
      · have e1 : (xs[i]'(by omega) == ys[i]'(by omega)) = true := by simp [hq]
        rw [e1]
        simp only [Bool.not_true, Bool.false_eq_true, if_false, Sem.run_pure, Result.andThen_ok]
        have := ih (i + 1) (by omega) (by rw [List.take_succ_eq_append_getElem (by omega), List.take_succ_eq_append_getElem (by omega), ht, hq])
        simpa using this
      · have e1 : (xs[i]'(by omega) == ys[i]'(by omega)) = false := by simp [hq]
        have e2 : ¬ xs = ys := fun e => hq (by simp [e])
        rw [e1]
        simp [e2]
  rw [key n 0 (by omega) (by simp)]
  by_cases h : xs = ys <;> simp [h]

theorem Reads.le' {w : World} {v : Value} {bs : List Int} (h : Reads w v bs) : bs.length ≤ maxLen := by
  obtain ⟨a, cap, e, h1, h2, _⟩ := h
  omega
/-- 'append(buf, s...)', s a text, at a step of a region that draws. -/
theorem step_append_string {ops : Array Oper} {o : Oper} {a : Act} {w : World} {K : Act → World → Prop} {Q : Exit → Act → World → Prop} {E : Prop} (hgd : o.guard = none) (sl x : Operand)
    (ho : o.op = .call { callee := .builtin .append, args := #[sl, x], argTypes := #[22, 9] }) (base : Nat)
    (v : Value) (n : Nat) (xs : List Value) (hs : a.eval sl = v) (hown : w.ownsRow base 5 1 v n xs) (s : ByteArray) (hx : a.eval x = .string s)
    (hn : n ≤ 1000000) (hm : s.size ≤ 1000000) (hbase : base ≤ w.heap.size)
    (h : ∀ v' w', w'.ownsRow base 5 1 v' (n + s.size) (xs ++ Lib.strCells s) → w.grownBy w' v.ownBlock → K (a.put o.dst v') w') :
    if Region.wanted o (yielded ops a.tmps) = true then Oper.wp Try.prog o a w K Q else E := by
  obtain ⟨i0, hi, hz0, hz1, hz2⟩ := info_parts info5
  have hw : Region.wanted o (yielded ops a.tmps) = true := by simp [Region.wanted, hgd]
  rw [if_pos hw]
  obtain ⟨v', w', hr, h2, h3, h4⟩ := Lib.run_append_own_string (P := Try.prog) w base 22 9 o.type 5 i0 Try.underlying22 Try.underlying9 hi hz0 hz1 hz2 v n xs hown s (by unfold maxLen; omega) (by omega) hbase
  unfold Oper.wp execOp
  simp only [ho, resolve, invoke, builtin, Sem.run_bind, Sem.run_pure, Result.andThen_ok, List.map_toArray, List.map_cons, List.map_nil, hs, hx, hr]
  exact h v' w' h2 h3

theorem b3cells' {w : World} {b : Nat} {x0 x1 x2 : Value} {T : TypeId} (h : w.heap[b]? = some (.cells #[x0, x1, x2] T (0, 0))) :
    (w.cell? ⟨b, 0, none⟩ = some x0 ∧ w.cell? ⟨b, 1, none⟩ = some x1 ∧ w.cell? ⟨b, 2, none⟩ = some x2) ∧ ∀ j, w.frozen? ⟨b, j, none⟩ = false := by
  refine ⟨⟨?_, ?_, ?_⟩, fun j => Joins.unfrozen_of_block h j⟩ <;> (rw [Joins.cell_of_block h]; rfl)

set_option maxRecDepth 5000 in
set_option maxHeartbeats 4000000 in
theorem fieldsOfPage_any (v : Value) (bs : List Int) (w : World) (hr : Reads w v bs) (hbs : Byt bs) (hl : bs.length = 64) (hv : ∀ k, v.ownBlock = some k → k < w.heap.size) :
    Calls Try.prog 56 #[v] w fun e w' => ∃ v', e = .returned (.agg #[.bool true, .int .i64 (un (pad bs 2 4)), v']) ∧ w'.ownsRow w.heap.size 5 1 v' (bs.getD 6 0).toNat ((pad bs 8 (bs.getD 6 0).toNat).map (Value.int .u8)) ∧ Below w.heap.size w w' := by
  have hform : ∃ a len cap, v = .slice a len cap := by obtain ⟨a, cap, e, _⟩ := hr; exact ⟨a, _, cap, e⟩
  obtain ⟨a, len, cap, rfl⟩ := hform
  have bA : Below w.heap.size w ((w.alloc (.cells #[.bool false, .int .i64 0, .slice none 0 0] 33)).alloc (.cells #[.slice a len cap, .int .i64 0, .bool false] 79)) := ((Below.refl _ w).alloc (Nat.le_refl _) _).alloc (by simp) _
  have rd0 : Rd ((w.alloc (.cells #[.bool false, .int .i64 0, .slice none 0 0] 33)).alloc (.cells #[.slice a len cap, .int .i64 0, .bool false] 79)) (w.heap.size + 1) (.slice a len cap) bs 0 := by
    refine ⟨?_, hr.below bA hv, by omega, fun k hk => by have := hv k hk; omega⟩
    have := heap_alloc_new (w.alloc (.cells #[.bool false, .int .i64 0, .slice none 0 0] 33)) (.cells #[.slice a len cap, .int .i64 0, .bool false] 79)
    simpa using this
  have res0 : ((w.alloc (.cells #[.bool false, .int .i64 0, .slice none 0 0] 33)).alloc (.cells #[.slice a len cap, .int .i64 0, .bool false] 79)).heap[w.heap.size]? = some (.cells #[.bool false, .int .i64 0, .slice none 0 0] 33 (0, 0)) := alloc2_fst w _ _
  have hg6 := hbs.getD 6
  obtain ⟨nz, hnz⟩ : ∃ nz : Nat, bs.getD 6 0 = (nz : Int) := ⟨(bs.getD 6 0).toNat, by omega⟩
  have hnz' : nz < 256 := by omega
  rw [hnz, Int.toNat_natCast]
  have HZ : Hid (bs.getD 6 0 = (nz : Int)) := hnz
  clear hnz hg6 hr
  go_enter Try.func56, Try.ntmps56
  go_wp2_with fail
  refine (take_rd _ _ bs 0 _ rd0 (by omega)).mono ?_; rintro e w1 ⟨rfl, hw1, hb1⟩
  go_wp2_with fail
  refine (take_rd _ _ bs 1 _ hw1 (by omega)).mono ?_; rintro e w2 ⟨rfl, hw2, hb2⟩
  go_wp2_with fail
  refine (takeInt _ _ bs 2 4 _ hw2 hbs (by omega) (by omega)).mono ?_; rintro e w3 ⟨rfl, hw3, hb3⟩
  rw [wrap_un bs hbs 2 4 (by omega)]
  generalize hG : un (pad bs 2 4) = gen
  have HG : Hid (un (pad bs 2 4) = gen) := hG
  clear hG
  have z1 := hb1.size
  simp only [World.size_alloc] at z1
  have z2 := hb2.size
  have z3 := hb3.size
  have res3 : w3.heap[w.heap.size]? = some (.cells #[.bool false, .int .i64 0, .slice none 0 0] 33 (0, 0)) := by rw [hb3.block _ (by omega), hb2.block _ (by omega), hb1.block _ (by omega)]; exact res0
  have B3 : Below w.heap.size w w3 := ((bA.trans (hb1.below (fun k hk => by omega))).trans (hb2.below (fun k hk => by omega))).trans (hb3.below (fun k hk => by omega))
  have bP : Below w3.heap.size w3 (w3.alloc (.cells #[.bool true, .int .i64 gen, .slice none 0 0] 33)) := (Below.refl _ w3).alloc (Nat.le_refl _) _
  have zP : w3.heap.size = w.heap.size + 1 + 1 := by omega
  have pg3 := heap_alloc_new w3 (.cells #[.bool true, .int .i64 gen, .slice none 0 0] 33)
  rw [zP] at pg3
  have rd3 := hw3.kp (S := fun _ => False) (Below.kp bP) (fun k hk => ⟨by have := hv k hk; omega, id⟩) id
  clear hb1 hb2 hb3 hw1 hw2 rd0 res0
  go_wp2_with fail
  refine (takeInt _ _ bs 6 1 _ rd3 hbs (by omega) (by omega)).mono ?_; rintro e w4 ⟨rfl, hw4, hb4⟩
  rw [wrap_un bs hbs 6 1 (by omega), un_one, HZ.out]
  have z4 := hb4.size
  simp only [World.size_alloc] at z4
  go_wp2_with fail
  refine (take_rd _ _ bs 7 _ hw4 (by omega)).mono ?_; rintro e w5 ⟨rfl, hw5, hb5⟩
  have z5 := hb5.size
  have res5 : w5.heap[w.heap.size]? = some (.cells #[.bool false, .int .i64 0, .slice none 0 0] 33 (0, 0)) := by rw [hb5.block _ (by omega), hb4.block _ (by omega), bP.block _ (by omega)]; exact res3
  have pg5 : w5.heap[w.heap.size + 1 + 1]? = some (.cells #[.bool true, .int .i64 gen, .slice none 0 0] 33 (0, 0)) := by rw [hb5.block _ (by omega), hb4.block _ (by omega)]; exact pg3
  have B5 : Below w.heap.size w w5 := ((B3.trans (bP.mono (by omega))).trans (hb4.below (fun k hk => by omega))).trans (hb5.below (fun k hk => by omega))
  have hv5 : ∀ k, (Value.slice a len cap).ownBlock = some k → k < w5.heap.size := fun k hk => by have := hv k hk; omega
  obtain ⟨⟨c0, c1, c2⟩, fz⟩ := b3cells' pg5
  have HK : Hid (∀ W, Kp (fun k => k = w.heap.size + 1) w5 W → W.heap[w.heap.size + 1 + 1]? = some (.cells #[.bool true, .int .i64 gen, .slice none 0 0] 33 (0, 0))) := fun W hW => by rw [hW.block _ (by omega) (by omega)]; exact pg5
  have HT : Hid (∀ W, W = w5.drew → Calls Try.prog 50 #[.pointer (some ⟨w.heap.size + 1, 0, none⟩), .int .i64 nz] W fun e w' => e = .returned (.string (mkS (pad bs 8 nz))) ∧ Kp (fun k => k = w.heap.size + 1) w5 w') := by
    rintro W rfl
    refine (takeText_rd _ _ bs 8 nz w5.drew hw5 (by omega) (by omega) hv5).mono ?_
    rintro e w' ⟨rfl, _, kp⟩
    exact ⟨rfl, ⟨kp.os, kp.tape, kp.output, kp.size, kp.block⟩⟩
  have hSz : (mkS (pad bs 8 nz)).size = nz := by rw [mkS_size, pad_length]
  have hSt : Lib.strCells (mkS (pad bs 8 nz)) = (pad bs 8 nz).map (Value.int .u8) := by rw [strCells_txt, txt_mkS _ (pad_byt hbs _ _)]
  generalize mkS (pad bs 8 nz) = S at HT hSz hSt
  have HSt : Hid (Lib.strCells S = (pad bs 8 nz).map (Value.int .u8)) := hSt
  clear hSt pg3 hb4 hb5 hw4 hw5 rd3 hw3
  go_wp2
  go_region_law
    (first
      | (refine step_append_string rfl _ _ rfl w6.heap.size (.slice none 0 0) 0 [] rfl (World.ownsRow_nil _ _ _ _) S rfl (by omega) (by omega) (Nat.le_refl _) ?_; intro v7 w7 own7 grow7; obtain ⟨a7, k7, rfl⟩ := own_len own7; have pg7 : w7.heap[w.heap.size + 1 + 1]? = some (.cells #[.bool true, .int .i64 gen, .slice none 0 0] 33 (0, 0)) := (by rw [grow7.block _ (by have := kp6.size; omega) (by simp [Value.ownBlock])]; exact pg6); obtain ⟨⟨d0, d1, d2⟩, fd⟩ := b3cells' pg7)
      | (go_simp; go_at_call 50; refine (HT.out _ rfl).mono ?_; rintro e w6 ⟨rfl, kp6⟩; have pg6 := HK.out _ kp6; obtain ⟨⟨e0, e1, e2⟩, fe⟩ := b3cells' pg6))
  all_goals
    have z6 := kp6.size
    have z7 := grow7.size
    have res7 : w7.heap[w.heap.size]? = some (.cells #[.bool false, .int .i64 0, .slice none 0 0] 33 (0, 0)) := by rw [grow7.block _ (by omega) (by simp [Value.ownBlock]), kp6.block _ (by omega) (by omega)]; exact res5
    have B7 : Below w.heap.size w w7 := (B5.trans (kp6.below (by omega) (fun k hk => by omega))).trans (((Below.refl _ w6).grown grow7 (Nat.le_refl _) (fun k hk => by simp [Value.ownBlock] at hk)).mono (by omega))
    obtain ⟨⟨r0, r1, r2⟩, fr⟩ := b3cells' res7
    have q1 : w.heap.size + 1 + 1 ≠ w.heap.size := by omega
    have q2 : w.heap.size ≠ w.heap.size + 1 + 1 := by omega
    rw [Nat.zero_add, List.nil_append, hSz, HSt.out] at own7
    have HO : Hid (w7.ownsRow w6.heap.size 5 1 (.slice a7 nz k7) nz ((pad bs 8 nz).map (Value.int .u8))) := own7
    clear own7 res3 res5 pg5 bP B3 bA
    go_wp2
    refine bodyPost_ret (v := .agg #[.bool true, .int .i64 gen, .slice a7 nz k7]) (by simp [results, Try.results56, go_sem, r0, r1, r2, d0, d1, d2, q1, q2]) rfl ⟨.slice a7 nz k7, by rw [HG.out], ?_, ?_⟩
    · have own7 := HO.out
      have hlt := own7.lt
      obtain ⟨t1, t2⟩ := own7
      refine ⟨t1, ?_⟩
      rcases t2 with t2 | ⟨g, cap', cur, e, hg, hh, r⟩
      · exact .inl t2
      · have hg' := (hlt g (by rw [e]; rfl)).1
        refine .inr ⟨g, cap', cur, e, by omega, ?_, r⟩
        rw [Below.heap_setCell _ _ _ _ (by simp; omega), Below.heap_setCell _ _ _ _ (by simp; omega), Below.heap_setCell _ _ _ _ (by simp; omega), Below.heap_setCell _ _ _ _ (by simp; omega)]
        exact hh
    · iterate 4 refine Below.setCell ?_ (by simp <;> omega) _
      exact B7

/-- A load of many cells, in a walk that only reads. -/
theorem quiet_load {P : Program} {C : World → Prop} {K : Act → Prop} {a : Act} {o : Oper} (ty : TypeId) (x : Operand) (ho : o.op = .load ty x) (b off : Nat) (cs : List Value) (d : TypeDesc) (hx : a.eval x = .pointer (some ⟨b, off, none⟩))
    (hS : ∀ w, C w → w.rangeAt b off cs) (hu : P.underlying ty = some d) (hd : d.isRow = true) (hi : (P.info? ty).map (·.size) = some cs.length) (hk : K (a.put o.dst (.agg cs.toArray))) : o.quiet P a C K :=
  ⟨_, fun w hw => by
    have e : (execOp a.eval o).run P w = .ok (.value (.agg cs.toArray)) w := by
      unfold execOp
      simp only [ho, hx, Instr.loadAt, Instr.sureAddr, Sem.run_bind, Sem.run_pure, Result.andThen_ok, run_loadVar_mid w b off ty cs d (hS w hw) hu hd hi]
    unfold Oper.quietAt; rw [e]; exact ⟨rfl, rfl⟩, hk⟩

/-- What PageOf answers. -/
def okP (bs : List Int) : Bool := decide (bs.length = 64) && decide (bs.getD 6 0 ≤ 56) && decide (pageOf true (un (pad bs 2 4)) (pad bs 8 (bs.getD 6 0).toNat) = bs)
def genP (bs : List Int) : Int := if okP bs then un (pad bs 2 4) else 0
def bytesP (bs : List Int) : List Int := if okP bs then pad bs 8 (bs.getD 6 0).toNat else []
theorem okP_false {bs : List Int} (h : okP bs = false) : genP bs = 0 ∧ bytesP bs = [] := by simp [genP, bytesP, h]
theorem okP_true {bs : List Int} (h : okP bs = true) : genP bs = un (pad bs 2 4) ∧ bytesP bs = pad bs 8 (bs.getD 6 0).toNat := by simp [genP, bytesP, h]
theorem range_reads {w : World} {g o cap : Nat} {bs : List Int} (h : Reads w (.slice (some ⟨g, o, none⟩) bs.length cap) bs) : w.rangeAt g o (bs.map (Value.int .u8)) := by
  intro j u hj
  obtain ⟨a, cap', e, _, _, hx⟩ := h
  simp only [Value.slice.injEq] at e
  obtain ⟨rfl, _, _⟩ := e
  rw [List.getElem?_map] at hj
  have hjl : j < bs.length := by
    rcases Nat.lt_or_ge j bs.length with h | h
    · exact h
    · rw [List.getElem?_eq_none h] at hj; simp at hj
  obtain ⟨b, off, e, hc⟩ := hx j hjl
  simp only [Option.some.injEq, Addr.mk.injEq] at e
  obtain ⟨rfl, rfl, _⟩ := e
  rw [hc]
  rw [List.getElem?_eq_getElem hjl] at hj
  simp at hj
  subst hj
  simp [List.getElem?_eq_getElem hjl]

end Go.Proofs.Ytepagknkhlpicaa
