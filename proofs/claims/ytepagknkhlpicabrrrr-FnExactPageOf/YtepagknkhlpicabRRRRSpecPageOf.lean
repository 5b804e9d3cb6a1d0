/-
  spec.PageOf.
-/
import Derived.Test.YtepagknkhlpicabRRRRPageOf
import Derived.Deep.RegionHeld3
import Derived.Deep.CutRange
namespace Go.Proofs.YtepagknkhlpicabRRRR
open Go.ChangeShapes Go.WideShapes Go.ChangeAt Go.RowKit
set_option linter.unusedVariables false
set_option linter.unusedSimpArgs false
attribute [local go_sem ↓] Go.wp_at_zero Go.wp_at_succ

/-- 'append(buf, xs...)', xs a slice of bytes that can be read, at a step of a region that draws. -/
theorem step_append_reads {ops : Array Oper} {o : Oper} {a : Act} {w : World} {K : Act → World → Prop} {Q : Exit → Act → World → Prop} {E : Prop} (hgd : o.guard = none) (s x : Operand)
    (ho : o.op = .call { callee := .builtin .append, args := #[s, x], argTypes := #[34, 34] }) (base : Nat)
    (v : Value) (n : Nat) (xs : List Value) (hs : a.eval s = v) (hown : w.ownsRow base 5 1 v n xs) (ad : Option Addr) (m cap : Nat) (bs : List Int) (hbm : bs.length = m) (hx : a.eval x = .slice ad m cap)
    (hr : Reads w (.slice ad m cap) bs) (hnil : ad ≠ none) (hn : n ≤ 1000000) (hm : m ≤ 1000000) (hbase : base ≤ w.heap.size)
    (h : ∀ v' w', w'.ownsRow base 5 1 v' (n + m) (xs ++ bs.map (Value.int .u8)) → w.grownBy w' v.ownBlock → K (a.put o.dst v') w') :
    if Region.wanted o (yielded ops a.tmps) = true then Oper.wp Try.prog o a w K Q else E := by
  subst hbm
  obtain ⟨i0, hi, hz0, hz1, hz2⟩ := info_parts info5
  have hw : Region.wanted o (yielded ops a.tmps) = true := by simp [Region.wanted, hgd]
  rw [if_pos hw]
  obtain ⟨a', cap', e, _, _, hxx⟩ := hr
  simp only [Value.slice.injEq] at e
  obtain ⟨rfl, _, rfl⟩ := e
  cases ad with
  | none => exact absurd rfl hnil
  | some ad =>
    obtain ⟨v', w', hr, h2, h3, h4⟩ := run_append_own (P := Try.prog) w base 34 o.type 5 i0 (.int .u8 0) 1 1 Try.underlying34 hi hz0 hz1 hz2 rfl (by decide) v n xs hown ad bs.length cap (bs.map (Value.int .u8)) (by simp) (fun j u hj => by
      rw [List.getElem?_map] at hj
      have hjl : j < bs.length := by
        rcases Nat.lt_or_ge j bs.length with h | h
        · exact h
        · rw [List.getElem?_eq_none h] at hj; simp at hj
      obtain ⟨b, off, e, hc⟩ := hxx j hjl
      simp only [Option.some.injEq] at e
      subst e
      have ea : (⟨b, off, none⟩ : Addr).add j = ⟨b, off + j, none⟩ := by simp [Addr.add] <;> omega
      rw [ea, hc]
      rw [List.getElem?_eq_getElem hjl] at hj
      simp at hj
      subst hj
      simp [List.getElem?_eq_getElem hjl]) (fun u hu => by obtain ⟨b, _, rfl⟩ := List.mem_map.1 hu; rfl) (by unfold maxLen; omega) (by omega) hbase
    unfold Oper.wp execOp
    simp only [ho, resolve, invoke, builtin, Sem.run_bind, Sem.run_pure, Result.andThen_ok, List.map_toArray, List.map_cons, List.map_nil, hs, hx, hr]
    exact h v' w' h2 h3

theorem slice8 (g o len cap n : Nat) (hn : 8 + n ≤ cap) (h8 : ¬ cap = 8) (w : World) : (Instr.slice 34 (.slice (some ⟨g, o, none⟩) len cap) (some (.int .i64 8)) (some (.int .i64 (8 + (n : Int)))) none).run Try.prog w = .ok (.slice (some ⟨g, o + 8, none⟩) n (cap - 8)) w := by
  rw [run_slice_lh w 34 (some ⟨g, o, none⟩) len cap elem22 .i64 .i64 8 (8 + (n : Int)) (by omega) (by omega) (by omega), elemIs]
  obtain ⟨i0, hi, hz0, hz1, hz2⟩ := info_parts info5
  have e1 : (8 + (n : Int)).toNat - 8 = n := by omega
  simp [sizeOf, typeInfo, hi, hz1, sliced, e1, Addr.add, go_sem, h8]

theorem takeL_eq' {α : Type} {xs ys : List α} {j : Nat} (h1 : j < xs.length) (h2 : j < ys.length) (h : xs.take j = ys.take j) : xs.take (j + 1) = ys.take (j + 1) ↔ xs[j] = ys[j] := by
  rw [List.take_succ_eq_append_getElem h1, List.take_succ_eq_append_getElem h2, h, List.append_right_inj]
  exact ⟨fun q => by injection q, fun q => by rw [q]⟩
theorem own_empty0 (w : World) (lo g : Nat) (hlo : lo ≤ w.heap.size) (hg : g = w.heap.size) : (w.alloc (.cells #[] 5)).ownsRow lo 5 1 (.slice (some ⟨g, 0, none⟩) 0 0) 0 [] := by
  subst hg
  exact ⟨rfl, .inr ⟨w.heap.size, 0, #[], rfl, hlo, heap_alloc_new w _, Nat.le_refl _, by unfold maxLen; omega, rfl, rfl⟩⟩
/-- The state of spec.PageOf behind its page's making. -/
def PgSt (w0 wc : World) (s3 : Value) (gen : Int) (body : List Int) : Prop :=
  ∃ P a5 k5, s3 = .pointer (some ⟨P, 0, none⟩) ∧ w0.heap.size < P ∧ wc.heap[P]? = some (.cells #[.bool true, .int .i64 gen, .slice a5 body.length k5] 39 (0, 0)) ∧ wc.ownsRow (w0.heap.size + 1) 5 1 (.slice a5 body.length k5) body.length (body.map (Value.int .u8)) ∧
    (∀ k, (Value.slice a5 body.length k5).ownBlock = some k → k ≠ P) ∧ wc.heap[w0.heap.size]? = some (.cells #[.bool false, .int .i64 0, .slice none 0 0] 39 (0, 0)) ∧ Below w0.heap.size w0 wc
theorem pgSt_new {w0 w5 : World} {gen : Int} {body : List Int} {a5 : Option Addr} {m k5 : Nat} (hm : body.length = m) (own : w5.ownsRow (w0.heap.size + 1) 5 1 (.slice a5 m k5) m (body.map (Value.int .u8))) (hres : w5.heap[w0.heap.size]? = some (.cells #[.bool false, .int .i64 0, .slice none 0 0] 39 (0, 0))) (b5 : Below w0.heap.size w0 w5) :
    PgSt w0 (w5.alloc (.cells #[.bool true, .int .i64 gen, .slice a5 m k5] 39)) (.pointer (some ⟨w5.heap.size, 0, none⟩)) gen body := by
  subst hm
  have hlt := lt_of_block hres
  exact ⟨w5.heap.size, a5, k5, rfl, hlt, heap_alloc_new w5 _, own.alloc _, fun k hk => by have := (own.lt k hk).2; omega, by rw [Below.heap_alloc _ _ _ hlt]; exact hres, b5.alloc (by omega) _⟩
theorem pgSt_old {w0 w5 : World} {gen : Int} {body : List Int} {a5 : Option Addr} {m k5 P : Nat} (hm : body.length = m) (own : w5.ownsRow (w0.heap.size + 1) 5 1 (.slice a5 m k5) m (body.map (Value.int .u8))) (hres : w5.heap[w0.heap.size]? = some (.cells #[.bool false, .int .i64 0, .slice none 0 0] 39 (0, 0))) (b5 : Below w0.heap.size w0 w5)
    (hP : w0.heap.size < P) (hp : w5.heap[P]? = some (.cells #[.bool false, .int .i64 0, .slice none 0 0] 39 (0, 0))) (hne : ∀ k, (Value.slice a5 m k5).ownBlock = some k → k ≠ P) :
    PgSt w0 (((w5.setCell ⟨P, 0, none⟩ (.bool true)).setCell ⟨P, 1, none⟩ (.int .i64 gen)).setCell ⟨P, 2, none⟩ (.slice a5 m k5)) (.pointer (some ⟨P, 0, none⟩)) gen body := by
  subst hm
  refine ⟨P, a5, k5, rfl, hP, ?_, ?_, hne, ?_, ?_⟩
  · have h1 := Joins.block_setCell (i := 0) hp (.bool true)
    have h2 := Joins.block_setCell (i := 1) h1 (.int .i64 gen)
    have h3 := Joins.block_setCell (i := 2) h2 (.slice a5 body.length k5)
    simpa using h3
  · have hlt := own.lt
    obtain ⟨t1, t2⟩ := own
    refine ⟨t1, ?_⟩
    rcases t2 with t2 | ⟨g, cap', cur, e, hg, hh, r⟩
    · exact .inl t2
    · have hg' := hne g (by rw [e]; rfl)
      refine .inr ⟨g, cap', cur, e, hg, ?_, r⟩
      rw [Below.heap_setCell _ _ _ _ hg', Below.heap_setCell _ _ _ _ hg', Below.heap_setCell _ _ _ _ hg']
      exact hh
  · rw [Below.heap_setCell _ _ _ _ (by simp; omega), Below.heap_setCell _ _ _ _ (by simp; omega), Below.heap_setCell _ _ _ _ (by simp; omega)]
    exact hres
  · exact ((b5.setCell (by simp; omega) _).setCell (by simp; omega) _).setCell (by simp; omega) _
theorem own_apart {w : World} {lo t1 t2 size n P : Nat} {v : Value} {xs : List Value} {c : Array Value} {fr : Nat × Nat} (own : w.ownsRow lo t1 size v n xs) (hp : w.heap[P]? = some (.cells c t2 fr)) (ht : t1 ≠ t2) : ∀ k, v.ownBlock = some k → k ≠ P := by
  intro k hk e
  subst e
  rcases own.2 with ⟨h, _⟩ | ⟨g, cap, cur, hv, _, hh, _⟩
  · rw [h] at hk
    simp [Value.ownBlock] at hk
  · rw [hv] at hk
    simp [Value.ownBlock] at hk
    subst hk
    rw [hh] at hp
    simp at hp
    exact ht hp.2.1
theorem pgSt_but {w w' : World} {S : Option Nat} (h : w.grownBy w' S) (k : Nat) (hk : k < w.heap.size) (hS : S ≠ some k) : w'.heap[k]? = w.heap[k]? := h.block k hk (fun e => hS e.symm)

set_option maxRecDepth 5000 in
set_option maxHeartbeats 8000000 in
theorem specPageOf_any (v : Value) (bs : List Int) (w : World) (hr : Reads w v bs) (hbs : Byt bs) (hv : ∀ k, v.ownBlock = some k → k < w.heap.size) :
    Calls Try.prog 20 #[v] w fun e w' => ∃ v' ety, e = .returned (.agg #[.bool (okP bs), .int .i64 (genP bs), v']) ∧ w'.ownsRow w.heap.size ety 1 v' (bytesP bs).length ((bytesP bs).map (Value.int .u8)) ∧ Below w.heap.size w w' := by
  obtain ⟨a, cap, rfl, hcap, hm, hx⟩ := hr
  unfold maxLen at hm
  have b1 := (Below.refl _ w).alloc (Nat.le_refl _) (.cells #[.bool false, .int .i64 0, .slice none 0 0] 39)
  have gA := heap_alloc_new w (.cells #[.bool false, .int .i64 0, .slice none 0 0] 39)
  obtain ⟨⟨r0, r1, r2⟩, fr⟩ := b3cells' gA
  by_cases h64 : bs.length = 64
  · obtain ⟨g, o, rfl, hc0⟩ := hx 0 (by omega)
    have hrow : Row w g o bs := fun i hi => by
      clear hc0
      obtain ⟨g', o', e, hc⟩ := hx i hi
      simp only [Option.some.injEq, Addr.mk.injEq] at e
      obtain ⟨rfl, rfl, _⟩ := e
      exact hc
    have hg := hv g rfl
    have q64 : ((bs.length : Int) != 64) = false := by simp [h64]
    have hg6 := hbs.getD 6
    obtain ⟨nz, hnz⟩ : ∃ nz : Nat, bs.getD 6 0 = (nz : Int) := ⟨(bs.getD 6 0).toNat, by omega⟩
    have hnz' : nz < 256 := by omega
    have HZ : Hid (bs.getD 6 0 = (nz : Int)) := hnz
    have h6l : (6 : Int) < (bs.length : Int) := by omega
    have c6 : (w.alloc (.cells #[.bool false, .int .i64 0, .slice none 0 0] 39)).cell? ⟨g, o + 6, none⟩ = some (.int .u8 (nz : Int)) := by
      rw [← hnz]
      exact (hrow.below b1 hg) 6 (by omega)
    have H64 : Hid (bs.length = 64) := h64
    clear hx hc0 hg6 hnz h64
    by_cases h56 : nz ≤ 56
    · have q56 : ¬ (56 < (nz : Int)) := by omega
      have cl := H64.out
      have h2i : (2 : Int) ≤ (cap : Int) := by omega
      have h6i : (6 : Int) ≤ (cap : Int) := by omega
      have c2 : ¬ cap = 2 := by omega
      have h8i : (8 : Int) ≤ (cap : Int) := by omega
      have hshi : (8 : Int) + nz ≤ (bs.length : Int) := by omega
      have wn : IntKind.i64.wrap (nz : Int) = nz := IntWalk.i64_in _ (by omega)
      have kT : IntKind.i64.wrap (un (pad bs 2 4)) = un (pad bs 2 4) := (IntWalk.i64_left _).trans (wrap_un bs hbs 2 4 (by omega))
      have w8 : IntKind.i64.wrap (8 + (nz : Int)) = 8 + (nz : Int) := IntWalk.i64_in _ (by omega)
      have hrd : ∀ W, Row W g o bs → Reads W (.slice (some ⟨g, o + 8, none⟩) nz (cap - 8)) (pad bs 8 nz) := fun W hW => Row.sub hW 8 nz (cap - 8) (by omega) (by omega) (by unfold maxLen; omega)
      have c8 : ¬ cap = 8 := by omega
      have h8n : (8 : Int) + nz ≤ (cap : Int) := by omega
      have h8p : (8 : Int) ≤ 8 + (nz : Int) := by omega
      have e8 : (8 + (nz : Int)).toNat - 8 = nz := by omega
      have e8' : (8 + (nz : Int)).toNat = 8 + nz := by omega
      have hS : ∀ W, Below w.heap.size w W → W.cell? ⟨g, o + 6, none⟩ = some (.int .u8 (nz : Int)) ∧ Row W g o bs := fun W hW => ⟨by rw [← HZ.out]; exact (hrow.below hW hg) 6 (by omega), hrow.below hW hg⟩
      have HS : Hid (∀ W, Below w.heap.size w W → W.cell? ⟨g, o + 6, none⟩ = some (.int .u8 (nz : Int)) ∧ Row W g o bs) := hS
      have HRD : Hid (∀ W, Row W g o bs → Reads W (.slice (some ⟨g, o + 8, none⟩) nz (cap - 8)) (pad bs 8 nz)) := hrd
      have HR : Hid (Row w g o bs) := hrow
      have b2 : ∀ ob, Below w.heap.size w ((w.alloc (.cells #[.bool false, .int .i64 0, .slice none 0 0] 39)).alloc ob) := fun ob => b1.alloc (by simp) ob
      have b3 : ∀ ob ob', Below w.heap.size w (((w.alloc (.cells #[.bool false, .int .i64 0, .slice none 0 0] 39)).alloc ob).alloc ob') := fun ob ob' => (b2 ob).alloc (by simp; omega) ob'
      clear hS hrd hrow cl
      go_enter Try.func20, Try.ntmps20
      go_wp2
      have hbl := pad_length bs nz 8
      generalize hBd : pad bs 8 nz = body at hbl
      have HB : Hid (pad bs 8 nz = body) := hBd
      generalize hGn : un (pad bs 2 4) = gen at kT
      have HG : Hid (un (pad bs 2 4) = gen) := hGn
      have HBL : Hid (body.length = nz) := hbl
      rw [hBd] at HRD
      have HT : Hid (∀ W c, 4 ≤ c → c ≤ maxLen → Row W g o bs → Calls Try.prog 37 #[.slice (some ⟨g, o + 2, none⟩) 4 c] W fun e w' => e = .returned (.int .u64 gen) ∧ w' = W) := fun W c h1 h2 hW => by
        rw [← hGn]
        exact l1pad _ bs 2 4 W (Row.sub hW 2 4 c (by have := H64.out; omega) h1 h2) hbs (by decide)
      have oA := own_empty0 (w.alloc (.cells #[.bool false, .int .i64 0, .slice none 0 0] 39)) (w.heap.size + 1) (w.heap.size + 1) (by simp) (by simp)
      have oB := fun ob => oA.alloc ob
      have oC := fun ob => own_empty0 ((w.alloc (.cells #[.bool false, .int .i64 0, .slice none 0 0] 39)).alloc ob) (w.heap.size + 1) (w.heap.size + 1 + 1) (by simp) (by simp)
      have HOA : Hid ((((w.alloc (.cells #[.bool false, .int .i64 0, .slice none 0 0] 39)).alloc (.cells #[] 5))).ownsRow (w.heap.size + 1) 5 1 (.slice (some ⟨w.heap.size + 1, 0, none⟩) 0 0) 0 []) := oA
      have HOB : Hid (∀ ob, (((w.alloc (.cells #[.bool false, .int .i64 0, .slice none 0 0] 39)).alloc (.cells #[] 5)).alloc ob).ownsRow (w.heap.size + 1) 5 1 (.slice (some ⟨w.heap.size + 1, 0, none⟩) 0 0) 0 []) := oB
      have HOC : Hid (∀ ob, (((w.alloc (.cells #[.bool false, .int .i64 0, .slice none 0 0] 39)).alloc ob).alloc (.cells #[] 5)).ownsRow (w.heap.size + 1) 5 1 (.slice (some ⟨w.heap.size + 1 + 1, 0, none⟩) 0 0) 0 []) := oC
      have HRA : Hid (∀ ob, ((w.alloc (.cells #[.bool false, .int .i64 0, .slice none 0 0] 39)).alloc ob).heap[w.heap.size]? = some (.cells #[.bool false, .int .i64 0, .slice none 0 0] 39 (0, 0))) := fun ob => alloc2_fst w _ _
      have HRB : Hid (∀ ob ob', (((w.alloc (.cells #[.bool false, .int .i64 0, .slice none 0 0] 39)).alloc ob).alloc ob').heap[w.heap.size]? = some (.cells #[.bool false, .int .i64 0, .slice none 0 0] 39 (0, 0))) := fun ob ob' => by
        rw [Below.heap_alloc _ _ _ (by simp; omega)]
        exact alloc2_fst w _ _
      have HPB : Hid (∀ ob ob', (((w.alloc (.cells #[.bool false, .int .i64 0, .slice none 0 0] 39)).alloc ob).alloc ob').heap[w.heap.size + 1 + 1]? = some ob') := fun ob ob' => by
        have h := heap_alloc_new ((w.alloc (.cells #[.bool false, .int .i64 0, .slice none 0 0] 39)).alloc ob) ob'
        simpa using h
      have HPC : Hid (∀ ob ob', (((w.alloc (.cells #[.bool false, .int .i64 0, .slice none 0 0] 39)).alloc ob).alloc ob').heap[w.heap.size + 1]? = some ob) := fun ob ob' => by
        rw [Below.heap_alloc _ _ _ (by simp)]
        have h := heap_alloc_new (w.alloc (.cells #[.bool false, .int .i64 0, .slice none 0 0] 39)) ob
        simpa using h
      clear oA oB oC hBd hGn hbl
      go_cut [3] from 17 to 30 (fun s3 wc => PgSt w wc s3 gen body)
      case first =>
        go_region_held3 (fun w' => w'.cell? ⟨g, o + 6, none⟩ = some (.int .u8 (nz : Int)) ∧ Row w' g o bs) (first | exact HS.out _ b1.drew | exact HS.out _ (b2 _).drew | exact HS.out _ (b3 _ _).drew | exact HS.out _ b5 | exact HS.out _ (b6 _) | exact HS.out _ (b7 _ _ _))
          (first
            | (refine step_append_reads rfl _ _ rfl (w.heap.size + 1) (.slice (some ⟨w.heap.size + 1, 0, none⟩) 0 0) 0 [] rfl HOA.out (some ⟨g, o + 8, none⟩) nz (cap - 8) body HBL.out rfl (HRD.out _ (HS.out _ (b2 _).drew).2) (by simp) (by omega) (by omega) (by simp) ?_; intro v5 w5 own5 grow5; obtain ⟨a5, k5, rfl⟩ := own_len own5; have b5 : Below w.heap.size w w5 := Below.grown (b2 _).drew grow5 (by simp; omega) (fun k hk => by simp [Value.ownBlock] at hk; omega); have b6 : ∀ ob, Below w.heap.size w (w5.alloc ob) := fun ob => b5.alloc (Nat.le_trans b5.size (Nat.le_refl _)) ob)
            | (refine step_append_reads rfl _ _ rfl (w.heap.size + 1) (.slice (some ⟨w.heap.size + 1, 0, none⟩) 0 0) 0 [] rfl (HOB.out _) (some ⟨g, o + 8, none⟩) nz (cap - 8) body HBL.out rfl (HRD.out _ (HS.out _ (b3 _ _).drew).2) (by simp) (by omega) (by omega) (by simp) ?_; intro v5 w5 own5 grow5; obtain ⟨a5, k5, rfl⟩ := own_len own5; have b5 : Below w.heap.size w w5 := Below.grown (b3 _ _).drew grow5 (by simp; omega) (fun k hk => by simp [Value.ownBlock] at hk; omega); have p5 : w5.heap[w.heap.size + 1 + 1]? = some (.cells #[.bool false, .int .i64 0, .slice none 0 0] 39 (0, 0)) := (by rw [grow5.block _ (by simp <;> omega) (by simp [Value.ownBlock] <;> omega)]; exact HPB.out _ _); obtain ⟨⟨x0, x1, x2⟩, fx⟩ := b3cells' p5; have b7 : ∀ y0 y1 y2, Below w.heap.size w (((w5.setCell ⟨w.heap.size + 1 + 1, 0, none⟩ y0).setCell ⟨w.heap.size + 1 + 1, 1, none⟩ y1).setCell ⟨w.heap.size + 1 + 1, 2, none⟩ y2) := fun y0 y1 y2 => ((b5.setCell (by simp <;> omega) _).setCell (by simp <;> omega) _).setCell (by simp <;> omega) _)
            | (refine step_append_reads rfl _ _ rfl (w.heap.size + 1) (.slice (some ⟨w.heap.size + 1 + 1, 0, none⟩) 0 0) 0 [] rfl (HOC.out _) (some ⟨g, o + 8, none⟩) nz (cap - 8) body HBL.out rfl (HRD.out _ (HS.out _ (b3 _ _).drew).2) (by simp) (by omega) (by omega) (by simp) ?_; intro v5 w5 own5 grow5; obtain ⟨a5, k5, rfl⟩ := own_len own5; have b5 : Below w.heap.size w w5 := Below.grown (b3 _ _).drew grow5 (by simp; omega) (fun k hk => by simp [Value.ownBlock] at hk; omega); have p5 : w5.heap[w.heap.size + 1]? = some (.cells #[.bool false, .int .i64 0, .slice none 0 0] 39 (0, 0)) := (by rw [grow5.block _ (by simp <;> omega) (by simp [Value.ownBlock] <;> omega)]; exact HPC.out _ _); obtain ⟨⟨x0, x1, x2⟩, fx⟩ := b3cells' p5; have b7 : ∀ y0 y1 y2, Below w.heap.size w (((w5.setCell ⟨w.heap.size + 1, 0, none⟩ y0).setCell ⟨w.heap.size + 1, 1, none⟩ y1).setCell ⟨w.heap.size + 1, 2, none⟩ y2) := fun y0 y1 y2 => ((b5.setCell (by simp <;> omega) _).setCell (by simp <;> omega) _).setCell (by simp <;> omega) _)
            | (go_at_call 37; refine (HT.out _ _ (by omega) (by unfold maxLen; omega) (HS.out _ (by first | exact b1.drew | exact (b2 _).drew | exact (b3 _ _).drew | exact b5 | exact b6 _ | exact b7 _ _ _)).2).mono ?_; rintro e w' ⟨rfl, rfl⟩))
        all_goals
          have own5' : w5.ownsRow (w.heap.size + 1) 5 1 (.slice a5 nz k5) nz (body.map (Value.int .u8)) := by simpa using own5
          have res5 : w5.heap[w.heap.size]? = some (.cells #[.bool false, .int .i64 0, .slice none 0 0] 39 (0, 0)) := by
            rw [grow5.block _ (by simp <;> omega) (by simp [Value.ownBlock] <;> omega)]
            first | exact HRA.out _ | exact HRB.out _ _
          go_wp2_with fail
          go_meet
          case rel =>
            first
              | exact pgSt_new HBL.out own5' res5 b5
              | exact pgSt_old HBL.out own5' res5 b5 (by omega) p5 (own_apart own5' p5 (by decide))
      case rest =>
        obtain ⟨P, a5, k5, rfl, hPlt, hpg, hown, hne, hres, hbc⟩ := hcut
        clear HPB HPC HRA HRB HOA HOB HOC HT HS b2 b3 HRD
        have hsz := hbc.size
        have hPs := lt_of_block hpg
        obtain ⟨⟨y0, y1, y2⟩, fy⟩ := b3cells' hpg
        have hby : Byt body := by rw [← HB.out]; exact pad_byt hbs _ _
        have hbl : body.length ≤ 56 := by rw [HBL.out]; exact h56
        have hml : body.length ≤ maxLen := by unfold maxLen; omega
        have hOK : okP bs = decide (pageOf true gen body = bs) := by
          unfold okP
          rw [HZ.out, Int.toNat_natCast, HG.out, HB.out, decide_eq_true H64.out, decide_eq_true (show (nz : Int) ≤ 56 by omega)]
          simp
        have HOK : Hid (okP bs = decide (pageOf true gen body = bs)) := hOK
        have HGB : Hid (okP bs = true → genP bs = gen ∧ bytesP bs = body) := fun h => by
          obtain ⟨h1, h2⟩ := okP_true h
          rw [h1, h2, HZ.out, Int.toNat_natCast, HG.out, HB.out]
          exact ⟨rfl, rfl⟩
        have hRw : Row wc g o bs := HR.out.below hbc hg
        have HRw : Hid (Row wc g o bs) := hRw
        have HOW : Hid (wc.ownsRow (w.heap.size + 1) 5 1 (.slice a5 body.length k5) body.length (body.map (Value.int .u8))) := hown
        have q1 : P ≠ w.heap.size := by omega
        have q2 : w.heap.size ≠ P := by omega
        clear hOK hRw hshi h8n h8p e8 e8' wn w8 c8 h2i h6i c2 h8i c6 q56 kT h6l r0 r1 r2 fr gA
        go_wp2_with fail
        refine (specPageBlock_any true gen a5 k5 body _ hml (own_rdb' HOW.out) (own_nil HOW.out) hby).mono ?_; rintro e w7 ⟨v7, rfl, own7, b7⟩
        have z7 := b7.size
        have hres7 : w7.heap[w.heap.size]? = some (.cells #[.bool false, .int .i64 0, .slice none 0 0] 39 (0, 0)) := by rw [b7.block _ (by omega)]; exact hres
        have hpg7 : w7.heap[P]? = some (.cells #[.bool true, .int .i64 gen, .slice a5 body.length k5] 39 (0, 0)) := by rw [b7.block _ hPs]; exact hpg
        have B7 : Below w.heap.size w w7 := hbc.trans (b7.mono (by omega))
        obtain ⟨⟨r0, r1, r2⟩, fr⟩ := b3cells' hres7
        clear y0 y1 y2 fy
        obtain ⟨⟨y0, y1, y2⟩, fy⟩ := b3cells' hpg7
        cases hok : pageOkB true gen body.length with
        | false =>
          have hP0 : pageOf true gen body = [] := by simp [pageOf, hok]
          have HF : Hid (okP bs = false) := by
            show okP bs = false
            rw [HOK.out, hP0]
            have := H64.out
            simp only [decide_eq_false_iff_not]
            intro e
            rw [← e] at this
            simp at this
          rw [hP0] at own7
          obtain ⟨a7, k7, rfl⟩ := own_len own7
          obtain ⟨hgf, hbf⟩ := okP_false HF.out
          have HF3 : Hid (okP bs = false ∧ genP bs = 0 ∧ bytesP bs = []) := ⟨HF.out, hgf, hbf⟩
          have qn : ((([] : List Int).length : Int) != (bs.length : Int)) = true := by simp [H64.out]
          have qn' : ((0 : Int) != (bs.length : Int)) = true := by simp [H64.out]
          clear hgf hbf own7 hP0
          go_wp2
          refine bodyPost_ret (v := .agg #[.bool false, .int .i64 0, .slice none 0 0]) (by simp [results, Try.results20, go_sem, r0, r1, r2]) rfl ⟨.slice none 0 0, 0, by rw [HF3.out.1, HF3.out.2.1], by rw [HF3.out.2.2]; exact World.ownsRow_nil _ _ _ _, ?_⟩
          iterate 3 refine Below.setCell ?_ (by simp) _
          exact B7
        | true =>
          have hP1 : pageOf true gen body = pageL gen body := by simp [pageOf, hok]
          have HOK' : Hid (okP bs = decide (pageL gen body = bs)) := by
            show okP bs = _
            rw [HOK.out, hP1]
          rw [hP1] at own7
          have hLl := pageL_length gen body hbl
          generalize pageL gen body = L at own7 hLl HOK'
          clear HOK hP1
          have HLl : Hid (L.length = bs.length) := by rw [hLl, H64.out]; exact rfl
          have HL64 : Hid (L.length = 64) := hLl
          have hLs : L.length ≤ 1000 := by omega
          have qn : ((L.length : Int) != (bs.length : Int)) = false := by simp [HLl.out]
          clear hLl
          have hrd7 : Row w7 g o bs := HRw.out.below b7 (by omega)
          obtain ⟨t1, t2⟩ := own7
          rcases t2 with ⟨e, h0⟩ | ⟨g7, k7, cur, rfl, hg7, hh7, hn7, hm7, hs7, ht7⟩
          · have := HL64.out
            omega
          unfold maxLen at hm7
          have hx7 : ∀ j (h : j < L.length), w7.cell? ⟨g7, j, none⟩ = some (.int .u8 L[j]) := fun j h => by
            rw [Joins.cell_of_block hh7]
            have : (cur.toList.take (L.length * 1))[j]? = (L.map (Value.int .u8))[j]? := by rw [ht7]
            rw [List.getElem?_take_of_lt (by omega)] at this
            simpa [h] using this
          have HX7 : Hid (∀ j (h : j < L.length), w7.cell? ⟨g7, j, none⟩ = some (.int .u8 L[j])) := hx7
          have HRD7 : Hid (Row w7 g o bs) := hrd7
          clear hx7 hrd7 t1 hh7 ht7 hs7
          go_wp2
          go_loopw [5, 41] (fun _ i wr => ∃ (j n : Nat), j ≤ L.length ∧ i = .int .i64 j ∧ L.take j = bs.take j ∧ wr = w7.drewN n) (fun _ i _ => L.length - (intOf i).toNat)
          case atStart => exact ⟨0, 0, Nat.zero_le _, rfl, rfl, rfl⟩
          case round =>
            obtain ⟨j, m, hj, rfl, he, hwr⟩ := hrel
            have HW : Hid (wr = w7.drewN m) := hwr
            have r0 : wr.cell? ⟨w.heap.size, 0, none⟩ = some (.bool false) := by rw [hwr]; exact r0
            have r1 : wr.cell? ⟨w.heap.size, 1, none⟩ = some (.int .i64 0) := by rw [hwr]; exact r1
            have r2 : wr.cell? ⟨w.heap.size, 2, none⟩ = some (.slice none 0 0) := by rw [hwr]; exact r2
            have fr : ∀ j, wr.frozen? ⟨w.heap.size, j, none⟩ = false := by rw [hwr]; exact fr
            have y0 : wr.cell? ⟨P, 0, none⟩ = some (.bool true) := by rw [hwr]; exact y0
            have y1 : wr.cell? ⟨P, 1, none⟩ = some (.int .i64 gen) := by rw [hwr]; exact y1
            have y2 : wr.cell? ⟨P, 2, none⟩ = some (.slice a5 body.length k5) := by rw [hwr]; exact y2
            clear hwr
            have HE : Hid (L.take j = bs.take j) := he
            clear he
            by_cases hlt : j < L.length
            · have hlt2 : j < bs.length := by rw [← HLl.out]; exact hlt
              have hx1 : wr.cell? ⟨g7, j, none⟩ = some (.int .u8 L[j]) := by rw [HW.out]; exact HX7.out j hlt
              have hx2 : wr.cell? ⟨g, o + j, none⟩ = some (.int .u8 bs[j]) := by
                rw [HW.out]
                have := HRD7.out j hlt2
                rw [show bs.getD j 0 = bs[j] by simp [List.getD_eq_getElem?_getD, List.getElem?_eq_getElem hlt2]] at this
                exact this
              have hts := takeL_eq' hlt hlt2 HE.out
              have HT : Hid (L.take (j + 1) = bs.take (j + 1) ↔ L[j] = bs[j]) := hts
              have i1 : (j : Int) < (L.length : Int) := by omega
              have i2 : (j : Int) < (bs.length : Int) := by omega
              have i0 : (0 : Int) ≤ (j : Int) := by omega
              generalize L[j] = A at hx1 HT
              generalize bs[j] = B at hx2 HT
              clear hts hlt2
              by_cases hq : A = B
              · have hq' : (A != B) = false := by simp [hq]
                have HQ : Hid (A = B) := hq
                clear hq
                go_wp2
                go_quiet (fail)
                go_wp2
                go_roundw
                case rel => exact ⟨j + 1, m + nq, by omega, by go_num, HT.out.2 HQ.out, by rw [HW.out]; simp⟩
                case measure => simp [intOf]; omega
              · have hq' : (A != B) = true := by simp [hq]
                have HF : Hid (okP bs = false) := by
                  show okP bs = false
                  rw [HOK'.out]
                  simp only [decide_eq_false_iff_not]
                  intro e
                  exact hq (HT.out.1 (by rw [e]))
                obtain ⟨hgf, hbf⟩ := okP_false HF.out
                have HF3 : Hid (okP bs = false ∧ genP bs = 0 ∧ bytesP bs = []) := ⟨HF.out, hgf, hbf⟩
                clear hq hgf hbf HF
                go_wp2
                go_quiet (fail)
                go_wp2
                refine bodyPost_ret (v := .agg #[.bool false, .int .i64 0, .slice none 0 0]) (by simp [results, Try.results20, go_sem, r0, r1, r2]) rfl ⟨.slice none 0 0, 0, by rw [HF3.out.1, HF3.out.2.1], by rw [HF3.out.2.2]; exact World.ownsRow_nil _ _ _ _, ?_⟩
                iterate 3 refine Below.setCell ?_ (by simp) _
                rw [HW.out]
                exact below_drewN (below_drewN B7 _) _
            · have HF : Hid (okP bs = true) := by
                show okP bs = true
                have he := HE.out
                have hl := HLl.out
                rw [List.take_of_length_le (by omega), List.take_of_length_le (by omega)] at he
                rw [HOK'.out, he]
                simp
              obtain ⟨hgf, hbf⟩ := HGB.out HF.out
              have HF3 : Hid (okP bs = true ∧ genP bs = gen ∧ bytesP bs = body) := ⟨HF.out, hgf, hbf⟩
              clear hgf hbf HF
              go_wp2
              refine bodyPost_ret (v := .agg #[.bool true, .int .i64 gen, .slice a5 body.length k5]) (by simp [results, Try.results20, go_sem, r0, r1, r2, y0, y1, y2, q1, q2]) rfl ⟨.slice a5 body.length k5, 5, by rw [HF3.out.1, HF3.out.2.1], ?_, ?_⟩
              · rw [HF3.out.2.2]
                have ownb := HOW.out
                have hltb := ownb.lt
                obtain ⟨t1, t2⟩ := ownb
                refine ⟨t1, ?_⟩
                rcases t2 with t2 | ⟨g', cap', cur', e, hg', hh', r⟩
                · exact .inl t2
                · have hb' := hltb g' (by rw [e]; rfl)
                  refine .inr ⟨g', cap', cur', e, by omega, ?_, r⟩
                  rw [Below.heap_setCell _ _ _ _ (by simp; omega), Below.heap_setCell _ _ _ _ (by simp; omega), Below.heap_setCell _ _ _ _ (by simp; omega)]
                  rw [HW.out]
                  show w7.heap[g']? = _
                  rw [b7.block _ hb'.2]
                  exact hh'
              · iterate 3 refine Below.setCell ?_ (by simp) _
                rw [HW.out]
                exact below_drewN B7 _
    · have q56 : 56 < (nz : Int) := by omega
      have HO : Hid (okP bs = false) := by
        show okP bs = false
        unfold okP
        rw [HZ.out, decide_eq_false (show ¬ (nz : Int) ≤ 56 by omega)]
        simp
      obtain ⟨hgf, hbf⟩ := okP_false HO.out
      have HF : Hid (okP bs = false ∧ genP bs = 0 ∧ bytesP bs = []) := ⟨HO.out, hgf, hbf⟩
      clear hgf hbf HO hrow
      go_enter Try.func20, Try.ntmps20
      go_wp2
      refine bodyPost_ret (v := .agg #[.bool false, .int .i64 0, .slice none 0 0]) (by simp [results, Try.results20, go_sem, r0, r1, r2]) rfl ⟨.slice none 0 0, 0, by rw [HF.out.1, HF.out.2.1], by rw [HF.out.2.2]; exact World.ownsRow_nil _ _ _ _, b1⟩
  · have q64 : ((bs.length : Int) != 64) = true := by simp; omega
    have HO : Hid (okP bs = false) := by
      show okP bs = false
      simp [okP, h64]
    obtain ⟨hgf, hbf⟩ := okP_false HO.out
    have HF : Hid (okP bs = false ∧ genP bs = 0 ∧ bytesP bs = []) := ⟨HO.out, hgf, hbf⟩
    clear h64 hgf hbf HO hx
    go_enter Try.func20, Try.ntmps20
    go_wp2
    refine bodyPost_ret (v := .agg #[.bool false, .int .i64 0, .slice none 0 0]) (by simp [results, Try.results20, go_sem, r0, r1, r2]) rfl ⟨.slice none 0 0, 0, by rw [HF.out.1, HF.out.2.1], by rw [HF.out.2.2]; exact World.ownsRow_nil _ _ _ _, b1⟩
end Go.Proofs.YtepagknkhlpicabRRRR
