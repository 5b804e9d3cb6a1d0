/-
  A page as a block: spec.l2check, spec.PageBlock.
-/
import Derived.Test.YtepagknkhlpicaaPage
import Derived.Laws.AppendOwnNone
namespace Go.Proofs.Ytepagknkhlpicaa
open Go.ChangeShapes Go.WideShapes Go.ChangeAt Go.RowKit
set_option linter.unusedVariables false
set_option linter.unusedSimpArgs false

set_option maxHeartbeats 1000000 in
theorem l2check_any (v : Value) (bs : List Int) (w : World) (hr : Reads w v bs) (hl : bs.length ≤ 100) (h1 : bs.getD 1 0 = 0) :
    Calls Try.prog 55 #[v] w fun e w' => e = .returned (.int .u8 (bs.sum % 256)) ∧ w' = w := by
  obtain ⟨a, cap, rfl, hc1, hm, hx⟩ := hr
  unfold maxLen at hm
  have H1 : Hid (bs.getD 1 0 = 0) := h1
  clear h1
  go_enter Try.func55, Try.ntmps55
  go_wp2
  go_loop [3, 4, 5, 8] (fun q _ _ i => ∃ (j : Nat), j ≤ bs.length ∧ i = .int .i64 j ∧ q = .int .u8 ((bs.take j).sum % 256)) (fun _ _ _ i => bs.length - (intOf i).toNat)
  case atStart => exact ⟨0, Nat.zero_le _, rfl, by simp⟩
  case round =>
    obtain ⟨j, hj, rfl, rfl⟩ := hrel
    by_cases hlt : j < bs.length
    · obtain ⟨g, o, rfl, hc⟩ := hx j hlt
      have HS : Hid ((bs.take (j + 1)).sum = (bs.take j).sum + bs[j]) := sum_take bs j hlt
      have e0 : bs.getD j 0 = bs[j] := by simp [List.getD_eq_getElem?_getD, List.getElem?_eq_getElem hlt]
      have HG : Hid (bs.getD j 0 = bs[j]) := e0
      rw [e0] at hc
      clear hx e0
      generalize hX : bs[j] = x at hc HS HG
      generalize hS : (bs.take j).sum = S at HS
      have e1 : (S % 256 + x) % 256 = (S + x) % 256 := by omega
      clear hX hS
      by_cases hj1 : j = 1
      · subst hj1
        have hx0 : x = 0 := by rw [← HG.out]; exact H1.out
        go_wp2
        go_round
        case rel => exact ⟨2, by omega, by go_num, by rw [HS.out, hx0]; simp⟩
        case measure => simp [intOf]; omega
      · have q1 : ((j : Int) != 1) = true := by simp; omega
        have HJ : Hid (¬ j = 1) := hj1
        clear hj1
        go_wp2
        go_round
        case rel => exact ⟨j + 1, by omega, by go_num, by rw [HS.out]; go_num⟩
        case measure => simp [intOf]; omega
    · have : j = bs.length := by omega
      subst this
      go_wp2
      go_ret
      exact ⟨rfl, rfl⟩

/-- 'append(buf, xs...)', xs a slice of bytes that can be read. -/
theorem wpList_append_reads {ops : Array Oper} {rest : List Oper} {o : Oper} {a : Act} {w : World} {Q : Exit → Act → World → Prop} (hgd : o.guard = none) (s x : Operand)
    (ho : o.op = .call { callee := .builtin .append, args := #[s, x], argTypes := #[22, 22] }) (base : Nat)
    (v : Value) (n : Nat) (xs : List Value) (hs : a.eval s = v) (hown : w.ownsRow base 5 1 v n xs) (ad : Option Addr) (cap : Nat) (bs : List Int) (hx : a.eval x = .slice ad bs.length cap)
    (hr : Reads w (.slice ad bs.length cap) bs) (hnil : ad = none → cap = 0) (hn : n ≤ 1000000) (hm : bs.length ≤ 1000000) (hbase : base ≤ w.heap.size)
    (h : ∀ v' w', w'.ownsRow base 5 1 v' (n + bs.length) (xs ++ bs.map (Value.int .u8)) → w.grownBy w' v.ownBlock → wpList Try.prog ops Q rest (a.put o.dst v') w') : wpList Try.prog ops Q (o :: rest) a w := by
  obtain ⟨i0, hi, hz0, hz1, hz2⟩ := info_parts info5
  have hr0 := hr
  obtain ⟨a', cap', e, _, _, hxx⟩ := hr
  simp only [Value.slice.injEq] at e
  obtain ⟨rfl, _, rfl⟩ := e
  cases ad with
  | none =>
    have hb : bs = [] := by
      cases bs with
      | nil => rfl
      | cons b l => obtain ⟨b, off, e, _⟩ := hxx 0 (by simp); simp at e
    subst hb
    obtain rfl := hnil rfl
    exact wpList_append_own_none hgd s x _ ho base 5 i0 1 Try.underlying22 hi v n xs hs hown hx (h v w (by simpa using hown) (World.grownBy.refl _ _))
  | some ad =>
    refine wpList_append_own _ hgd s x 22 ho base 5 i0 (.int .u8 0) 1 1 Try.underlying22 hi hz0 hz1 hz2 rfl (by decide) v n xs hs hown ad bs.length cap (bs.map (Value.int .u8)) hx (by simp) (fun j u hj => ?_) (fun u hu => ?_) (by unfold maxLen; omega) (by omega) hbase (fun v' w' h1 h2 _ => h v' w' h1 h2)
    · rw [List.getElem?_map] at hj
      have hjl : j < bs.length := by
        rcases Nat.lt_or_ge j bs.length with h | h
        · exact h
        · rw [List.getElem?_eq_none h] at hj; simp at hj
      obtain ⟨b, off, e, hc⟩ := hxx j hjl
      simp only [Option.some.injEq] at e
      subst e
      have ea : (⟨b, off, none⟩ : Addr).add j = ⟨b, off + j, none⟩ := by simp [Addr.add] <;> omega
      rw [ea, hc]
      rw [List.getElem?_eq_getElem hjl] at hj
      simp at hj
      subst hj
      simp [List.getElem?_eq_getElem hjl]
    · obtain ⟨b, _, rfl⟩ := List.mem_map.1 hu
      rfl

theorem own_len {w : World} {lo e size : Nat} {v : Value} {n : Nat} {xs : List Value} (h : w.ownsRow lo e size v n xs) : ∃ a cap, v = .slice a n cap := by
  rcases h.2 with ⟨h, h0⟩ | ⟨g, cap, cur, h, _⟩
  · exact ⟨none, 0, by rw [h, h0]⟩
  · exact ⟨_, _, h⟩
/-- A slice's length. -/
def slen : Value → Nat
  | .slice _ n _ => n
  | _ => 0

set_option maxHeartbeats 1000000 in
theorem specPageBlock_no (ok : Bool) (gen : Int) (a : Option Addr) (n cap : Nat) (w : World) (hn : n ≤ maxLen) (hok : pageOkB ok gen n = false) :
    Calls Try.prog 17 #[.agg #[.bool ok, .int .i64 gen, .slice a n cap]] w fun e w' => e = .returned (.slice none 0 0) ∧ Below w.heap.size w w' := by
  have bA := (Below.refl _ w).alloc (Nat.le_refl _) (.cells #[.bool ok, .int .i64 gen, .slice a n cap] 33)
  unfold maxLen at hn
  cases ok with
  | false =>
    go_enter Try.func17, Try.ntmps17
    go_wp2
    go_ret
    exact ⟨rfl, bA⟩
  | true =>
    cases hin : inB gen 1 1000000000 with
    | false =>
      go_enter Try.func17, Try.ntmps17
      go_wp2_with (go_at_call 54; refine (l1in_any _ _ _ _).mono ?_; rintro e w' ⟨rfl, rfl⟩; rw [hin])
      go_ret
      exact ⟨rfl, bA⟩
    | true =>
      have hn' : 56 < (n : Int) := by
        have h := hin
        rw [inB_true] at h
        simp [pageOkB, h.1, h.2] at hok
        omega
      go_enter Try.func17, Try.ntmps17
      go_wp2_with (go_at_call 54; refine (l1in_any _ _ _ _).mono ?_; rintro e w' ⟨rfl, rfl⟩; rw [hin])
      go_ret
      exact ⟨rfl, bA⟩

set_option maxRecDepth 5000 in
set_option maxHeartbeats 4000000 in
theorem specPageBlock_ok (gen : Int) (a : Option Addr) (cap : Nat) (bs : List Int) (w : World) (hok : pageOkB true gen bs.length = true) (hr : RdB' w (.slice a bs.length cap) bs) (hnil : a = none → cap = 0) (hbs : Byt bs) :
    Calls Try.prog 17 #[.agg #[.bool true, .int .i64 gen, .slice a bs.length cap]] w fun e w' => ∃ v, e = .returned v ∧ w'.ownsRow w.heap.size 5 1 v 64 ((pageL gen bs).map (Value.int .u8)) ∧ Below w.heap.size w w' := by
  obtain ⟨_, g1, g2, hl⟩ := pageOk_parts hok
  obtain ⟨i0, hi, hz0, hz1, hz2⟩ := info_parts info5
  have hin : inB gen 1 1000000000 = true := by rw [inB_true]; omega
  have bA := (Below.refl _ w).alloc (Nat.le_refl _) (.cells #[.bool true, .int .i64 gen, .slice a bs.length cap] 33)
  obtain ⟨hrd, hold⟩ := hr
  have HR : Hid (Reads w (.slice a bs.length cap) bs) := hrd
  have HN : Hid (a = none → cap = 0) := hnil
  have h56 : ¬ (56 < (bs.length : Int)) := by omega
  clear hrd hnil
  go_enter Try.func17, Try.ntmps17
  go_wp2_with fail
  refine (l1in_any _ _ _ _).mono ?_; rintro e w' ⟨rfl, rfl⟩; rw [hin]
  go_wp2_with fail
  have own0 : ((w.alloc (.cells #[.bool true, .int .i64 gen, .slice a bs.length cap] 33)).alloc (.cells #[.int .u8 76, .int .u8 0] 5)).ownsRow (w.heap.size + 1) 5 1 (.slice (some ⟨w.heap.size + 1, 0, none⟩) 2 2) 2 (([76, 0] : List Int).map (Value.int .u8)) := by
    simpa using World.ownsRow_lit (base := w.heap.size + 1) (e := 5) (size := 1) (w.alloc (.cells #[.bool true, .int .i64 gen, .slice a bs.length cap] 33)) #[.int .u8 76, .int .u8 0] 2 (by simp) (by unfold maxLen; omega) rfl
  have bB : Below w.heap.size w ((w.alloc (.cells #[.bool true, .int .i64 gen, .slice a bs.length cap] 33)).alloc (.cells #[.int .u8 76, .int .u8 0] 5)) := bA.alloc (by simp) _
  have n1 : PageAt ((w.alloc (.cells #[.bool true, .int .i64 gen, .slice a bs.length cap] 33)).alloc (.cells #[.int .u8 76, .int .u8 0] 5)) w.heap.size gen (.slice a bs.length cap) := by
    constructor <;> simp [go_sem]
  refine (l1put_own (w.heap.size + 1) _ [76, 0] gen 4 _ (by omega) (by omega) (by simp) (by simp) own0).mono ?_
  rintro e w2 ⟨v2, rfl, own2, b2⟩
  have n2 : PageAt w2 w.heap.size gen (.slice a bs.length cap) := ⟨by rw [b2.cell (p := ⟨w.heap.size, 1, none⟩) (by simp)]; exact n1.1, by rw [b2.cell (p := ⟨w.heap.size, 2, none⟩) (by simp)]; exact n1.2⟩
  have z2 := b2.size
  simp only [World.size_alloc] at z2
  have B2 : Below w.heap.size w w2 := bB.trans (b2.mono (by omega))
  obtain ⟨_, c21⟩ := id n2
  clear own0 n1
  go_wp2_with (at_builtin; refine wpList_append_own _ rfl _ _ 22 rfl (w.heap.size + 1) 5 i0 (.int .u8 0) 1 1 Try.underlying22 hi hz0 hz1 hz2 rfl (by decide) _ _ _ rfl (own2.alloc _) ⟨w2.heap.size, 0, none⟩ 2 2 [.int .u8 (bs.length : Int), .int .u8 0] rfl rfl ?c1 ?c2 ?c3 ?c4 ?c5 ?_)
  case c1 =>
    intro j u hj
    match j, hj with
    | 0, hj => simp at hj; subst hj; simp [Addr.add]
    | 1, hj => simp at hj; subst hj; simp [Addr.add]
  case c2 => intro u hu; simp at hu; rcases hu with rfl | rfl <;> rfl
  case c3 => simp [maxLen]
  case c4 => simp
  case c5 => simp; omega
  intro v3 w3 own3 grow3 _
  have b3 : Below (w.heap.size + 1) w2 w3 := ((Below.refl _ w2).alloc (by omega) _).grown grow3 (by simp; omega) (fun k hk => (own2.lt k hk).1)
  have z3 := b3.size
  have n3 : PageAt w3 w.heap.size gen (.slice a bs.length cap) := ⟨by rw [b3.cell (p := ⟨w.heap.size, 1, none⟩) (by simp)]; exact n2.1, by rw [b3.cell (p := ⟨w.heap.size, 2, none⟩) (by simp)]; exact n2.2⟩
  have B3 : Below w.heap.size w w3 := B2.trans (b3.mono (by omega))
  have hr3 : Reads w3 (.slice a bs.length cap) bs := HR.out.below' B3 hold
  have own3' : w3.ownsRow (w.heap.size + 1) 5 1 v3 8 (([76, 0] ++ le gen 4 ++ [(bs.length : Int), 0]).map (Value.int .u8)) := by simpa [le_length] using own3
  obtain ⟨_, c31⟩ := id n3
  clear own2 own3 c21 n2 grow3
  have HR3 : Hid (Reads w3 (.slice a bs.length cap) bs) := hr3
  clear hr3
  go_wp2_with (at_builtin; refine wpList_append_reads rfl _ _ rfl (w.heap.size + 1) _ _ _ rfl own3' a cap bs rfl HR3.out HN.out (by omega) (by omega) (by omega) ?_)
  intro v4 w4 own4 grow4
  have b4 : Below (w.heap.size + 1) w3 w4 := (Below.refl _ w3).grown grow4 (by omega) (fun k hk => (own3'.lt k hk).1)
  have z4 := b4.size
  have B4 : Below w.heap.size w w4 := B3.trans (b4.mono (by omega))
  clear own3' grow4 c31 n3
  go_wp2
  go_loopw [3] (fun o wr => ∃ (k : Nat), k ≤ 56 - bs.length ∧ wr.ownsRow (w.heap.size + 1) 5 1 o (8 + bs.length + k) (([76, 0] ++ le gen 4 ++ [(bs.length : Int), 0] ++ bs ++ List.replicate k 0).map (Value.int .u8)) ∧ Below (w.heap.size + 1) w4 wr) (fun o _ => 64 - slen o)
  case atStart => exact ⟨0, by omega, by simpa using own4, Below.refl _ _⟩
  case round =>
    obtain ⟨k, hk, how, hb⟩ := hrel
    have hbz := hb.size
    obtain ⟨av, cv, rfl⟩ := own_len how
    by_cases hlt : k < 56 - bs.length
    · have hlt' : ((8 + bs.length + k : Nat) : Int) < 64 := by omega
      generalize hm : 8 + bs.length + k = m at how hlt'
      have HM : Hid (8 + bs.length + k = m) := hm
      clear hm
      go_wp2_with (at_builtin; refine wpList_append_own _ rfl _ _ 22 rfl (w.heap.size + 1) 5 i0 (.int .u8 0) 1 1 Try.underlying22 hi hz0 hz1 hz2 rfl (by decide) _ _ _ rfl (how.alloc _) ⟨wr.heap.size, 0, none⟩ 1 1 [.int .u8 0] rfl rfl ?c1 ?c2 ?c3 ?c4 ?c5 ?_)
      case c1 =>
        intro j u hj
        match j, hj with
        | 0, hj => simp at hj; subst hj; simp [Addr.add]
      case c2 => intro u hu; simp at hu; subst hu; rfl
      case c3 => unfold maxLen; omega
      case c4 => omega
      case c5 => simp; omega
      intro v' w5 hown hgrow _
      obtain ⟨av5, cv5, rfl⟩ := own_len hown
      go_wp2
      go_roundw
      case rel =>
        refine ⟨k + 1, by omega, ?_, (hb.alloc (by omega) _).grown hgrow (by simp; omega) (fun k hk => (how.lt k hk).1)⟩
        have e : 8 + bs.length + (k + 1) = m + 1 := by have := HM.out; omega
        rw [e, List.replicate_succ', ← List.append_assoc, List.map_append]
        simpa using hown
      case measure => simp [slen]; omega
    · have hke : k = 56 - bs.length := by omega
      have hme : 8 + bs.length + k = 64 := by omega
      rw [hme] at how ⊢
      have hpb : [76, 0] ++ le gen 4 ++ [(bs.length : Int), 0] ++ bs ++ List.replicate k 0 = pageB gen bs := by rw [hke]; rfl
      rw [hpb] at how
      have HP : Hid (wr.ownsRow (w.heap.size + 1) 5 1 (.slice av 64 cv) 64 ((pageB gen bs).map (Value.int .u8))) := how
      have hrd := (Reads.of_own how).1
      have h1 : (pageB gen bs).getD 1 0 = 0 := by simp [pageB]
      obtain ⟨q1, q2⟩ := how
      rcases q2 with ⟨e, h0⟩ | ⟨g, cap', cur, e, hg, hh, hn, hm, hs, ht⟩
      · omega
      simp only [Value.slice.injEq] at e
      obtain ⟨rfl, _, rfl⟩ := e
      have hfz := Joins.unfrozen_of_block hh 1
      have hcl : ∃ x, wr.cell? ⟨g, 1, none⟩ = some x := by
        rw [Joins.cell_of_block hh]
        exact ⟨_, Array.getElem?_eq_getElem (by omega)⟩
      obtain ⟨x, hcl⟩ := hcl
      have HRD : Hid (Reads wr (.slice (some ⟨g, 0, none⟩) 64 cv) (pageB gen bs)) := hrd
      have HH : Hid (wr.heap[g]? = some (.cells cur 5 (0, 0)) ∧ cur.toList.take (64 * 1) = (pageB gen bs).map (Value.int .u8) ∧ cur.size = cv * 1) := ⟨hh, ht, hs⟩
      clear hrd hh ht hpb q1 hs
      go_wp2_with fail
      refine (l2check_any _ (pageB gen bs) _ HRD.out (by rw [pageB_length gen bs hl]; omega) h1).mono ?_; rintro e w6 ⟨rfl, rfl⟩
      generalize hS : (pageB gen bs).sum % 256 = S
      have HS : Hid ((pageB gen bs).sum % 256 = S) := hS
      clear hS
      go_wp2
      go_ret
      obtain ⟨hh, ht, hs⟩ := HH.out
      refine ⟨.slice (some ⟨g, 0, none⟩) 64 cv, rfl, ⟨by simp [pageL_length gen bs hl], .inr ⟨g, cv, cur.setIfInBounds 1 (.int .u8 S), rfl, by omega, Joins.block_setCell hh _, hn, hm, by simp [hs], ?_⟩⟩, ((B4.trans (hb.mono (by omega))).setCell (by simp; omega) _)⟩
      rw [Array.toList_setIfInBounds, List.take_set, ht, pageL, HS.out, List.map_set]

theorem own_nil {w : World} {lo e size : Nat} {a : Option Addr} {m cap n : Nat} {xs : List Value} (h : w.ownsRow lo e size (.slice a m cap) n xs) : a = none → cap = 0 := by
  intro ha
  subst ha
  rcases h.2 with ⟨e, _⟩ | ⟨g, cap, cur, e, _⟩
  · simp at e; exact e.2
  · simp at e
theorem own_rdb' {w : World} {lo e : Nat} {v : Value} {bs : List Int} (h : w.ownsRow lo e 1 v bs.length (bs.map (Value.int .u8))) : RdB' w v bs := ⟨(Reads.of_own h).1, fun k hk => .inr (h.lt k hk).2⟩

theorem specPageBlock_any (ok : Bool) (gen : Int) (a : Option Addr) (cap : Nat) (bs : List Int) (w : World) (hn : bs.length ≤ maxLen) (hr : RdB' w (.slice a bs.length cap) bs) (hnil : a = none → cap = 0) (hbs : Byt bs) :
    Calls Try.prog 17 #[.agg #[.bool ok, .int .i64 gen, .slice a bs.length cap]] w fun e w' => ∃ v, e = .returned v ∧ w'.ownsRow w.heap.size 5 1 v (pageOf ok gen bs).length ((pageOf ok gen bs).map (Value.int .u8)) ∧ Below w.heap.size w w' := by
  cases hok : pageOkB ok gen bs.length with
  | false =>
    have hP : pageOf ok gen bs = [] := by simp [pageOf, hok]
    rw [hP]
    refine (specPageBlock_no ok gen a bs.length cap w hn hok).mono ?_
    rintro e w' ⟨rfl, h⟩
    exact ⟨_, rfl, World.ownsRow_nil _ _ _ _, h⟩
  | true =>
    have hP : pageOf ok gen bs = pageL gen bs := by simp [pageOf, hok]
    obtain ⟨rfl, _, _, hl⟩ := pageOk_parts hok
    rw [hP, pageL_length gen bs hl]
    exact specPageBlock_ok gen a cap bs w hok hr hnil hbs
end Go.Proofs.Ytepagknkhlpicaa
