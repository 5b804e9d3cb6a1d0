/-
  A page as a block: impl.pageOk, impl.arrayOfPage, impl.PageBlock.
-/
import Derived.Test.YtepagknkhlpicaaXReadFrame
import Derived.Test.YtepagknkhlpicaaArr
namespace Go.Proofs.Ytepagknkhlpicaa
open Go.ChangeShapes Go.WideShapes Go.ChangeAt Go.RowKit
set_option linter.unusedVariables false
set_option linter.unusedSimpArgs false

/-- A slice of bytes that can be read, its memory old. -/
def RdB' (w : World) (v : Value) (bs : List Int) : Prop := Reads w v bs ∧ ∀ k, v.ownBlock = some k → bs.length = 0 ∨ k < w.heap.size
/-- A page is one. -/
def pageOkB (ok : Bool) (gen : Int) (n : Nat) : Bool := ok && decide (1 ≤ gen) && decide (gen ≤ 1000000000) && decide (n ≤ 56)
theorem pageOk_parts {ok : Bool} {gen : Int} {n : Nat} (h : pageOkB ok gen n = true) : ok = true ∧ 1 ≤ gen ∧ gen ≤ 1000000000 ∧ n ≤ 56 := by
  simp only [pageOkB, Bool.and_eq_true, decide_eq_true_eq] at h
  exact ⟨h.1.1.1, h.1.1.2, h.1.2, h.2⟩

set_option maxHeartbeats 1000000 in
theorem pageOk_any (ok : Bool) (gen : Int) (a : Option Addr) (n c : Nat) (w : World) (hn : n ≤ maxLen) :
    Calls Try.prog 80 #[.agg #[.bool ok, .int .i64 gen, .slice a n c]] w fun e w' => e = .returned (.bool (pageOkB ok gen n)) ∧ Below w.heap.size w w' := by
  unfold maxLen at hn
  have bA := (Below.refl _ w).alloc (Nat.le_refl _) (.cells #[.bool ok, .int .i64 gen, .slice a n c] 33)
  by_cases h1 : 1 ≤ gen
  · by_cases h2 : gen ≤ 1000000000
    · by_cases h3 : n ≤ 56
      · cases ok with
        | true =>
          have h3' : (n : Int) ≤ 56 := by omega
          have hF : pageOkB true gen n = true := by simp [pageOkB, h1, h2, h3]
          rw [hF]
          clear hF
          go_enter Try.func80, Try.ntmps80
          go_wp2
          go_ret
          exact ⟨rfl, bA⟩
        | false =>
          have hF : pageOkB false gen n = false := by simp [pageOkB]
          rw [hF]
          clear hF
          go_enter Try.func80, Try.ntmps80
          go_wp2
          go_ret
          exact ⟨rfl, bA⟩
      · have h3' : ¬ (n : Int) ≤ 56 := by omega
        have hF : pageOkB ok gen n = false := by simp [pageOkB, h3]
        rw [hF]
        clear hF
        cases ok
        all_goals
          go_enter Try.func80, Try.ntmps80
          go_wp2
          go_ret
          exact ⟨rfl, bA⟩
    · have hF : pageOkB ok gen n = false := by simp [pageOkB, h2]
      rw [hF]
      clear hF
      cases ok
      all_goals
        go_enter Try.func80, Try.ntmps80
        go_wp2
        go_ret
        exact ⟨rfl, bA⟩
  · have hF : pageOkB ok gen n = false := by simp [pageOkB, h1]
    rw [hF]
    clear hF
    cases ok
    all_goals
      go_enter Try.func80, Try.ntmps80
      go_wp2
      go_ret
      exact ⟨rfl, bA⟩

/-- A page's block, its check still a 0. -/
def pageB (gen : Int) (bs : List Int) : List Int := [76, 0] ++ le gen 4 ++ [(bs.length : Int), 0] ++ bs ++ List.replicate (56 - bs.length) 0
/-- A page's block. -/
def pageL (gen : Int) (bs : List Int) : List Int := (pageB gen bs).set 1 ((pageB gen bs).sum % 256)
theorem pageB_length (gen : Int) (bs : List Int) (h : bs.length ≤ 56) : (pageB gen bs).length = 64 := by simp [pageB, le_length]; omega
theorem pageL_length (gen : Int) (bs : List Int) (h : bs.length ≤ 56) : (pageL gen bs).length = 64 := by simp [pageL, pageB_length gen bs h]

theorem foldl_push_list : ∀ (l : List Int) (r : ByteArray), (l.foldl (fun r n => r.push (UInt8.ofNat n.toNat)) r).data.toList = r.data.toList ++ l.map (fun n => UInt8.ofNat n.toNat)
  | [], r => by simp
  | b :: l, r => by
    rw [List.foldl_cons, foldl_push_list l]
    simp [ByteArray.push]
theorem txt_mkS (bs : List Int) (h : Byt bs) : txt (mkS bs) = bs := by
  have e : (mkS bs).data.toList = bs.map (fun n => UInt8.ofNat n.toNat) := by
    unfold mkS
    rw [foldl_push_list]
    rfl
  unfold txt
  rw [e, List.map_map]
  conv => rhs; rw [← List.map_id bs]
  apply List.map_congr_left
  intro b hb
  have := h b hb
  simp
  omega
theorem conv_reads (w : World) (v : Value) (bs : List Int) (h : Reads w v bs) : (convert 22 9 v).run Try.prog w = .ok (.string (mkS bs)) w := by
  obtain ⟨a, cap, rfl, h1, h2, hx⟩ := h
  cases a with
  | some a =>
    refine bytes_to_string w a bs.length cap bs rfl (fun i hi => ?_)
    obtain ⟨b, off, e, hc⟩ := hx i hi
    simp at e
    subst e
    have : (⟨b, off, none⟩ : Addr).add i = ⟨b, off + i, none⟩ := by simp [Addr.add] <;> omega
    rw [this]
    exact hc
  | none =>
    have : bs = [] := by
      cases bs with
      | nil => rfl
      | cons x l => obtain ⟨b, off, e, _⟩ := hx 0 (by simp); simp at e
    subst this
    rw [List.length_nil, run_convert_bytes_string w 22 9 5 none 0 cap Try.underlying22 Try.underlying5 Try.underlying9]
    rfl

theorem zero76 (w : World) : (zeroValue 86).run Try.prog w = .ok (.agg (Array.replicate 64 (Value.int .u8 0))) w := Try.zeroValue86 w

/-- A page in a block. -/
def PageAt (w : World) (b : Nat) (gen : Int) (v : Value) : Prop := w.cell? ⟨b, 1, none⟩ = some (.int .i64 gen) ∧ w.cell? ⟨b, 2, none⟩ = some v
theorem PageAt.but {S : Nat → Prop} {w w' : World} {b : Nat} {gen : Int} {v : Value} (h : PageAt w b gen v) (hb : But S w w') (hS : ¬ S b) : PageAt w' b gen v :=
  ⟨by rw [hb.cell hS]; exact h.1, by rw [hb.cell hS]; exact h.2⟩
theorem Reads.but' {S : Nat → Prop} {w w' : World} {v : Value} {bs : List Int} (h : Reads w v bs) (hb : But S w w') (hS : ∀ k, v.ownBlock = some k → bs.length = 0 ∨ ¬ S k) : Reads w' v bs := by
  obtain ⟨a, cap, rfl, h1, h2, h3⟩ := h
  refine ⟨a, cap, rfl, h1, h2, fun i hi => ?_⟩
  obtain ⟨b, off, rfl, hc⟩ := h3 i hi
  refine ⟨b, off, rfl, ?_⟩
  rw [hb.cell ((hS b rfl).resolve_left (by omega))]
  exact hc

set_option maxHeartbeats 4000000 in
theorem arrayOfPage_ok (gen : Int) (a : Option Addr) (cap : Nat) (bs : List Int) (w : World) (hok : pageOkB true gen bs.length = true) (hr : RdB' w (.slice a bs.length cap) bs) (hbs : Byt bs) :
    Calls Try.prog 52 #[.agg #[.bool true, .int .i64 gen, .slice a bs.length cap]] w fun e w' => e = .returned (.tuple #[.agg ((pageL gen bs).map (Value.int .u8)).toArray, .bool true]) ∧ Below w.heap.size w w' := by
  obtain ⟨_, g1, g2, hl⟩ := pageOk_parts hok
  obtain ⟨hrd, hold⟩ := hr
  have HR : Hid (Reads w (.slice a bs.length cap) bs) := hrd
  clear hrd
  go_enter Try.func52, Try.ntmps52
  go_wp2_with (refine wpList_alloc_row rfl 86 rfl _ zero76 ?_)
  have bA : Below w.heap.size w ((w.alloc (.cells #[.bool true, .int .i64 gen, .slice a bs.length cap] 33)).alloc (.cells (Array.replicate 64 (Value.int .u8 0)) 86)) := ((Below.refl _ w).alloc (Nat.le_refl _) _).alloc (by simp) _
  have n0 : PageAt ((w.alloc (.cells #[.bool true, .int .i64 gen, .slice a bs.length cap] 33)).alloc (.cells (Array.replicate 64 (Value.int .u8 0)) 86)) w.heap.size gen (.slice a bs.length cap) := by
    constructor <;> simp [go_sem]
  have f0 := heap_alloc2_new w (.cells #[.bool true, .int .i64 gen, .slice a bs.length cap] 33) (.cells (Array.replicate 64 (Value.int .u8 0)) 86)
  refine (pageOk_any true gen a bs.length cap _ (by unfold maxLen; omega)).mono ?_; rintro e w1 ⟨rfl, b1⟩
  rw [hok]
  have z1 := b1.size
  simp only [World.size_alloc] at z1
  have B1 : Below w.heap.size w w1 := bA.trans (b1.mono (by simp; omega))
  have n1 : PageAt w1 w.heap.size gen (.slice a bs.length cap) := ⟨by rw [b1.cell (p := ⟨w.heap.size, 1, none⟩) (by simp; omega)]; exact n0.1, by rw [b1.cell (p := ⟨w.heap.size, 2, none⟩) (by simp; omega)]; exact n0.2⟩
  have f1 : w1.heap[w.heap.size + 1]? = some (.cells (Array.replicate 64 (Value.int .u8 0)) 86 (0, 0)) := by rw [b1.block _ (by simp)]; exact f0
  clear f0 n0
  go_wp2_with fail
  have hW : WrT 86 (w1.alloc (.cells #[.slice (some ⟨w.heap.size + 1, 0, none⟩) 64 64, .int .i64 0] 72)) w1.heap.size (w.heap.size + 1) 64 [] := by
    refine ⟨heap_alloc_new w1 _, by omega, Nat.zero_le _, by omega, ?_⟩
    rw [Below.heap_alloc _ _ _ (by omega), f1]
    rfl
  have bW : Below w1.heap.size w1 (w1.alloc (.cells #[.slice (some ⟨w.heap.size + 1, 0, none⟩) 64 64, .int .i64 0] 72)) := (Below.refl _ w1).alloc (Nat.le_refl _) _
  have n2 : PageAt (w1.alloc (.cells #[.slice (some ⟨w.heap.size + 1, 0, none⟩) 64 64, .int .i64 0] 72)) w.heap.size gen (.slice a bs.length cap) := ⟨by rw [bW.cell (p := ⟨w.heap.size, 1, none⟩) (show w.heap.size < _ by omega)]; exact n1.1, by rw [bW.cell (p := ⟨w.heap.size, 2, none⟩) (show w.heap.size < _ by omega)]; exact n1.2⟩
  clear f1
  refine (put_wr w1.heap.size (w.heap.size + 1) 64 [] 76 _ hW (by simp)).mono ?_
  rintro e w2 ⟨rfl, hw2, bw2⟩
  have nw2 := n2.but bw2 (by rintro (h | h) <;> omega)
  clear n1 n2
  go_wp2_with fail
  refine (put_wr w1.heap.size (w.heap.size + 1) 64 _ 0 _ hw2 (by simp)).mono ?_
  rintro e w3 ⟨rfl, hw3, bw3⟩
  have nw3 := nw2.but bw3 (by rintro (h | h) <;> omega)
  obtain ⟨c30, c31⟩ := id nw3
  go_wp2_with fail
  refine (putInt w1.heap.size (w.heap.size + 1) 64 _ gen 4 _ hw3 (by simp) (by omega) (by omega) (by omega)).mono ?_
  rintro e w4 ⟨rfl, hw4, bw4⟩
  have nw4 := nw3.but bw4 (by rintro (h | h) <;> omega)
  obtain ⟨c40, c41⟩ := id nw4
  clear c30 c31
  go_wp2_with fail
  refine (putInt w1.heap.size (w.heap.size + 1) 64 _ (bs.length : Int) 1 _ hw4 (by simp [le_length]) (by omega) (by omega) (by omega)).mono ?_
  rintro e w5 ⟨rfl, hw5, bw5⟩
  have nw5 := nw4.but bw5 (by rintro (h | h) <;> omega)
  clear c40 c41
  go_wp2_with fail
  refine (put_wr w1.heap.size (w.heap.size + 1) 64 _ 0 _ hw5 (by simp [le_length])).mono ?_
  rintro e w6 ⟨rfl, hw6, bw6⟩
  have nw6 := nw5.but bw6 (by rintro (h | h) <;> omega)
  obtain ⟨c60, c61⟩ := id nw6
  have bT := (((bw2.trans bw3).trans bw4).trans bw5).trans bw6
  have hr6 : Reads w6 (.slice a bs.length cap) bs := by
    refine Reads.but' ((HR.out.below' B1 hold).below' bW (fun k hk => by have := hold k hk; omega)) bT (fun k hk => ?_)
    rcases hold k hk with h | h
    · exact .inl h
    · exact .inr (by rintro (h | h) <;> omega)
  have hcv := conv_reads w6 _ bs hr6
  go_wp2_with fail
  refine (putText_wr w1.heap.size (w.heap.size + 1) 64 _ (mkS bs) _ hw6 (by simp [le_length, mkS_size]; omega)).mono ?_
  rintro e w7 ⟨rfl, hw7, bw7⟩
  rw [txt_mkS bs hbs] at hw7
  have hbt := bT.trans bw7
  have B7 : Below w.heap.size w w7 := (B1.trans (bW.mono (by omega))).trans (hbt.below (by rintro k (h | h) <;> omega))
  obtain ⟨_, _, _, _, f7⟩ := hw7
  have eds : ([] ++ [76] ++ [0] ++ le gen 4 ++ le (bs.length : Int) 1 ++ [0] ++ bs : List Int) = [76, 0] ++ le gen 4 ++ [(bs.length : Int), 0] ++ bs := by
    have e1 : ((bs.length : Int) % 256) = bs.length := by omega
    simp [le, e1]
  have ec : (([] ++ [76] ++ [0] ++ le gen 4 ++ le (bs.length : Int) 1 ++ [0] ++ bs : List Int).map (Value.int .u8) ++ List.replicate (64 - ([] ++ [76] ++ [0] ++ le gen 4 ++ le (bs.length : Int) 1 ++ [0] ++ bs : List Int).length) (Value.int .u8 0)) = (pageB gen bs).map (Value.int .u8) := by
    rw [eds]
    have e2 : 64 - ([76, 0] ++ le gen 4 ++ [(bs.length : Int), 0] ++ bs : List Int).length = 56 - bs.length := by simp [le_length]; omega
    rw [e2]
    simp [pageB]
  rw [ec] at f7
  have hcs : ((pageB gen bs).map (Value.int .u8)).toArray.size = 64 := by simp [pageB_length gen bs hl]
  generalize hC : ((pageB gen bs).map (Value.int .u8)).toArray = C at f7 hcs
  have HC : Hid (((pageB gen bs).map (Value.int .u8)).toArray = C) := hC
  clear ec eds hC hcv hr6 c60 c61 nw6 nw5 nw4 nw3 nw2 hw2 hw3 hw4 hw5 hw6
  have z7 : w1.heap.size < w7.heap.size := by have := hbt.size; simp at this; omega
  go_wp2_with (refine wpList_load_row rfl 86 _ rfl (w.heap.size + 1) rfl 86 C (0, 0) _ f7 Try.underlying86 rfl (by rw [hcs]; exact sz76) ?_)
  refine (sum_any C (pageB gen bs) _ HC.out.symm (pageB_length gen bs hl)).mono ?_; rintro e w8 ⟨rfl, b8⟩
  have z8 := b8.size
  have f8 : w8.heap[w.heap.size + 1]? = some (.cells C 86 (0, 0)) := by rw [b8.block _ (by omega)]; exact f7
  have cl8 : ∃ x, w8.cell? ⟨w.heap.size + 1, 1, none⟩ = some x := by
    rw [Joins.cell_of_block f8]
    exact ⟨_, Array.getElem?_eq_getElem (by omega)⟩
  obtain ⟨x8, cl8⟩ := cl8
  have fz8 := Joins.unfrozen_of_block f8 1
  generalize hS : (pageB gen bs).sum % 256 = S
  have HS : Hid ((pageB gen bs).sum % 256 = S) := hS
  have f9 : (w8.setCell ⟨w.heap.size + 1, 1, none⟩ (.int .u8 S)).heap[w.heap.size + 1]? = some (.cells (C.setIfInBounds 1 (.int .u8 S)) 86 (0, 0)) := Joins.block_setCell f8 _
  have hcs9 : (C.setIfInBounds 1 (.int .u8 S)).size = 64 := by simp [hcs]
  have hP : C.setIfInBounds 1 (.int .u8 S) = ((pageL gen bs).map (Value.int .u8)).toArray := by
    rw [← HC.out, pageL, HS.out]
    simp [List.map_set]
  have hall : (C.setIfInBounds 1 (.int .u8 S)).all (·.oneCell') = true := by
    rw [hP]
    simp [Value.oneCell']
  have HP : Hid (C.setIfInBounds 1 (.int .u8 S) = ((pageL gen bs).map (Value.int .u8)).toArray) := hP
  generalize C.setIfInBounds 1 (.int .u8 S) = C9 at f9 hcs9 hall HP
  clear hP hS
  have B9 : Below w.heap.size w (w8.setCell ⟨w.heap.size + 1, 1, none⟩ (.int .u8 S)) := (B7.trans (b8.mono (by omega))).setCell (by simp) _
  go_wp2_with (first | (refine wpList_load_row rfl 86 _ rfl (w.heap.size + 1) rfl 86 C9 (0, 0) _ f9 Try.underlying86 rfl (by rw [hcs9]; exact sz76) ?_) | (refine wpList_store_same rfl 86 _ _ rfl (w.heap.size + 1) rfl 86 C9 rfl f9 (by rw [hcs9]; exact sz76) hall ?_))
  refine bodyPost_ret (results_cell_tmp' rfl _ _ (w.heap.size + 1) 86 C9 (0, 0) _ rfl f9 Try.underlying86 rfl (by rw [hcs9]; exact sz76)) rfl ⟨?_, B9⟩
  rw [HP.out]
  rfl

/-- A block of zeros. -/
def zeroA : Array Value := Array.replicate 64 (Value.int .u8 0)
theorem zeroA_size : zeroA.size = 64 := by simp [zeroA]
theorem zero76' (w : World) : (zeroValue 86).run Try.prog w = .ok (.agg zeroA) w := zero76 w
theorem rep_all : zeroA.all (·.oneCell') = true := Array.all_eq_true_iff_forall_mem.2 (fun v hv => by rw [zeroA, Array.mem_replicate] at hv; rw [hv.2]; rfl)

set_option maxHeartbeats 1000000 in
theorem arrayOfPage_no (ok : Bool) (gen : Int) (a : Option Addr) (n cap : Nat) (w : World) (hn : n ≤ maxLen) (hok : pageOkB ok gen n = false) :
    Calls Try.prog 52 #[.agg #[.bool ok, .int .i64 gen, .slice a n cap]] w fun e w' => e = .returned (.tuple #[.agg zeroA, .bool false]) ∧ Below w.heap.size w w' := by
  go_enter Try.func52, Try.ntmps52
  go_wp2_with (refine wpList_alloc_row rfl 86 rfl _ zero76' ?_)
  have bA : Below w.heap.size w ((w.alloc (.cells #[.bool ok, .int .i64 gen, .slice a n cap] 33)).alloc (.cells zeroA 86)) := ((Below.refl _ w).alloc (Nat.le_refl _) _).alloc (by simp) _
  have f0 := heap_alloc2_new w (.cells #[.bool ok, .int .i64 gen, .slice a n cap] 33) (.cells zeroA 86)
  refine (pageOk_any ok gen a n cap _ hn).mono ?_; rintro e w1 ⟨rfl, b1⟩
  rw [hok]
  have f1 : w1.heap[w.heap.size + 1]? = some (.cells zeroA 86 (0, 0)) := by rw [b1.block _ (by simp)]; exact f0
  have B1 : Below w.heap.size w w1 := bA.trans (b1.mono (by simp; omega))
  have hcs : zeroA.size = 64 := zeroA_size
  have hall := rep_all
  clear f0 bA b1
  go_wp2_with (first | (refine wpList_load_row rfl 86 _ rfl (w.heap.size + 1) rfl 86 zeroA (0, 0) _ f1 Try.underlying86 rfl (by rw [hcs]; exact sz76) ?_) | (refine wpList_store_same rfl 86 _ _ rfl (w.heap.size + 1) rfl 86 zeroA rfl f1 (by rw [hcs]; exact sz76) hall ?_))
  exact bodyPost_ret (results_cell_tmp' rfl _ _ (w.heap.size + 1) 86 zeroA (0, 0) _ rfl f1 Try.underlying86 rfl (by rw [hcs]; exact sz76)) rfl ⟨rfl, B1⟩

/-- The bytes of a page's block; none for a page that is none. -/
def pageOf (ok : Bool) (gen : Int) (bs : List Int) : List Int := if pageOkB ok gen bs.length then pageL gen bs else []
theorem pageOf_length (ok : Bool) (gen : Int) (bs : List Int) : (pageOf ok gen bs).length ≤ 64 := by
  unfold pageOf
  split
  · rename_i h; rw [pageL_length gen bs (pageOk_parts h).2.2.2]; omega
  · simp

theorem own_array (w : World) (C : Array Value) (t : TypeId) (n lo g : Nat) (hC : C.size = n) (hn : n ≤ 1000000) (hlo : lo ≤ w.heap.size) (hg : g = w.heap.size) : (w.alloc (.cells C t)).ownsRow lo t 1 (.slice (some ⟨g, 0, none⟩) n n) n C.toList := by
  subst hg
  exact ⟨by simp [hC], .inr ⟨w.heap.size, n, C, rfl, hlo, heap_alloc_new w _, Nat.le_refl _, by unfold maxLen; omega, by omega, by rw [List.take_of_length_le]; simp; omega⟩⟩

set_option maxHeartbeats 1000000 in
theorem implPageBlock_any (ok : Bool) (gen : Int) (a : Option Addr) (cap : Nat) (bs : List Int) (w : World) (hn : bs.length ≤ maxLen) (hr : RdB' w (.slice a bs.length cap) bs) (hbs : Byt bs) :
    Calls Try.prog 16 #[.agg #[.bool ok, .int .i64 gen, .slice a bs.length cap]] w fun e w' => ∃ v ety, e = .returned v ∧ w'.ownsRow w.heap.size ety 1 v (pageOf ok gen bs).length ((pageOf ok gen bs).map (Value.int .u8)) ∧ Below w.heap.size w w' := by
  have bA := (Below.refl _ w).alloc (Nat.le_refl _) (.cells #[.bool ok, .int .i64 gen, .slice a bs.length cap] 33)
  cases hok : pageOkB ok gen bs.length with
  | false =>
    have hP : pageOf ok gen bs = [] := by simp [pageOf, hok]
    rw [hP]
    clear hP
    go_enter Try.func16, Try.ntmps16
    go_wp2_with fail
    refine (arrayOfPage_no ok gen a bs.length cap _ hn hok).mono ?_; rintro e w1 ⟨rfl, b1⟩
    have B1 : Below w.heap.size w w1 := bA.trans (b1.mono (by simp))
    have g0 := heap_alloc_new w1 (.cells zeroA 86)
    have hcs : zeroA.size = 64 := zeroA_size
    have hall := rep_all
    have hz := zero76'
    have BA : Below w.heap.size w (w1.alloc (.cells zeroA 86)) := B1.alloc (by have := B1.size; omega) _
    generalize zeroA = C at g0 hcs hall hz BA
    have HZ : Hid (∀ w, (zeroValue 86).run Try.prog w = .ok (.agg C) w) := hz
    clear hz
    go_wp2_with (first | (refine wpList_alloc_row rfl 86 rfl C HZ.out ?_) | (refine wpList_store_same rfl 86 _ _ rfl w1.heap.size rfl 86 C rfl g0 (by rw [hcs]; exact sz76) hall ?_))
    go_ret
    exact ⟨_, 0, rfl, World.ownsRow_nil _ _ _ _, BA⟩
  | true =>
    obtain ⟨rfl, _, _, hl⟩ := pageOk_parts hok
    have hP : pageOf true gen bs = pageL gen bs := by simp [pageOf, hok]
    rw [hP, pageL_length gen bs hl]
    clear hP
    go_enter Try.func16, Try.ntmps16
    go_wp2_with fail
    refine (arrayOfPage_ok gen a cap bs _ hok ⟨hr.1.below' bA hr.2, fun k hk => (hr.2 k hk).imp id (fun h => by simp; omega)⟩ hbs).mono ?_; rintro e w1 ⟨rfl, b1⟩
    have B1 : Below w.heap.size w w1 := bA.trans (b1.mono (by simp))
    have hcs : ((pageL gen bs).map (Value.int .u8)).toArray.size = 64 := by simp [pageL_length gen bs hl]
    have hall : ((pageL gen bs).map (Value.int .u8)).toArray.all (·.oneCell') = true := by simp [Value.oneCell']
    have hzs : zeroA.size = 64 := zeroA_size
    have hz := zero76'
    generalize hCe : ((pageL gen bs).map (Value.int .u8)).toArray = C at hcs hall
    have HC : Hid (((pageL gen bs).map (Value.int .u8)).toArray = C) := hCe
    generalize zeroA = Z at hz hzs
    have HZ : Hid (∀ w, (zeroValue 86).run Try.prog w = .ok (.agg Z) w) := hz
    have gZ := heap_alloc_new w1 (.cells Z 86)
    have gC := heap_alloc_new w1 (.cells C 86)
    have BC : Below w.heap.size w (w1.alloc (.cells C 86)) := B1.alloc (by have := B1.size; omega) _
    clear hz hCe
    go_wp2_with (first | (refine wpList_alloc_row rfl 86 rfl Z HZ.out ?_) | (refine wpList_store_row rfl 86 _ _ rfl w1.heap.size C rfl rfl 86 Z gZ (by rw [hcs]; exact sz76) (by omega) hall ?_; rw [World.setRow_alloc_new]) | (refine wpList_load_row rfl 86 _ rfl w1.heap.size rfl 86 C (0, 0) _ gC Try.underlying86 rfl (by rw [hcs]; exact sz76) ?_))
    refine (list_any C _ hcs).mono ?_; rintro e w2 ⟨rfl, rfl⟩
    go_wp2
    go_ret
    refine ⟨.slice (some ⟨w1.heap.size + 1, 0, none⟩) 64 64, 86, rfl, ?_, BC.alloc (by have := BC.size; omega) _⟩
    have e : (pageL gen bs).map (Value.int .u8) = C.toList := by rw [← HC.out]
    rw [e]
    exact own_array (w1.alloc (.cells C 86)) C 86 64 _ _ hcs (by omega) (by have := BC.size; omega) (by simp)
end Go.Proofs.Ytepagknkhlpicaa
