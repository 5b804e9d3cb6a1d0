/-
  spec.ReadFrame.
-/
import Derived.Test.YtepagknkhlpicaaRead
import Derived.Deep.RegionHeld3
import Derived.Deep.DrawnRows
namespace Go.Proofs.Ytepagknkhlpicaa
open Go.ChangeShapes Go.WideShapes Go.ChangeAt Go.RowKit
set_option linter.unusedVariables false
set_option linter.unusedSimpArgs false
attribute [local go_sem ↓] Go.wp_at_zero Go.wp_at_succ

theorem un_drop (xs : List Int) (j : Nat) (h : j < xs.length) : un (xs.drop j) = xs.getD j 0 + 256 * un (xs.drop (j + 1)) := by
  rw [List.drop_eq_getElem_cons h, un, List.getD_eq_getElem?_getD, List.getElem?_eq_getElem h]
  rfl

set_option maxHeartbeats 1000000 in
theorem l1get_any (v : Value) (xs : List Int) (w : World) (hr : Reads w v xs) (hb : Byt xs) (hl : xs.length ≤ 8) :
    Calls Try.prog 66 #[v] w fun e w' => e = .returned (.int .u64 (un xs)) ∧ w' = w := by
  obtain ⟨a, cap, rfl, h1, h2, hx⟩ := hr
  unfold maxLen at h2
  go_enter Try.func66, Try.ntmps66
  go_wp2
  go_loop [3, 4] (fun n i => ∃ (j : Nat) (u : Int), j ≤ xs.length ∧ i = .int .i64 ((j : Int) - 1) ∧ n = .int .u64 u ∧ u = un (xs.drop j)) (fun _ i => (intOf i + 1).toNat)
  case atStart => exact ⟨xs.length, 0, Nat.le_refl _, rfl, rfl, by simp [un]⟩
  case round =>
    obtain ⟨j, u, hj, rfl, rfl, he⟩ := hrel
    have hu := un_bd _ (show Byt (xs.drop j) from fun b h => hb b (List.mem_of_mem_drop h))
    rw [List.length_drop, ← he] at hu
    have HE : Hid (u = un (xs.drop j)) := he
    clear he
    by_cases hlt : 0 < j
    · obtain ⟨m, rfl⟩ : ∃ m, j = m + 1 := ⟨j - 1, by omega⟩
      have hlt' : m < xs.length := by omega
      obtain ⟨g, o, rfl, hc⟩ := hx m hlt'
      have hxm := hb.getD m
      have hp : (2 : Nat) ^ (8 * (xs.length - (m + 1))) ≤ 2 ^ 56 := Nat.pow_le_pow_right (by omega) (by omega)
      have hp2 : ((2 : Int) ^ (8 * (xs.length - (m + 1)))) = (((2 : Nat) ^ (8 * (xs.length - (m + 1))) : Nat) : Int) := by simp
      have hu56 : u < 72057594037927936 := by omega
      have hstep := un_drop xs m hlt'
      rw [← HE.out] at hstep
      have e3 := or_low u (xs.getD m 0) hu.1 (by omega) hxm.1 hxm.2
      generalize xs.getD m 0 = y at hc hxm hstep e3
      have HS : Hid (un (xs.drop m) = y + 256 * u) := hstep
      have H3 : Hid (bits .or .u64 (u * 256) y = u * 256 + y) := e3
      have hu0 := hu.1
      have e4 : ((m + 1 : Nat) : Int) - 1 = (m : Int) := by omega
      rw [e4]
      clear hu hp hp2 hstep e3 hx e4
      go_wp2
      go_round
      case rel => exact ⟨m, _, by omega, rfl, rfl, by rw [H3.out, HS.out, Int.mul_comm, Int.add_comm]⟩
      case measure => simp [intOf] <;> omega
    · have : j = 0 := by omega
      subst this
      go_wp2
      go_ret
      exact ⟨by rw [HE.out]; rfl, rfl⟩

/-- The bytes bs lie from a place on. -/
def Row (w : World) (g o : Nat) (bs : List Int) : Prop := ∀ i, i < bs.length → w.cell? ⟨g, o + i, none⟩ = some (.int .u8 (bs.getD i 0))
theorem Row.below {w w' : World} {g o B : Nat} {bs : List Int} (h : Row w g o bs) (hb : Below B w w') (hg : g < B) : Row w' g o bs := fun i hi => by
  rw [hb.cell (p := ⟨g, o + i, none⟩) hg]; exact h i hi
theorem pad_getD (bs : List Int) : ∀ (n q i : Nat), i < n → (pad bs q n).getD i 0 = bs.getD (q + i) 0
  | 0, _, _, h => by omega
  | n + 1, q, 0, _ => by simp [pad]
  | n + 1, q, i + 1, h => by
    have := pad_getD bs n (q + 1) i (by omega)
    simp only [pad, List.getD_cons_succ, this]
    rw [Nat.add_assoc, Nat.add_comm 1 i]
theorem Row.sub {w : World} {g o : Nat} {bs : List Int} (h : Row w g o bs) (q n c : Nat) (hq : q + n ≤ bs.length) (hc : n ≤ c) (hm : c ≤ maxLen) : Reads w (.slice (some ⟨g, o + q, none⟩) n c) (pad bs q n) := by
  refine ⟨_, c, by rw [pad_length], by rw [pad_length]; exact hc, hm, fun i hi => ?_⟩
  rw [pad_length] at hi
  refine ⟨g, o + q, rfl, ?_⟩
  rw [pad_getD bs n q i hi, Nat.add_assoc]
  exact h (q + i) (by omega)
theorem Row.str {w : World} {g o : Nat} {bs : List Int} (h : Row w g o bs) (q n c : Nat) (hq : q + n ≤ bs.length) : (convert 22 9 (.slice (some ⟨g, o + q, none⟩) n c)).run Try.prog w = .ok (.string (mkS (pad bs q n))) w := by
  refine bytes_to_string w ⟨g, o + q, none⟩ n c (pad bs q n) (pad_length _ _ _) (fun i hi => ?_)
  rw [pad_getD bs n q i hi]
  have e : (⟨g, o + q, none⟩ : Addr).add i = ⟨g, o + (q + i), none⟩ := by simp [Addr.add, Nat.add_assoc] <;> omega
  rw [e]
  exact h (q + i) (by omega)

theorem Row.str0 {w : World} {g o : Nat} {bs : List Int} (h : Row w g o bs) : (convert 22 9 (.slice (some ⟨g, o, none⟩) 0 0)).run Try.prog w = .ok (.string (mkS (pad bs 17 0))) w :=
  bytes_to_string w ⟨g, o, none⟩ 0 0 (pad bs 17 0) rfl (fun i hi => by omega)

theorem Row.strIf {w : World} {g o : Nat} {bs : List Int} (h : Row w g o bs) (n c cap : Nat) (hq : 17 + n ≤ bs.length) (hn : 17 + n ≤ cap) : (convert 22 9 (.slice (if cap = 17 then some ⟨g, o, none⟩ else some ⟨g, o + 17, none⟩) n c)).run Try.prog w = .ok (.string (mkS (pad bs 17 n))) w := by
  by_cases e : cap = 17
  · obtain rfl : n = 0 := by omega
    rw [if_pos e]
    exact bytes_to_string w ⟨g, o, none⟩ 0 c (pad bs 17 0) rfl (fun i hi => by omega)
  · rw [if_neg e]
    exact h.str 17 n c hq

theorem elem22 : Try.prog.underlying 22 = some (.slice (Try.prog.elem 22)) := by kernel_rfl
theorem elemIs : Try.prog.elem 22 = 5 := by kernel_rfl
theorem slice17 (g o len cap n : Nat) (hn : 17 + n ≤ cap) (w : World) : (Instr.slice 22 (.slice (some ⟨g, o, none⟩) len cap) (some (.int .i64 17)) (some (.int .i64 (17 + (n : Int)))) none).run Try.prog w = .ok (.slice (if cap = 17 then some ⟨g, o, none⟩ else some ⟨g, o + 17, none⟩) n (cap - 17)) w := by
  rw [run_slice_lh w 22 (some ⟨g, o, none⟩) len cap elem22 .i64 .i64 17 (17 + (n : Int)) (by omega) (by omega) (by omega), elemIs]
  obtain ⟨i0, hi, hz0, hz1, hz2⟩ := info_parts info5
  have e1 : (17 + (n : Int)).toNat - 17 = n := by omega
  simp [sizeOf, typeInfo, hi, hz1, sliced, e1, Addr.add, go_sem]

theorem alloc2_fst (w : World) (o o' : Obj) : ((w.alloc o).alloc o').heap[w.heap.size]? = some o := by
  rw [Below.heap_alloc _ _ _ (by simp)]
  exact heap_alloc_new w o
theorem alloc2_snd (w : World) (o o' : Obj) : ((w.alloc o).alloc o').heap[w.heap.size + 1]? = some o' := by
  have h := heap_alloc_new (w.alloc o) o'
  have e : (w.alloc o).heap.size = w.heap.size + 1 := by simp
  rw [e] at h
  exact h

theorem l1pad (v : Value) (bs : List Int) (q n : Nat) (w : World) (hr : Reads w v (pad bs q n)) (hb : Byt bs) (hn : n ≤ 8) :
    Calls Try.prog 66 #[v] w fun e w' => e = .returned (.int .u64 (un (pad bs q n))) ∧ w' = w :=
  l1get_any v _ w hr (pad_byt hb _ _) (by rw [pad_length]; exact hn)

set_option maxHeartbeats 4000000 in
theorem specRead_any (v : Value) (bs : List Int) (w : World) (hr : Reads w v bs) (hbs : Byt bs) (hl : bs.length ≤ 100000000) (hv : ∀ k, v.ownBlock = some k → k < w.heap.size) :
    Calls Try.prog 32 #[v] w fun e w' => e = .returned (readV bs) ∧ Below w.heap.size w w' := by
  obtain ⟨a, cap, rfl, hcap, hm, hx⟩ := hr
  have hg1 := hbs.getD 1
  by_cases h17 : bs.length < 17
  · have HE : Hid (readV bs = frNo) := by
      show readV bs = frNo
      unfold readV
      rw [if_neg (by omega)]
    clear hx hg1
    go_enter Try.func32, Try.ntmps32
    go_wp2
    refine bodyPost_ret (v := frNo) (by simp [results, Try.results32, go_sem, frNo, frV]; rfl) rfl ⟨by rw [HE.out], (Below.refl _ _).alloc (Nat.le_refl _) _⟩
  · obtain ⟨g, o, rfl, hc0⟩ := hx 0 (by omega)
    have hrow : Row w g o bs := fun i hi => by
      clear hc0
      obtain ⟨g', o', e, hc⟩ := hx i hi
      simp only [Option.some.injEq, Addr.mk.injEq] at e
      obtain ⟨rfl, rfl, _⟩ := e
      exact hc
    have hg := hv g rfl
    have hrowa : ∀ ob, Row (w.alloc ob) g o bs := fun ob => hrow.below ((Below.refl _ w).alloc (Nat.le_refl _) ob) hg
    have hc0 : ∀ ob, (w.alloc ob).cell? ⟨g, o, none⟩ = some (.int .u8 (bs.getD 0 0)) := fun ob => by simpa using hrowa ob 0 (by omega)
    have hc1 : ∀ ob, (w.alloc ob).cell? ⟨g, o + 1, none⟩ = some (.int .u8 (bs.getD 1 0)) := fun ob => hrowa ob 1 (by omega)
    clear hx
    by_cases h78 : bs.getD 0 0 = 78
    · generalize hz : bs.getD 1 0 = z at hg1 hc1
      obtain ⟨nz, rfl⟩ := Int.eq_ofNat_of_zero_le hg1.1
      have hnz' : nz < 256 := by omega
      have HZ : Hid (bs.getD 1 0 = (nz : Int)) := hz
      rw [h78] at hc0
      have H78 : Hid (bs.getD 0 0 = 78) := h78
      clear hz hg1 h78
      by_cases hsh : bs.length < 17 + nz
      · have HE : Hid (readV bs = frNo) := by
          show readV bs = frNo
          unfold readV
          rw [if_neg (by rw [HZ.out]; omega)]
        go_enter Try.func32, Try.ntmps32
        go_wp2
        refine bodyPost_ret (v := frNo) (by simp [results, Try.results32, go_sem, frNo, frV]; rfl) rfl ⟨by rw [HE.out], (Below.refl _ _).alloc (Nat.le_refl _) _⟩
      · have h6i : (6 : Int) ≤ (cap : Int) := by omega
        have h9i : (9 : Int) ≤ (cap : Int) := by omega
        have h17i : (17 : Int) ≤ (cap : Int) := by omega
        have h6l : (6 : Int) < (bs.length : Int) := by omega
        have hshi : (17 : Int) + nz ≤ (bs.length : Int) := by omega
        have c2 : ¬ cap = 2 := by omega
        have c7 : ¬ cap = 7 := by omega
        have c9 : ¬ cap = 9 := by omega
        have w17 : IntKind.i64.wrap (17 + (nz : Int)) = 17 + (nz : Int) := IntWalk.i64_in _ (by omega)
        obtain ⟨ad, hsl, hconv⟩ : ∃ ad, (∀ W, (Instr.slice 22 (.slice (some ⟨g, o, none⟩) bs.length cap) (some (.int .i64 17)) (some (.int .i64 (17 + (nz : Int)))) none).run Try.prog W = .ok (.slice ad nz (cap - 17)) W) ∧
            ∀ W, Row W g o bs → (convert 22 9 (.slice ad nz (cap - 17))).run Try.prog W = .ok (.string (mkS (pad bs 17 nz))) W :=
          ⟨_, fun W => slice17 g o bs.length cap nz (by omega) W, fun W hW => hW.strIf nz (cap - 17) cap (by omega) (by omega)⟩
        have b1 : ∀ ob, Below w.heap.size w (w.alloc ob) := fun ob => (Below.refl _ w).alloc (Nat.le_refl _) ob
        have b2 : ∀ ob ob', Below w.heap.size w ((w.alloc ob).alloc ob') := fun ob ob' => (b1 ob).alloc (by simp) ob'
        have hS : ∀ W, Below w.heap.size w W → W.cell? ⟨g, o + 6, none⟩ = some (.int .u8 (bs.getD 6 0)) ∧ (convert 22 9 (.slice ad nz (cap - 17))).run Try.prog W = .ok (.string (mkS (pad bs 17 nz))) W ∧ Row W g o bs := fun W hW =>
          ⟨(hrow.below hW hg) 6 (by omega), hconv W (hrow.below hW hg), hrow.below hW hg⟩
        have hR : ∀ W, Below w.heap.size w W → Row W g o bs := fun W hW => hrow.below hW hg
        generalize HKe : bs.getD 6 0 = K at hS
        generalize HSe : mkS (pad bs 17 nz) = S at hS
        have HE : Hid (readV bs = if noteOkB (un (pad bs 2 4)) K (un (pad bs 7 2)) nz = true then frV true (un (pad bs 2 4)) K (un (pad bs 7 2)) (wrap64 (un (pad bs 9 8))) S (17 + (nz : Nat)) else frNo) := by
          show readV bs = _
          unfold readV
          rw [HZ.out, HKe, Int.toNat_natCast, HSe, H78.out]
          have e : ((17 : Int) + (nz : Nat) ≤ bs.length) ↔ True := by simp; omega
          simp only [e, true_and]
        have HS : Hid (S.size = nz) := by
          show S.size = _
          rw [← HSe, mkS_size, pad_length]
        have kK : IntKind.i64.wrap K = K := IntWalk.i64_in _ (by have := hbs.getD 6; rw [HKe] at this; omega)
        have kT : IntKind.i64.wrap (un (pad bs 2 4)) = un (pad bs 2 4) := (IntWalk.i64_left _).trans (wrap_un bs hbs 2 4 (by omega))
        have kP : IntKind.i64.wrap (un (pad bs 7 2)) = un (pad bs 7 2) := (IntWalk.i64_left _).trans (wrap_un bs hbs 7 2 (by omega))
        have kN : IntKind.i64.wrap (un (pad bs 9 8)) = wrap64 (un (pad bs 9 8)) := IntWalk.i64_left _
        clear HKe HSe
        clear hrowa hrow hconv
        go_enter Try.func32, Try.ntmps32
        go_wp2
        go_region_held3 (fun w' => w'.cell? ⟨g, o + 6, none⟩ = some (.int .u8 K) ∧ (convert 22 9 (.slice ad nz (cap - 17))).run Try.prog w' = .ok (.string S) w' ∧ Row w' g o bs)
          (first | exact hS _ ((b1 _).drew) | exact hS _ ((b2 _ _).drew) | exact hS _ (b1 _) | exact hS _ (b2 _ _))
          (first
            | (go_at_call 66; refine (l1pad _ bs 2 4 _ ?_ hbs (by decide)).mono ?_; (exact Row.sub (hR _ (by first | exact (b1 _).drew | exact (b2 _ _).drew)) 2 4 _ (by omega) (by omega) (by omega)); rintro e w' ⟨rfl, rfl⟩)
            | (go_at_call 66; refine (l1pad _ bs 7 2 _ ?_ hbs (by decide)).mono ?_; (exact Row.sub (hR _ (by first | exact (b1 _).drew | exact (b2 _ _).drew)) 7 2 _ (by omega) (by omega) (by omega)); rintro e w' ⟨rfl, rfl⟩)
            | (go_at_call 66; refine (l1pad _ bs 9 8 _ ?_ hbs (by decide)).mono ?_; (exact Row.sub (hR _ (by first | exact (b1 _).drew | exact (b2 _ _).drew)) 9 8 _ (by omega) (by omega) (by omega)); rintro e w' ⟨rfl, rfl⟩))
        all_goals
          clear hS hR
          go_wp2_with fail
          refine (specNoteOk_any _ _ _ _ _ _ (by have := HS.out; unfold maxLen; omega)).mono ?_; rintro e w8 ⟨rfl, hb8⟩
          rw [HS.out]
          have B8 : Below w.heap.size w w8 := ((b2 _ _).drew).trans (hb8.mono (by simp; omega))
          have hres : w8.heap[w.heap.size]? = some (.cells #[.bool false, .int .i64 0, .int .i64 0, .int .i64 0, .int .i64 0, .string ByteArray.empty, .int .i64 0] 30 (0, 0)) := by
            rw [hb8.block _ (by simp; omega)]
            exact alloc2_fst w _ _
          have hnote : w8.heap[w.heap.size + 1]? = some (.cells #[.int .i64 (un (pad bs 2 4)), .int .i64 K, .int .i64 (un (pad bs 7 2)), .int .i64 (wrap64 (un (pad bs 9 8))), .string S] 26 (0, 0)) := by
            rw [hb8.block _ (by simp)]
            exact alloc2_snd w _ _
          obtain ⟨⟨r0, r1, r2, r3, r4, r5, r6⟩, fr⟩ := blk7 hres
          obtain ⟨⟨x0, x1, x2, x3, x4⟩, fx⟩ := blk5 hnote
          clear hres hnote hb8
          cases hok : noteOkB (un (pad bs 2 4)) K (un (pad bs 7 2)) nz
          · have HE' : Hid (readV bs = frNo) := by
              show readV bs = frNo
              rw [HE.out, if_neg (by rw [hok]; simp)]
            clear HE hok
            go_wp2
            refine bodyPost_ret (v := frNo) (by simp [results, Try.results32, go_sem, frNo, frV, r0, r1, r2, r3, r4, r5, r6]; rfl) rfl ⟨by rw [HE'.out], ?_⟩
            iterate 7 refine Below.setCell ?_ (by simp) _
            exact B8
          · have HE' : Hid (readV bs = frV true (un (pad bs 2 4)) K (un (pad bs 7 2)) (wrap64 (un (pad bs 9 8))) S (17 + (nz : Nat))) := by
              show readV bs = _
              rw [HE.out, if_pos hok]
            clear HE hok
            go_wp2
            refine bodyPost_ret (v := frV true (un (pad bs 2 4)) K (un (pad bs 7 2)) (wrap64 (un (pad bs 9 8))) S (17 + (nz : Nat))) (by simp [results, Try.results32, go_sem, frV, r0, r1, r2, r3, r4, r5, r6]) rfl ⟨by rw [HE'.out], ?_⟩
            iterate 7 refine Below.setCell ?_ (by simp) _
            exact B8
    · have HE : Hid (readV bs = frNo) := by
        show readV bs = frNo
        unfold readV
        rw [if_neg (fun h => h78 h.1)]
      generalize bs.getD 0 0 = x at h78 hc0
      have hq : (x != 78) = true := by simp [h78]
      clear h78 hg1 hc1
      go_enter Try.func32, Try.ntmps32
      go_wp2
      refine bodyPost_ret (v := frNo) (by simp [results, Try.results32, go_sem, frNo, frV]; rfl) rfl ⟨by rw [HE.out], (Below.refl _ _).alloc (Nat.le_refl _) _⟩
end Go.Proofs.Ytepagknkhlpicaa
