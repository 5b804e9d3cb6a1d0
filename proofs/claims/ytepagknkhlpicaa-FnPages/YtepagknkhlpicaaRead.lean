/-
  impl.ReadFrame.
-/
import Derived.Test.YtepagknkhlpicaaReader
namespace Go.Proofs.Ytepagknkhlpicaa
open Go.ChangeShapes Go.WideShapes Go.ChangeAt Go.RowKit
set_option linter.unusedVariables false
set_option linter.unusedSimpArgs false

/-- The answer of ReadFrame. -/
def frV (ok : Bool) (t k p n : Int) (s : ByteArray) (len : Int) : Value := .agg #[.bool ok, .int .i64 t, .int .i64 k, .int .i64 p, .int .i64 n, .string s, .int .i64 len]
def frNo : Value := frV false 0 0 0 0 ByteArray.empty 0

/-- What ReadFrame answers at some bytes. -/
def readV (bs : List Int) : Value :=
  if bs.getD 0 0 = 78 ∧ 17 + bs.getD 1 0 ≤ bs.length ∧ noteOkB (un (pad bs 2 4)) (bs.getD 6 0) (un (pad bs 7 2)) (bs.getD 1 0).toNat = true
  then frV true (un (pad bs 2 4)) (bs.getD 6 0) (un (pad bs 7 2)) (wrap64 (un (pad bs 9 8))) (mkS (pad bs 17 (bs.getD 1 0).toNat)) (17 + bs.getD 1 0)
  else frNo

theorem un_one (bs : List Int) (q : Nat) : un (pad bs q 1) = bs.getD q 0 := by simp [pad, un]
theorem wrap_un (bs : List Int) (hbs : Byt bs) (q k : Nat) (hk : k ≤ 4) : wrap64 (un (pad bs q k)) = un (pad bs q k) := by
  have h := un_bd _ (pad_byt hbs k q)
  rw [pad_length] at h
  have h1 : (2 : Nat) ^ (8 * k) ≤ 2 ^ 32 := Nat.pow_le_pow_right (by omega) (by omega)
  have h2 : ((2 : Int) ^ (8 * k)) = (((2 : Nat) ^ (8 * k) : Nat) : Int) := by simp
  exact IntWalk.wrap64_in _ (by omega)

/-- The answer's block. -/
theorem blk7 {w : World} {b : Nat} {x0 x1 x2 x3 x4 x5 x6 : Value} {T : TypeId} (h : w.heap[b]? = some (.cells #[x0, x1, x2, x3, x4, x5, x6] T (0, 0))) :
    (w.cell? ⟨b, 0, none⟩ = some x0 ∧ w.cell? ⟨b, 1, none⟩ = some x1 ∧ w.cell? ⟨b, 2, none⟩ = some x2 ∧ w.cell? ⟨b, 3, none⟩ = some x3 ∧ w.cell? ⟨b, 4, none⟩ = some x4 ∧ w.cell? ⟨b, 5, none⟩ = some x5 ∧ w.cell? ⟨b, 6, none⟩ = some x6) ∧ ∀ j, w.frozen? ⟨b, j, none⟩ = false := by
  refine ⟨⟨?_, ?_, ?_, ?_, ?_, ?_, ?_⟩, fun j => Joins.unfrozen_of_block h j⟩ <;> (rw [Joins.cell_of_block h]; rfl)
theorem blk5 {w : World} {b : Nat} {x0 x1 x2 x3 x4 : Value} {T : TypeId} (h : w.heap[b]? = some (.cells #[x0, x1, x2, x3, x4] T (0, 0))) :
    (w.cell? ⟨b, 0, none⟩ = some x0 ∧ w.cell? ⟨b, 1, none⟩ = some x1 ∧ w.cell? ⟨b, 2, none⟩ = some x2 ∧ w.cell? ⟨b, 3, none⟩ = some x3 ∧ w.cell? ⟨b, 4, none⟩ = some x4) ∧ ∀ j, w.frozen? ⟨b, j, none⟩ = false := by
  refine ⟨⟨?_, ?_, ?_, ?_, ?_⟩, fun j => Joins.unfrozen_of_block h j⟩ <;> (rw [Joins.cell_of_block h]; rfl)

/-- The state of ReadFrame: the reader, the answer's block, the note's. -/
structure St (w0 w : World) (v : Value) (bs : List Int) (q NB : Nat) (X : Array Value) : Prop where
  rd : Rd w (w0.heap.size + 1) v bs q
  res : w.heap[w0.heap.size]? = some (.cells #[.bool false, .int .i64 0, .int .i64 0, .int .i64 0, .int .i64 0, .string ByteArray.empty, .int .i64 0] 30 (0, 0))
  note : w.heap[NB]? = some (.cells X 26 (0, 0))
  below : Below w0.heap.size w0 w
  far : w0.heap.size + 2 ≤ NB
  old : ∀ k, v.ownBlock = some k → k < w0.heap.size

theorem St.take {w0 w w' : World} {v : Value} {bs : List Int} {q q' NB : Nat} {X : Array Value} (h : St w0 w v bs q NB X) (hb : Kp (fun k => k = w0.heap.size + 1) w w') (hr : Rd w' (w0.heap.size + 1) v bs q') : St w0 w' v bs q' NB X := by
  have h1 := lt_of_block h.res
  have h2 := lt_of_block h.note
  have h3 := h.far
  exact ⟨hr, by rw [hb.block _ h1 (by omega)]; exact h.res, by rw [hb.block _ h2 (by omega)]; exact h.note, h.below.trans (hb.below (by omega) (fun k hk => by omega)), h.far, h.old⟩
theorem St.set {w0 w : World} {v : Value} {bs : List Int} {q NB : Nat} {X : Array Value} (h : St w0 w v bs q NB X) (i : Nat) (y : Value) : St w0 (w.setCell ⟨NB, i, none⟩ y) v bs q NB (X.setIfInBounds i y) := by
  have h2 := lt_of_block h.note
  have h3 := h.far
  have hbg : But (fun k => k = NB) w (w.setCell ⟨NB, i, none⟩ y) := ⟨rfl, rfl, rfl, by simp [World.setCell], fun k hk => by rw [Below.heap_setCell _ _ _ _ hk]⟩
  refine ⟨h.rd.kp hbg.kp (fun k hk => ⟨?_, ?_⟩) (by omega), by rw [hbg.block _ (by omega)]; exact h.res, Joins.block_setCell h.note _, h.below.setCell (by simp; omega) _, h.far, h.old⟩
  · have := h.old k hk
    have := h.below.size
    omega
  · have := h.old k hk
    omega

set_option maxHeartbeats 2000000 in
theorem implRead_any (v : Value) (bs : List Int) (w : World) (hr : Reads w v bs) (hbs : Byt bs) (hl : bs.length ≤ 100000000) (hv : ∀ k, v.ownBlock = some k → k < w.heap.size) :
    Calls Try.prog 14 #[v] w fun e w' => e = .returned (readV bs) ∧ Below w.heap.size w w' := by
  have hform : ∃ a len cap, v = .slice a len cap := by obtain ⟨a, cap, e, _⟩ := hr; exact ⟨a, _, cap, e⟩
  obtain ⟨a, len, cap, rfl⟩ := hform
  have rd0 : Rd ((w.alloc (.cells #[.bool false, .int .i64 0, .int .i64 0, .int .i64 0, .int .i64 0, .string ByteArray.empty, .int .i64 0] 30)).alloc (.cells #[.slice a len cap, .int .i64 0, .bool false] 79)) (w.heap.size + 1) (.slice a len cap) bs 0 := by
    refine ⟨?_, ?_, by omega, fun k hk => by have := hv k hk; omega⟩
    · have := heap_alloc_new (w.alloc (.cells #[.bool false, .int .i64 0, .int .i64 0, .int .i64 0, .int .i64 0, .string ByteArray.empty, .int .i64 0] 30)) (.cells #[.slice a len cap, .int .i64 0, .bool false] 79)
      simpa using this
    · exact hr.below (((Below.refl _ w).alloc (Nat.le_refl _) _).alloc (by simp) _) hv
  have hg0 := hbs.getD 0
  have HR : Hid (Reads w (.slice a len cap) bs) := hr
  clear hr
  by_cases h78 : bs.getD 0 0 = 78
  · have hg1 := hbs.getD 1
    generalize hz : bs.getD 1 0 = z at hg1
    obtain ⟨nz, hnz⟩ := Int.eq_ofNat_of_zero_le hg1.1
    have hnz' : nz < 256 := by omega
    have HZ : Hid (bs.getD 1 0 = (nz : Int)) := by rw [← hnz]; exact hz
    clear hz hg1 hnz
    go_enter Try.func14, Try.ntmps14
    go_wp2_with fail
    refine (take_rd _ _ bs 0 _ rd0 (by omega)).mono ?_; rintro e w1 ⟨rfl, hw1, hb1⟩
    rw [h78]
    go_wp2_with fail
    refine (takeInt _ _ bs 1 1 _ hw1 hbs (by omega) (by omega)).mono ?_; rintro e w2 ⟨rfl, hw2, hb2⟩
    rw [wrap_un bs hbs 1 1 (by omega), un_one, HZ.out]
    have s0 : St w (w2.alloc (.cells #[.int .i64 0, .int .i64 0, .int .i64 0, .int .i64 0, .string ByteArray.empty] 26)) (.slice a len cap) bs 2 w2.heap.size #[.int .i64 0, .int .i64 0, .int .i64 0, .int .i64 0, .string ByteArray.empty] := by
      have z1 := hb1.size
      have z2 := hb2.size
      simp at z1
      have bz := (Below.refl _ w2).alloc (Nat.le_refl _) (.cells #[.int .i64 0, .int .i64 0, .int .i64 0, .int .i64 0, .string ByteArray.empty] 26)
      refine ⟨hw2.kp (S := fun _ => False) (Below.kp bz) (fun k hk => ⟨by have := hv k hk; omega, id⟩) id, ?_, ?_, ?_, by omega, hv⟩
      · rw [bz.block _ (by omega), hb2.block _ (by omega), hb1.block _ (by omega), Below.heap_alloc _ _ _ (by simp)]
        simpa using heap_alloc_new w (.cells #[.bool false, .int .i64 0, .int .i64 0, .int .i64 0, .int .i64 0, .string ByteArray.empty, .int .i64 0] 30)
      · simpa using heap_alloc_new w2 (.cells #[.int .i64 0, .int .i64 0, .int .i64 0, .int .i64 0, .string ByteArray.empty] 26)
      · exact (((((Below.refl _ w).alloc (Nat.le_refl _) _).alloc (by simp) _).trans (hb1.below (fun k hk => by omega))).trans (hb2.below (fun k hk => by omega))).trans (bz.mono (by omega))
    clear hb1 hb2 hw1 hw2 rd0
    go_wp2_with fail
    refine (takeInt _ _ bs 2 4 _ s0.rd hbs (by omega) (by omega)).mono ?_; rintro e w3 ⟨rfl, hw3, hb3⟩
    rw [wrap_un bs hbs 2 4 (by omega)]
    have s1 := s0.take hb3.kp hw3
    obtain ⟨⟨c0, c1, c2, c3, c4⟩, fz⟩ := blk5 s1.note
    go_wp2_with fail
    have s2 : St w (w3.setCell ⟨w2.heap.size, 0, none⟩ (.int .i64 (un (pad bs 2 4)))) (.slice a len cap) bs 6 w2.heap.size #[.int .i64 (un (pad bs 2 4)), .int .i64 0, .int .i64 0, .int .i64 0, .string ByteArray.empty] := by simpa using s1.set 0 (.int .i64 (un (pad bs 2 4)))
    clear s0 s1 hb3 hw3 c0 c1 c2 c3 c4 fz
    refine (takeInt _ _ bs 6 1 _ s2.rd hbs (by omega) (by omega)).mono ?_; rintro e w4 ⟨rfl, hw4, hb4⟩
    rw [wrap_un bs hbs 6 1 (by omega), un_one]
    have s3 := s2.take hb4.kp hw4
    obtain ⟨⟨c0, c1, c2, c3, c4⟩, fz⟩ := blk5 s3.note
    have HK : Hid (∃ x, x = bs.getD 6 0) := ⟨_, rfl⟩
    generalize hK : bs.getD 6 0 = K
    have HKe : Hid (bs.getD 6 0 = K) := hK
    clear hK
    go_wp2_with fail
    have s4 : St w (w4.setCell ⟨w2.heap.size, 1, none⟩ (.int .i64 K)) (.slice a len cap) bs 7 w2.heap.size #[.int .i64 (un (pad bs 2 4)), .int .i64 K, .int .i64 0, .int .i64 0, .string ByteArray.empty] := by simpa using s3.set 1 (.int .i64 K)
    clear s2 s3 hb4 hw4 c0 c1 c2 c3 c4 fz
    refine (takeInt _ _ bs 7 2 _ s4.rd hbs (by omega) (by omega)).mono ?_; rintro e w5 ⟨rfl, hw5, hb5⟩
    rw [wrap_un bs hbs 7 2 (by omega)]
    have s5 := s4.take hb5.kp hw5
    obtain ⟨⟨c0, c1, c2, c3, c4⟩, fz⟩ := blk5 s5.note
    go_wp2_with fail
    have s6 : St w (w5.setCell ⟨w2.heap.size, 2, none⟩ (.int .i64 (un (pad bs 7 2)))) (.slice a len cap) bs 9 w2.heap.size #[.int .i64 (un (pad bs 2 4)), .int .i64 K, .int .i64 (un (pad bs 7 2)), .int .i64 0, .string ByteArray.empty] := by simpa using s5.set 2 (.int .i64 (un (pad bs 7 2)))
    clear s4 s5 hb5 hw5 c0 c1 c2 c3 c4 fz
    refine (takeInt64 _ _ bs 9 8 _ s6.rd hbs (by omega) (by omega)).mono ?_; rintro e w6 ⟨rfl, hw6, hb6⟩
    have s7 := s6.take hb6.kp hw6
    obtain ⟨⟨c0, c1, c2, c3, c4⟩, fz⟩ := blk5 s7.note
    generalize hN : wrap64 (un (pad bs 9 8)) = N
    have HN : Hid (wrap64 (un (pad bs 9 8)) = N) := hN
    clear hN
    go_wp2_with fail
    have s8 : St w (w6.setCell ⟨w2.heap.size, 3, none⟩ (.int .i64 N)) (.slice a len cap) bs 17 w2.heap.size #[.int .i64 (un (pad bs 2 4)), .int .i64 K, .int .i64 (un (pad bs 7 2)), .int .i64 N, .string ByteArray.empty] := by simpa using s7.set 3 (.int .i64 N)
    clear s6 s7 hb6 hw6 c0 c1 c2 c3 c4 fz
    have hv8 : ∀ k, (Value.slice a len cap).ownBlock = some k → k < (w6.setCell ⟨w2.heap.size, 3, none⟩ (.int .i64 N)).heap.size := fun k hk => by have := hv k hk; have := s8.below.size; omega
    refine (takeText_rd _ _ bs 17 nz _ s8.rd (by omega) (by omega) hv8).mono ?_; rintro e w7 ⟨rfl, hw7, hb7⟩
    have s9 := s8.take hb7 hw7
    obtain ⟨⟨c0, c1, c2, c3, c4⟩, fz⟩ := blk5 s9.note
    have hS : (mkS (pad bs 17 nz)).size = nz := by rw [mkS_size, pad_length]
    have HS : Hid ((mkS (pad bs 17 nz)).size = nz) := hS
    clear hS s8 hv8 hb7 hw7
    generalize hSe : mkS (pad bs 17 nz) = S at HS
    have HSe : Hid (mkS (pad bs 17 nz) = S) := hSe
    clear hSe
    have q1 : w7.cell? ⟨w.heap.size + 1, 1, none⟩ = some (.int .i64 ((min (17 + nz) bs.length : Nat) : Int)) := by rw [Joins.cell_of_block s9.rd.1]; rfl
    have q2 : w7.cell? ⟨w.heap.size + 1, 2, none⟩ = some (.bool (decide (bs.length < 17 + nz))) := by rw [Joins.cell_of_block s9.rd.1]; rfl
    have hfar := s9.far
    have hz2 : w2.heap.size ≠ w.heap.size := by omega
    have hz3 : w2.heap.size ≠ w.heap.size + 1 := by omega
    have hz4 : w.heap.size ≠ w2.heap.size := by omega
    have hz5 : w.heap.size + 1 ≠ w2.heap.size := by omega
    obtain ⟨⟨r0, r1, r2, r3, r4, r5, r6⟩, fr⟩ := blk7 s9.res
    have B9 := s9.below
    have HE : Hid (readV bs = if 17 + nz ≤ bs.length ∧ noteOkB (un (pad bs 2 4)) K (un (pad bs 7 2)) nz = true then frV true (un (pad bs 2 4)) K (un (pad bs 7 2)) N S (17 + nz) else frNo) := by
      show readV bs = _
      unfold readV
      rw [HZ.out, HKe.out, HN.out, Int.toNat_natCast, HSe.out, h78]
      have e : ((17 : Int) + nz ≤ bs.length) ↔ 17 + nz ≤ bs.length := by omega
      simp only [e, true_and]
    have n9 := s9.note
    by_cases hsh : bs.length < 17 + nz
    · have hd : decide (bs.length < 17 + nz) = true := by simpa using hsh
      rw [hd] at q2
      clear q1 hd n9 s9
      have HE' : Hid (readV bs = frNo) := by
        show readV bs = frNo
        rw [HE.out, if_neg (by omega)]
      clear HE
      go_wp2
      refine bodyPost_ret (v := frNo) (by simp [results, Try.results14, go_sem, frNo, frV, r0, r1, r2, r3, r4, r5, r6, hz4]; rfl) rfl ⟨by rw [HE'.out], ?_⟩
      iterate 7 refine Below.setCell ?_ (by simp) _
      exact B9.setCell (by simp; omega) _
    · have hd : decide (bs.length < 17 + nz) = false := by simpa using hsh
      rw [hd] at q2
      have hm : min (17 + nz) bs.length = 17 + nz := by omega
      rw [hm] at q1
      clear hd hm
      go_wp2_with fail
      have s10 : St w (w7.setCell ⟨w2.heap.size, 4, none⟩ (.string S)) (.slice a len cap) bs (17 + nz) w2.heap.size #[.int .i64 (un (pad bs 2 4)), .int .i64 K, .int .i64 (un (pad bs 7 2)), .int .i64 N, .string S] := by simpa using s9.set 4 (.string S)
      refine (implNoteOk_any _ _ _ _ _ _ (by have := HS.out; unfold maxLen; omega)).mono ?_; rintro e w8 ⟨rfl, hb8⟩
      rw [HS.out]
      have s11 := s10.take (Below.kp hb8) (s10.rd.kp (S := fun _ => False) (Below.kp hb8) (fun k hk => ⟨by have := hv k hk; have := s10.below.size; omega, id⟩) id)
      clear s9 s10 n9 c0 c1 c2 c3 c4 fz r0 r1 r2 r3 r4 r5 r6 fr q1 q2 hb8
      obtain ⟨⟨c0, c1, c2, c3, c4⟩, fz⟩ := blk5 s11.note
      obtain ⟨⟨r0, r1, r2, r3, r4, r5, r6⟩, fr⟩ := blk7 s11.res
      have q1 : w8.cell? ⟨w.heap.size + 1, 1, none⟩ = some (.int .i64 ((min (17 + nz) bs.length : Nat) : Int)) := by rw [Joins.cell_of_block s11.rd.1]; rfl
      have hm : min (17 + nz) bs.length = 17 + nz := by omega
      rw [hm] at q1
      have B11 := s11.below
      clear hm s11
      cases hok : noteOkB (un (pad bs 2 4)) K (un (pad bs 7 2)) nz with
      | false =>
        have HE' : Hid (readV bs = frNo) := by
          show readV bs = frNo
          rw [HE.out, if_neg (by rw [hok]; simp)]
        clear HE hok
        go_wp2
        refine bodyPost_ret (v := frNo) (by simp [results, Try.results14, go_sem, frNo, frV, r0, r1, r2, r3, r4, r5, r6, hz4]; rfl) rfl ⟨by rw [HE'.out], ?_⟩
        iterate 7 refine Below.setCell ?_ (by simp) _
        exact B11
      | true =>
        have HE' : Hid (readV bs = frV true (un (pad bs 2 4)) K (un (pad bs 7 2)) N S (17 + nz)) := by
          show readV bs = _
          rw [HE.out, if_pos ⟨by omega, hok⟩]
        clear HE hok
        go_wp2
        refine bodyPost_ret (v := frV true (un (pad bs 2 4)) K (un (pad bs 7 2)) N S (17 + nz)) (by simp [results, Try.results14, go_sem, frV, r0, r1, r2, r3, r4, r5, r6, hz4]) rfl ⟨by rw [HE'.out], ?_⟩
        iterate 7 refine Below.setCell ?_ (by simp) _
        exact B11
  · have hno : readV bs = frNo := by unfold readV; rw [if_neg (fun h => h78 h.1)]
    rw [hno]
    generalize hx : bs.getD 0 0 = x at h78
    have HX : Hid (bs.getD 0 0 = x) := hx
    have hq : (x != 78) = true := by simp [h78]
    clear hx h78 hg0 hno
    go_enter Try.func14, Try.ntmps14
    go_wp2_with fail
    refine (take_rd _ _ bs 0 _ rd0 (by omega)).mono ?_; rintro e w1 ⟨rfl, hw1, hb1⟩
    rw [HX.out]
    have hres : w1.heap[w.heap.size]? = some (.cells #[.bool false, .int .i64 0, .int .i64 0, .int .i64 0, .int .i64 0, .string ByteArray.empty, .int .i64 0] 30 (0, 0)) := by
      rw [hb1.block _ (by omega), Below.heap_alloc _ _ _ (by simp)]
      simpa using heap_alloc_new w (.cells #[.bool false, .int .i64 0, .int .i64 0, .int .i64 0, .int .i64 0, .string ByteArray.empty, .int .i64 0] 30)
    obtain ⟨⟨r0, r1, r2, r3, r4, r5, r6⟩, fz⟩ := blk7 hres
    clear hres
    go_wp2
    refine bodyPost_ret (v := frNo) (by simp [results, Try.results14, go_sem, frNo, frV, r0, r1, r2, r3, r4, r5, r6]; rfl) rfl ⟨rfl, ?_⟩
    iterate 7 refine Below.setCell ?_ (by simp) _
    exact (((Below.refl _ w).alloc (Nat.le_refl _) _).alloc (by simp) _).trans (hb1.below (fun k hk => by omega))
end Go.Proofs.Ytepagknkhlpicaa
