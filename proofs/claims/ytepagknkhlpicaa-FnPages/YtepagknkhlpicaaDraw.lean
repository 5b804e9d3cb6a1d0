/-
  What draws choices from bytes: l5Cur's next, pick, whole, text, note.
-/
import Derived.Test.YtepagknkhlpicaaReader
namespace Go.Proofs.Ytepagknkhlpicaa
open Go.ChangeShapes Go.WideShapes Go.ChangeAt Go.RowKit
set_option linter.unusedVariables false
set_option linter.unusedSimpArgs false

/-- A drawer at block B over the bytes bs of v; it was asked at most M times. -/
def Cur (w : World) (B : Nat) (v : Value) (bs : List Int) (M : Nat) : Prop :=
  ∃ (at' : Nat) (sd : Int), w.heap[B]? = some (.cells #[v, .int .i64 at', .int .u64 sd] 66 (0, 0)) ∧ at' ≤ M ∧ Reads w v bs ∧ Byt bs ∧ bs.length ≤ 1000000000 ∧ ∀ k, v.ownBlock = some k → bs.length = 0 ∨ (k < w.heap.size ∧ k ≠ B)

theorem Reads.kp' {w w' : World} {S : Nat → Prop} {v : Value} {bs : List Int} (h : Reads w v bs) (hb : Kp S w w') (hv : ∀ k, v.ownBlock = some k → bs.length = 0 ∨ (k < w.heap.size ∧ ¬ S k)) : Reads w' v bs := by
  obtain ⟨a, cap, rfl, h1, h2, h3⟩ := h
  refine ⟨a, cap, rfl, h1, h2, fun i hi => ?_⟩
  obtain ⟨b, off, rfl, hc⟩ := h3 i hi
  have hb' : b < w.heap.size ∧ ¬ S b := by rcases hv b rfl with h | h; omega; exact h
  exact ⟨b, off, rfl, by rw [World.cell?_of_block (hb.block b hb'.1 hb'.2)]; exact hc⟩

theorem Cur.mono {w : World} {B : Nat} {v : Value} {bs : List Int} {M M' : Nat} (h : Cur w B v bs M) (hM : M ≤ M') : Cur w B v bs M' := by
  obtain ⟨a, s, h1, h2, h3⟩ := h
  exact ⟨a, s, h1, by omega, h3⟩
theorem Cur.lt {w : World} {B : Nat} {v : Value} {bs : List Int} {M : Nat} (h : Cur w B v bs M) : B < w.heap.size := by
  obtain ⟨a, s, h1, _⟩ := h
  exact lt_of_block h1
theorem Cur.kp {w w' : World} {S : Nat → Prop} {B : Nat} {v : Value} {bs : List Int} {M : Nat} (h : Cur w B v bs M) (hb : Kp S w w') (hS : ∀ k, S k → w.heap.size ≤ k) : Cur w' B v bs M := by
  obtain ⟨a, s, h1, h2, h3, h4, h5, h6⟩ := h
  have hlt := lt_of_block h1
  have hsz := hb.size
  refine ⟨a, s, by rw [hb.block B hlt (fun e => by have := hS B e; omega)]; exact h1, h2, h3.kp' hb (fun k hk => ?_), h4, h5, fun k hk => ?_⟩
  · rcases h6 k hk with h | h
    · exact .inl h
    · exact .inr ⟨h.1, fun e => by have := hS k e; omega⟩
  · rcases h6 k hk with h | h
    · exact .inl h
    · exact .inr ⟨by omega, h.2⟩

theorem and255 (q : Int) : ∃ x : Nat, wrap64 (bits .and .u64 (IntKind.u64.wrap q / 1099511627776) 255) = x ∧ x ≤ 255 := by
  have h : 0 ≤ IntKind.u64.wrap q ∧ IntKind.u64.wrap q < 18446744073709551616 := by rw [IntKind.wrap_u64]; omega
  have e := u64_and (IntKind.u64.wrap q / 1099511627776) 255 (by omega) (by omega) (by omega) (by omega)
  have hle : ((IntKind.u64.wrap q / 1099511627776).toNat &&& (255 : Int).toNat) ≤ 255 := Nat.and_le_right
  refine ⟨(IntKind.u64.wrap q / 1099511627776).toNat &&& (255 : Int).toNat, ?_, hle⟩
  rw [e]
  exact IntWalk.wrap64_in _ (by omega)
theorem wf64 (x : Int) (h1 : -9223372036854775808 ≤ x) (h2 : x ≤ 9223372036854775807) : (Lit.int .i64 x).wf = true := by
  simp [Lit.wf, IntKind.min, IntKind.max, IntKind.signed, IntKind.bits]
  omega
theorem wf64_out {x : Int} (h : (Lit.int .i64 x).wf = true) : -9223372036854775808 ≤ x ∧ x ≤ 9223372036854775807 := by
  simp [Lit.wf, IntKind.min, IntKind.max, IntKind.signed, IntKind.bits] at h
  omega

set_option maxHeartbeats 1000000 in
theorem next_cur (B : Nat) (v : Value) (bs : List Int) (M : Nat) (w : World) (h : Cur w B v bs M) (hM : M ≤ 1000000000) :
    Calls Try.prog 75 #[.pointer (some ⟨B, 0, none⟩)] w fun e w' => ∃ x : Nat, e = .returned (.int .i64 x) ∧ x ≤ 255 ∧ Cur w' B v bs (M + 1) ∧ But (fun k => k = B) w w' := by
  obtain ⟨at', sd, h1, h2, hr, hby, hl, hv⟩ := h
  have HR : Hid (Reads w v bs) := hr
  obtain ⟨a, cap, rfl, hc, hm, hx⟩ := hr
  unfold maxLen at hm
  have c0 : w.cell? ⟨B, 0, none⟩ = some (.slice a bs.length cap) := by rw [Joins.cell_of_block h1]; rfl
  have c1 : w.cell? ⟨B, 1, none⟩ = some (.int .i64 at') := by rw [Joins.cell_of_block h1]; rfl
  have c2 : w.cell? ⟨B, 2, none⟩ = some (.int .u64 sd) := by rw [Joins.cell_of_block h1]; rfl
  have fz := fun j => Joins.unfrozen_of_block h1 j
  have fin : ∀ (m : Nat) (z : Value), (∃ sd', z = .int .u64 sd') → Cur (((w.drewN m).setCell ⟨B, 1, none⟩ (.int .i64 ((at' : Int) + 1))).setCell ⟨B, 2, none⟩ z) B (.slice a bs.length cap) bs (M + 1) ∧ But (fun k => k = B) w (((w.drewN m).setCell ⟨B, 1, none⟩ (.int .i64 ((at' : Int) + 1))).setCell ⟨B, 2, none⟩ z) := by
    rintro m z ⟨sd', rfl⟩
    have hbut : But (fun k => k = B) w (((w.drewN m).setCell ⟨B, 1, none⟩ (.int .i64 ((at' : Int) + 1))).setCell ⟨B, 2, none⟩ (.int .u64 sd')) :=
      ⟨rfl, rfl, rfl, by simp [World.setCell], fun k hk => by rw [Below.heap_setCell _ _ _ _ hk, Below.heap_setCell _ _ _ _ hk]; rfl⟩
    refine ⟨⟨at' + 1, sd', ?_, by omega, HR.out.kp' hbut.kp (fun k hk => ?_), hby, hl, fun k hk => ?_⟩, hbut⟩
    · have e := Joins.block_setCell (w := w.drewN m) (i := 1) h1 (.int .i64 ((at' : Int) + 1))
      rw [Joins.block_setCell e]
      simp
    · rcases hv k hk with h | h
      · exact .inl h
      · exact .inr h
    · rcases hv k hk with h | h
      · exact .inl h
      · exact .inr ⟨by simpa [World.setCell] using h.1, h.2⟩
  have fin2 : ∀ (m : Nat) (z : Value), (∃ sd', z = .int .u64 sd') → Cur (((w.drewN m).setCell ⟨B, 2, none⟩ z).setCell ⟨B, 1, none⟩ (.int .i64 ((at' : Int) + 1))) B (.slice a bs.length cap) bs (M + 1) ∧ But (fun k => k = B) w (((w.drewN m).setCell ⟨B, 2, none⟩ z).setCell ⟨B, 1, none⟩ (.int .i64 ((at' : Int) + 1))) := by
    rintro m z ⟨sd', rfl⟩
    have hbut : But (fun k => k = B) w (((w.drewN m).setCell ⟨B, 2, none⟩ (.int .u64 sd')).setCell ⟨B, 1, none⟩ (.int .i64 ((at' : Int) + 1))) :=
      ⟨rfl, rfl, rfl, by simp [World.setCell], fun k hk => by rw [Below.heap_setCell _ _ _ _ hk, Below.heap_setCell _ _ _ _ hk]; rfl⟩
    refine ⟨⟨at' + 1, sd', ?_, by omega, HR.out.kp' hbut.kp (fun k hk => ?_), hby, hl, fun k hk => ?_⟩, hbut⟩
    · have e := Joins.block_setCell (w := w.drewN m) (i := 2) h1 (.int .u64 sd')
      rw [Joins.block_setCell e]
      simp
    · rcases hv k hk with h | h
      · exact .inl h
      · exact .inr h
    · rcases hv k hk with h | h
      · exact .inl h
      · exact .inr ⟨by simpa [World.setCell] using h.1, h.2⟩
  have FIN : Hid _ := fin
  have FIN2 : Hid _ := fin2
  clear fin fin2
  by_cases hlt : at' < bs.length
  · obtain ⟨g, o, rfl, hcell⟩ := hx at' hlt
    have hgB : g ≠ B := by rcases hv g rfl with h | h; omega; exact h.2
    have hgB' : B ≠ g := hgB.symm
    have hyb := hby.getD at'
    generalize bs.getD at' 0 = y at hcell hyb
    obtain ⟨y, rfl⟩ := Int.eq_ofNat_of_zero_le hyb.1
    have hy255 : y ≤ 255 := by omega
    clear hx hv HR h1 hyb
    go_enter Try.func75, Try.ntmps75
    go_wp2
    go_quiet (fail)
    go_wp2
    go_quiet (fail)
    go_wp2
    go_ret
    refine ⟨y, rfl, hy255, ?_⟩
    exact FIN.out _ _ ⟨_, rfl⟩
  · clear hx hv HR h1
    go_enter Try.func75, Try.ntmps75
    go_wp2
    go_quiet (fail)
    go_wp2
    go_ret
    obtain ⟨x, e1, e2⟩ := and255 (IntKind.u64.wrap (sd * 6364136223846793005) + 1442695040888963407)
    refine ⟨x, ?_, e2, ?_⟩
    · rw [← e1]; rfl
    · exact FIN2.out _ _ ⟨_, rfl⟩

set_option maxHeartbeats 1000000 in
theorem pick_cur (B : Nat) (v : Value) (bs : List Int) (M n : Nat) (w : World) (h : Cur w B v bs M) (hM : M ≤ 100000000) (hn : 2 ≤ n) (hn' : n ≤ 100000) :
    Calls Try.prog 40 #[.pointer (some ⟨B, 0, none⟩), .int .i64 n] w fun e w' => ∃ x : Nat, e = .returned (.int .i64 x) ∧ x < n ∧ Cur w' B v bs (M + 2) ∧ But (fun k => k = B) w w' := by
  have hne : ((n : Int) == 0) = false := by simp; omega
  by_cases h200 : 200 < n
  · go_enter Try.func40, Try.ntmps40
    go_wp2_with fail
    refine (next_cur B v bs M _ h (by omega)).mono ?_; rintro e w1 ⟨x, rfl, hx, h1, b1⟩
    go_wp2_with fail
    refine (next_cur B v bs _ _ h1 (by omega)).mono ?_; rintro e w2 ⟨y, rfl, hy, h2, b2⟩
    go_wp2
    go_ret
    refine ⟨((x * 256 + y) % n), ?_, Nat.mod_lt _ (by omega), h2, b1.trans b2⟩
    rfl
  · go_enter Try.func40, Try.ntmps40
    go_wp2_with fail
    refine (next_cur B v bs M _ h (by omega)).mono ?_; rintro e w1 ⟨x, rfl, hx, h1, b1⟩
    go_wp2
    go_ret
    refine ⟨x % n, ?_, Nat.mod_lt _ (by omega), h1.mono (by omega), b1⟩
    rfl

set_option maxHeartbeats 1000000 in
theorem whole_cur (B : Nat) (v : Value) (bs : List Int) (M : Nat) (w : World) (h : Cur w B v bs M) (hM : M ≤ 10000000) :
    Calls Try.prog 77 #[.pointer (some ⟨B, 0, none⟩)] w fun e w' => ∃ x : Int, e = .returned (.int .i64 x) ∧ (Lit.int .i64 x).wf = true ∧ Cur w' B v bs (M + 4) ∧ But (fun k => k = B) w w' := by
  go_enter Try.func77, Try.ntmps77
  go_wp2_with fail
  refine (pick_cur B v bs M 6 _ h (by omega) (by omega) (by omega)).mono ?_; rintro e w1 ⟨x, rfl, hx, h1, b1⟩
  by_cases e0 : x = 0
  · subst e0
    go_wp2_with fail
    refine (pick_cur B v bs _ 3 _ h1 (by omega) (by omega) (by omega)).mono ?_; rintro e w2 ⟨y, rfl, hy, h2, b2⟩
    go_wp2
    go_ret
    exact ⟨_, rfl, wf64 _ (by omega) (by omega), h2, b1.trans b2⟩
  · by_cases e1 : x = 1
    · subst e1
      go_wp2_with fail
      refine (pick_cur B v bs _ 3 _ h1 (by omega) (by omega) (by omega)).mono ?_; rintro e w2 ⟨y, rfl, hy, h2, b2⟩
      go_wp2
      go_ret
      exact ⟨_, rfl, wf64 _ (by omega) (by omega), h2, b1.trans b2⟩
    · by_cases e2 : x = 2
      · subst e2
        go_wp2_with fail
        refine (pick_cur B v bs _ 70000 _ h1 (by omega) (by omega) (by omega)).mono ?_; rintro e w2 ⟨y, rfl, hy, h2, b2⟩
        go_wp2
        go_ret
        exact ⟨_, rfl, wf64 _ (by omega) (by omega), h2, b1.trans b2⟩
      · have d0 : ((x : Int) == 0) = false := by simp; omega
        have d1 : ((x : Int) == 1) = false := by simp; omega
        have d2 : ((x : Int) == 2) = false := by simp; omega
        clear e0 e1 e2
        go_wp2_with fail
        refine (pick_cur B v bs _ 12 _ h1 (by omega) (by omega) (by omega)).mono ?_; rintro e w2 ⟨y, rfl, hy, h2, b2⟩
        go_wp2
        go_ret
        exact ⟨_, rfl, wf64 _ (by omega) (by omega), h2, b1.trans b2⟩
end Go.Proofs.Ytepagknkhlpicaa
