/-
  The law FnFrames.
-/
import Derived.Test.YtepagknkhlpicaaBack
import Derived.Test.YtepagknkhlpicaaXReadFrame
import Derived.Test.YtepagknkhlpicaaWBytes
namespace Go.Proofs.Ytepagknkhlpicaa
open Go.ChangeShapes Go.WideShapes Go.ChangeAt Go.RowKit
open Go.ChangeMaps (open_string shut_string)
set_option linter.unusedVariables false
set_option linter.unusedSimpArgs false

/-- All frames, one after the other. -/
def frames : List ND → List Int
  | [] => []
  | d :: r => frameL d.t d.k d.p d.n d.s ++ frames r
theorem frames_append : ∀ a b : List ND, frames (a ++ b) = frames a ++ frames b
  | [], b => rfl
  | d :: r, b => by simp [frames, frames_append r b]
theorem frames_length (l : List ND) (h : ∀ d ∈ l, d.good) : (frames l).length ≤ 217 * l.length := by
  induction l with
  | nil => simp [frames]
  | cons d r ih =>
    have h1 := (h d (by simp)).s1
    have h2 := ih (fun x hx => h x (by simp [hx]))
    simp [frames, frameL_length]
    omega
theorem frames_byt (l : List ND) (h : ∀ d ∈ l, d.good) : Byt (frames l) := by
  induction l with
  | nil => intro b hb; simp [frames] at hb
  | cons d r ih =>
    intro b hb
    simp only [frames, List.mem_append] at hb
    rcases hb with hb | hb
    · exact frame_byt d (h d (by simp)) b hb
    · exact ih (fun x hx => h x (by simp [hx])) b hb

theorem Reads.take {w : World} {a : Option Addr} {len cap : Nat} {bs : List Int} (h : Reads w (.slice a len cap) bs) (n : Nat) (hn : n ≤ bs.length) : Reads w (.slice a n cap) (bs.take n) := by
  obtain ⟨a', cap', e, h1, h2, h3⟩ := h
  simp only [Value.slice.injEq] at e
  obtain ⟨rfl, rfl, rfl⟩ := e
  have hl : (bs.take n).length = n := by simp; omega
  refine ⟨a, cap, by rw [hl], by omega, h2, fun i hi => ?_⟩
  obtain ⟨b, off, e, hc⟩ := h3 i (by omega)
  refine ⟨b, off, e, ?_⟩
  rw [hc, List.getD_eq_getElem?_getD, List.getD_eq_getElem?_getD, List.getElem?_take_of_lt (by omega)]
theorem Reads.drop {w : World} {g o len cap : Nat} {bs : List Int} (h : Reads w (.slice (some ⟨g, o, none⟩) len cap) bs) (n : Nat) (hn : n ≤ bs.length) : Reads w (.slice (some ⟨g, o + n, none⟩) (len - n) (cap - n)) (bs.drop n) := by
  obtain ⟨a', cap', e, h1, h2, h3⟩ := h
  simp only [Value.slice.injEq] at e
  obtain ⟨rfl, rfl, rfl⟩ := e
  have hl : (bs.drop n).length = bs.length - n := by simp
  refine ⟨_, cap - n, by rw [hl], by omega, by omega, fun i hi => ?_⟩
  obtain ⟨b, off, e, hc⟩ := h3 (n + i) (by omega)
  simp only [Option.some.injEq, Addr.mk.injEq] at e
  obtain ⟨rfl, rfl, _⟩ := e
  refine ⟨g, o + n, rfl, ?_⟩
  rw [Nat.add_assoc, hc, List.getD_eq_getElem?_getD, List.getD_eq_getElem?_getD, List.getElem?_drop]
theorem frames_split (ns : List ND) (j : Nat) (hj : j < ns.length) : frames ns = frames (ns.take j) ++ frameL ns[j].t ns[j].k ns[j].p ns[j].n ns[j].s ++ frames (ns.drop (j + 1)) ∧ frames (ns.take (j + 1)) = frames (ns.take j) ++ frameL ns[j].t ns[j].k ns[j].p ns[j].n ns[j].s := by
  have e2 : frames (ns.take (j + 1)) = frames (ns.take j) ++ frameL ns[j].t ns[j].k ns[j].p ns[j].n ns[j].s := by
    rw [List.take_succ_eq_append_getElem hj, frames_append]
    simp [frames]
  refine ⟨?_, e2⟩
  rw [← e2, ← frames_append, List.take_append_drop]
theorem field_ok (w : World) : (Instr.field 30 (.agg #[.bool false, .int .i64 0, .int .i64 0, .int .i64 0, .int .i64 0, .string ByteArray.empty, .int .i64 0]) 0).run Try.prog w = .ok (.bool false) w := by kernel_rfl
theorem bcell' {W w1 : World} {B : Nat} (hb : Below B W w1) : ∀ b o, b < B → w1.cell? ⟨b, o, none⟩ = W.cell? ⟨b, o, none⟩ := fun b o h => hb.cell (p := ⟨b, o, none⟩) h
theorem nCells_get : ∀ (ns : List ND) (j : Nat) (hj : j < ns.length) (i : Nat), i < 5 → (nCells ns)[j * 5 + i]? = (ns[j].cells)[i]?
  | [], j, hj, _, _ => by simp at hj
  | d :: r, 0, _, i, hi => by
    simp only [nCells, Nat.zero_mul, Nat.zero_add, List.getElem_cons_zero]
    rw [List.getElem?_append_left (by simp [ND.cells]; exact hi)]
  | d :: r, j + 1, hj, i, hi => by
    have := nCells_get r j (by simpa using hj) i hi
    simp only [nCells, List.getElem_cons_succ]
    rw [List.getElem?_append_right (by simp [ND.cells]; omega), ← this]
    congr 1
    simp [ND.cells]
    omega
theorem note_at {w : World} {base : Nat} {v : Value} {ns : List ND} (h : w.ownsRow base 26 5 v ns.length (nCells ns)) (j : Nat) (hj : j < ns.length) :
    ∃ g cap, v = .slice (some ⟨g, 0, none⟩) ns.length cap ∧ base ≤ g ∧ g < w.heap.size ∧ w.cell? ⟨g, j * 5, none⟩ = some (.int .i64 ns[j].t) ∧ w.cell? ⟨g, j * 5 + 1, none⟩ = some (.int .i64 ns[j].k) ∧ w.cell? ⟨g, j * 5 + 2, none⟩ = some (.int .i64 ns[j].p) ∧ w.cell? ⟨g, j * 5 + 3, none⟩ = some (.int .i64 ns[j].n) ∧ w.cell? ⟨g, j * 5 + 4, none⟩ = some (.string ns[j].s) := by
  obtain ⟨h1, h2⟩ := h
  rcases h2 with ⟨_, h0⟩ | ⟨g, cap, cur, rfl, hg, hh, hn, hm, hs, ht⟩
  · omega
  · have key : ∀ i, i < 5 → w.cell? ⟨g, j * 5 + i, none⟩ = (ns[j].cells)[i]? := by
      intro i hi
      rw [Joins.cell_of_block hh, ← nCells_get ns j hj i hi, ← ht, List.getElem?_take_of_lt (by omega)]
      simp
    exact ⟨g, cap, rfl, hg, lt_of_block hh, key 0 (by omega), key 1 (by omega), key 2 (by omega), key 3 (by omega), key 4 (by omega)⟩

set_option maxRecDepth 5000 in
set_option maxHeartbeats 4000000 in
theorem walkFrames (v1 v2 : Value) (bs cs : List Int) (w : World) (h1 : Reads w v1 bs) (h2 : Reads w v2 cs) (hb1 : Byt bs) (hl1 : bs.length ≤ maxLen) (hl2 : cs.length ≤ maxLen) (hv : ∀ k, v1.ownBlock = some k → bs.length = 0 ∨ k < w.heap.size) :
    Calls Try.prog 3 #[v1, v2] w fun e w' => e = .returned (.bool true) ∧ Below w.heap.size w w' := by
  have hf1 : ∃ a cap, v1 = .slice a bs.length cap := by obtain ⟨a, cap, e, _⟩ := h1; exact ⟨a, cap, e⟩
  have hf2 : ∃ a cap, v2 = .slice a cs.length cap := by obtain ⟨a, cap, e, _⟩ := h2; exact ⟨a, cap, e⟩
  obtain ⟨a1, cap1, rfl⟩ := hf1
  obtain ⟨a2, cap2, rfl⟩ := hf2
  unfold maxLen at hl1 hl2
  have HR : Hid (Reads w (.slice a1 bs.length cap1) bs) := h1
  clear h1 h2
  obtain ⟨i0, hi, hz0, hz1, hz2⟩ := info_parts info5
  by_cases g1 : 1048576 < (bs.length : Int)
  · go_enter Try.func3, Try.ntmps3
    go_wp2
    go_ret
    exact ⟨rfl, Below.refl _ _⟩
  · by_cases g2 : 1048576 < (cs.length : Int)
    · go_enter Try.func3, Try.ntmps3
      go_wp2
      go_ret
      exact ⟨rfl, Below.refl _ _⟩
    · go_enter Try.func3, Try.ntmps3
      go_wp2_with fail
      refine (notes_any _ bs _ HR.out hb1 (by omega) hv).mono ?_; rintro e w1 ⟨vo, ns, rfl, hgood, hn11, own1, b1⟩
      have hvo : ∃ an capn, vo = .slice an ns.length capn := by
        rcases own1.2 with ⟨e, e0⟩ | ⟨g, cap, cur, e, _⟩
        · exact ⟨none, 0, by rw [e, e0]⟩
        · exact ⟨_, _, e⟩
      obtain ⟨an, capn, rfl⟩ := hvo
      have z1 := b1.size
      go_wp2
      go_loopw [5, 27] (fun o i wr => ∃ (j : Nat), j ≤ ns.length ∧ i = .int .i64 j ∧ wr.ownsRow w1.heap.size 5 1 o (frames (ns.take j)).length ((frames (ns.take j)).map (Value.int .u8)) ∧ Below w1.heap.size w1 wr) (fun _ i _ => ns.length - (intOf i).toNat)
      case atStart => exact ⟨0, Nat.zero_le _, rfl, by simpa [frames] using World.ownsRow_nil _ _ _ _, Below.refl _ _⟩
      case round =>
        obtain ⟨j, hj, rfl, hown, hbel⟩ := hrel
        by_cases hlt : j < ns.length
        · obtain ⟨g, cp, e, hg0, hg1, c0, c1, c2, c3, c4⟩ := note_at own1 j hlt
          simp only [Value.slice.injEq] at e
          obtain ⟨rfl, _, rfl⟩ := e
          have hd := hgood ns[j] (List.getElem_mem hlt)
          have hbc := bcell' hbel
          rw [← hbc g (j * 5) hg1] at c0
          rw [← hbc g (j * 5 + 1) hg1] at c1
          rw [← hbc g (j * 5 + 2) hg1] at c2
          rw [← hbc g (j * 5 + 3) hg1] at c3
          rw [← hbc g (j * 5 + 4) hg1] at c4
          generalize hdd : ns[j] = d at hd c0 c1 c2 c3 c4
          have HD : Hid (ns[j] = d) := hdd
          have hok := Good.ok hd
          clear hdd hbc
          have hsz := hbel.size
          go_wp2_with fail
          have n0 : NoteAt (wr.alloc (.cells #[.int .i64 d.t, .int .i64 d.k, .int .i64 d.p, .int .i64 d.n, .string d.s] 26)) wr.heap.size d.t d.k d.p d.n d.s := by
            obtain ⟨⟨q0, q1, q2, q3, q4⟩, _⟩ := b5cells (heap_alloc_new wr (.cells #[.int .i64 d.t, .int .i64 d.k, .int .i64 d.p, .int .i64 d.n, .string d.s] 26))
            exact ⟨q0, q1, q2, q3, q4⟩
          refine (implFrame_ok d.t d.k d.p d.n d.s _ hok).mono ?_; rintro e w2 ⟨vf, rfl, own2, b2⟩
          have z2 := b2.size
          simp only [World.size_alloc] at z2
          have n2 := n0.below b2 (by simp)
          have hs200 := hd.s1
          obtain ⟨gf, capf, rfl, hgf0, hgf1, hcf0, hcf1⟩ : ∃ gf capf, vf = .slice (some ⟨gf, 0, none⟩) (17 + d.s.size) capf ∧ (wr.alloc (.cells #[.int .i64 d.t, .int .i64 d.k, .int .i64 d.p, .int .i64 d.n, .string d.s] 26)).heap.size ≤ gf ∧ gf < w2.heap.size ∧ 17 + d.s.size ≤ capf ∧ capf ≤ maxLen := by
            rcases own2.2 with ⟨_, e0⟩ | ⟨g', c', cur, e, hg', hh, hn, hm, _⟩
            · omega
            · exact ⟨g', c', e, hg', lt_of_block hh, hn, hm⟩
          simp only [World.size_alloc] at hgf0
          obtain ⟨a0, a1, a2, a3, a4⟩ := id n2
          go_wp2_with fail
          refine (specFrame_ok d.t d.k d.p d.n d.s _ hok).mono ?_; rintro e w3 ⟨vs, rfl, own3, b3⟩
          have z3 := b3.size
          have own23 := ownsRow_below own2 b3 (Nat.le_refl _)
          have n3 := n2.below b3 (by omega)
          clear a0 a1 a2 a3 a4
          have HFL : Hid ((frameL d.t d.k d.p d.n d.s).length = 17 + d.s.size) := frameL_length _ _ _ _ _
          go_wp2_with fail
          refine (wBytes_any _ _ _ _ _ (Reads.of_own own23).1 (Reads.of_own own3).1 (by have := HFL.out; omega) (by have := HFL.out; omega)).mono ?_; rintro e w4 ⟨rfl, m4, rfl⟩
          have hdec : decide (frameL d.t d.k d.p d.n d.s = frameL d.t d.k d.p d.n d.s) = true := by simp
          rw [hdec]
          clear hdec
          have B03 : Below wr.heap.size wr w3 := (((Below.refl _ wr).alloc (Nat.le_refl _) _).trans (b2.mono (by simp))).trans (b3.mono (by omega))
          have b03 : Below w1.heap.size wr w3 := B03.mono (by omega)
          have hownA : (w3.drewN m4).ownsRow w1.heap.size 5 1 u5 (frames (ns.take j)).length ((frames (ns.take j)).map (Value.int .u8)) := ownsRow_below hown (below_drewN B03 m4) (Nat.le_refl _)
          have own23' : w3.ownsRow (wr.heap.size + 1) 5 1 (.slice (some ⟨gf, 0, none⟩) (17 + d.s.size) capf) (17 + d.s.size) ((frameL d.t d.k d.p d.n d.s).map (Value.int .u8)) := by simpa using own23
          have ownF : (w3.drewN m4).ownsRow (wr.heap.size + 1) 5 1 (.slice (some ⟨gf, 0, none⟩) (17 + d.s.size) capf) (17 + d.s.size) ((frameL d.t d.k d.p d.n d.s).map (Value.int .u8)) := own23'
          have hfr := frames_length (ns.take j) (fun x hx => hgood x (List.mem_of_mem_take hx))
          have htk : (ns.take j).length ≤ 11 := by simp; omega
          have hne0 : ((17 + (d.s.size : Int)) == 0) = false := by simp; omega
          clear own2 own23 own23' own3
          go_wp2_with (at_builtin; refine wpList_append_own _ rfl _ _ 22 rfl w1.heap.size 5 i0 (.int .u8 0) 1 1 Try.underlying22 hi hz0 hz1 hz2 rfl (by decide) _ _ _ rfl hownA ⟨gf, 0, none⟩ (17 + d.s.size) capf ((frameL d.t d.k d.p d.n d.s).map (Value.int .u8)) rfl ?k1 ?k2 ?k3 ?k4 ?k5 ?k6 ?_)
          case k1 => simp [frameL_length]
          case k2 => exact ownF.cells rfl
          case k3 => intro u hu; obtain ⟨b, _, rfl⟩ := List.mem_map.1 hu; rfl
          case k4 => unfold maxLen; omega
          case k5 => omega
          case k6 => simp; omega
          intro vb w5 own5 grow5 _
          have hrow : ∀ k, u5.ownBlock = some k → w1.heap.size ≤ k ∧ k < wr.heap.size := fun k hk => hown.lt k hk
          have ownF5 : w5.ownsRow (wr.heap.size + 1) 5 1 (.slice (some ⟨gf, 0, none⟩) (17 + d.s.size) capf) (17 + d.s.size) ((frameL d.t d.k d.p d.n d.s).map (Value.int .u8)) := ownF.kept grow5 (.inr (fun e => by have := hrow gf e.symm; omega))
          have n5 : NoteAt w5 wr.heap.size d.t d.k d.p d.n d.s := by
            obtain ⟨q0, q1, q2, q3, q4⟩ := n3
            have hnr : some wr.heap.size ≠ u5.ownBlock := fun e => by have := hrow _ e.symm; omega
            exact ⟨grow5.cell (a := ⟨wr.heap.size, 0, none⟩) q0 hnr, grow5.cell (a := ⟨wr.heap.size, 1, none⟩) q1 hnr, grow5.cell (a := ⟨wr.heap.size, 2, none⟩) q2 hnr, grow5.cell (a := ⟨wr.heap.size, 3, none⟩) q3 hnr, grow5.cell (a := ⟨wr.heap.size, 4, none⟩) q4 hnr⟩
          have b05 : Below w1.heap.size wr w5 := (below_drewN b03 m4).grown grow5 (by simp; omega) (fun k hk => (hrow k hk).1)
          have z5 : w3.heap.size ≤ w5.heap.size := by have := grow5.size; simpa using this
          have own5' : w5.ownsRow w1.heap.size 5 1 vb (frames (ns.take (j + 1))).length ((frames (ns.take (j + 1))).map (Value.int .u8)) := by
            have e1 : ns.take (j + 1) = ns.take j ++ [d] := by rw [List.take_succ_eq_append_getElem hlt, HD.out]
            rw [e1, frames_append]
            simpa [frames, frameL_length] using own5
          have hby := frame_byt d hd
          have hr1 := frame_read d hd []
          rw [List.append_nil] at hr1
          have hr2 := frame_cut d hd
          have HR1 : Hid (readV (frameL d.t d.k d.p d.n d.s) = frV true d.t d.k d.p d.n d.s (17 + d.s.size)) := hr1
          have HR2 : Hid (readV ((frameL d.t d.k d.p d.n d.s).take (16 + d.s.size)) = frNo) := hr2
          clear hownA ownF own5 grow5 hown n3 n2 n0 c0 c1 c2 c3 c4 hr1 hr2 b2 b3 B03 b03
          go_wp2_with fail
          refine (implRead_any _ _ _ (Reads.of_own ownF5).1 hby (by have := HFL.out; omega) (own_old ownF5)).mono ?_; rintro e w6 ⟨rfl, b6⟩
          rw [HR1.out, frV]
          have z6 := b6.size
          have n6 := n5.below b6 (by omega)
          have hne6 : wr.heap.size ≠ w6.heap.size := by omega
          obtain ⟨a0, a1, a2, a3, a4⟩ := NoteAt.below n6 ((Below.refl _ w6).alloc (Nat.le_refl _) (.cells #[.bool true, .int .i64 d.t, .int .i64 d.k, .int .i64 d.p, .int .i64 d.n, .string d.s, .int .i64 (17 + (d.s.size : Int))] 30)) (by omega)
          go_wp2_with fail
          have b6a : Below w5.heap.size w5 (w6.alloc (.cells #[.bool true, .int .i64 d.t, .int .i64 d.k, .int .i64 d.p, .int .i64 d.n, .string d.s, .int .i64 (17 + (d.s.size : Int))] 30)) := b6.trans (((Below.refl _ w6).alloc (Nat.le_refl _) _).mono z6)
          have ownF6 := ownsRow_below ownF5 b6a (Nat.le_refl _)
          have hrt := Reads.take (Reads.of_own ownF6).1 (16 + d.s.size) (by have := HFL.out; omega)
          clear a0 a1 a2 a3 a4
          refine (implRead_any _ _ _ hrt (fun b hb => hby b (List.mem_of_mem_take hb)) (by have := HFL.out; simp; omega) (fun k hk => (ownF6.lt k hk).2)).mono ?_; rintro e w7 ⟨rfl, b7⟩
          rw [HR2.out, frNo, frV]
          have z7 := b7.size
          simp only [World.size_alloc] at z7
          have b57 : Below w5.heap.size w5 w7 := b6a.trans (b7.mono (by simp; omega))
          have own7 := ownsRow_below own5' b57 (Nat.le_refl _)
          have bF : Below w1.heap.size w1 w7 := (hbel.trans b05).trans (b57.mono (by omega))
          clear ownF5 ownF6 n5 n6 own5' hrt b6a b57 b7 b6
          have hfl := field_ok
          go_wp2
          go_roundw
          case rel => exact ⟨j + 1, by omega, by go_num, own7, bF⟩
          case measure => simp [intOf]; omega
        · have : j = ns.length := by omega
          subst this
          rw [List.take_length] at hown
          have hsz := hbel.size
          have hub : ∃ ab capb, u5 = .slice ab (frames ns).length capb ∧ (frames ns).length ≤ capb ∧ capb ≤ maxLen := by
            rcases hown.2 with ⟨e, e0⟩ | ⟨g', c', cur, e, hg', hh, hn, hm, _⟩
            · exact ⟨none, 0, by rw [e, e0], by omega, by unfold maxLen; omega⟩
            · exact ⟨_, c', e, hn, hm⟩
          obtain ⟨ab, capb, rfl, hcb, hcm⟩ := hub
          have hFl := frames_length ns hgood
          have HFB : Hid (Byt (frames ns)) := frames_byt ns hgood
          have hRb := (Reads.of_own hown).1
          unfold maxLen at hcm
          go_wp2
          go_loopw [11, 76] (fun o i wq => ∃ (j : Nat), j ≤ ns.length ∧ i = .int .i64 j ∧ o = .int .i64 (frames (ns.take j)).length ∧ Below wr.heap.size wr wq) (fun _ i _ => ns.length - (intOf i).toNat)
          case atStart => exact ⟨0, Nat.zero_le _, rfl, by simp [frames], Below.refl _ _⟩
          case round =>
            obtain ⟨j, hj, rfl, rfl, hbq⟩ := hrel
            have hzq := hbq.size
            by_cases hlt : j < ns.length
            · obtain ⟨g, cp, e, hg0, hg1, c0, c1, c2, c3, c4⟩ := note_at own1 j hlt
              simp only [Value.slice.injEq] at e
              obtain ⟨rfl, _, rfl⟩ := e
              have hd := hgood ns[j] (List.getElem_mem hlt)
              have hbc := bcell' (hbel.trans (hbq.mono (by omega)))
              rw [← hbc g (j * 5) hg1] at c0
              rw [← hbc g (j * 5 + 1) hg1] at c1
              rw [← hbc g (j * 5 + 2) hg1] at c2
              rw [← hbc g (j * 5 + 3) hg1] at c3
              rw [← hbc g (j * 5 + 4) hg1] at c4
              have hsplit := frames_split ns j hlt
              generalize hdd : ns[j] = d at hd c0 c1 c2 c3 c4 hsplit
              generalize hAe : (frames (ns.take j)).length = A
              have hAl : A + (17 + d.s.size) ≤ (frames ns).length := by
                have := congrArg List.length hsplit.1
                simp [frameL_length] at this
                omega
              have hdrop : (frames ns).drop A = frameL d.t d.k d.p d.n d.s ++ frames (ns.drop (j + 1)) := by
                rw [hsplit.1, ← hAe, List.append_assoc, List.drop_left]
              have HA1 : Hid ((frames (ns.take (j + 1))).length = A + (17 + d.s.size)) := by
                show _ = _
                rw [hsplit.2, List.length_append, hAe, frameL_length]
              have hrd := frame_read d hd (frames (ns.drop (j + 1)))
              rw [← hdrop] at hrd
              have HRD : Hid (readV ((frames ns).drop A) = frV true d.t d.k d.p d.n d.s (17 + d.s.size)) := hrd
              have hs200 := hd.s1
              obtain ⟨gb, hgb⟩ : ∃ gb, ab = some ⟨gb, 0, none⟩ := by
                rcases hown.2 with ⟨_, e0⟩ | ⟨g', c', cur, e, _⟩
                · omega
                · simp only [Value.slice.injEq] at e
                  exact ⟨g', e.1⟩
              subst hgb
              have hownq := ownsRow_below hown hbq (Nat.le_refl _)
              have hRq := Reads.drop (Reads.of_own hownq).1 A (by omega)
              have hA1 : (A : Int) ≤ ((frames ns).length : Int) := by omega
              have hA2 : ((frames ns).length : Int) ≤ (capb : Int) := by omega
              have hA3 : ¬ capb = A := by omega
              clear hsplit hAe hdrop hrd hbc hdd hRb
              have hl17 : ¬ ((17 : Int) + (d.s.size : Int) < 17) := by omega
              have hAl' : (A : Int) + (17 + (d.s.size : Int)) ≤ ((frames ns).length : Int) := by omega
              go_wp2_with fail
              have ba := (Below.refl _ wr).alloc (Nat.le_refl _) (.cells #[.int .i64 d.t, .int .i64 d.k, .int .i64 d.p, .int .i64 d.n, .string d.s] 26)
              have hgl : gb < wr.heap.size := (hownq.lt gb rfl).2
              rw [Nat.zero_add] at hRq
              refine (implRead_any _ _ _ (hRq.below ba (fun k hk => by simp [Value.ownBlock] at hk; omega)) (fun b hb => HFB.out b (List.mem_of_mem_drop hb)) (by simp; omega) (fun k hk => by simp [Value.ownBlock] at hk; simp; omega)).mono ?_; rintro e w8 ⟨rfl, b8⟩
              rw [HRD.out, frV]
              have z8 := b8.size
              simp only [World.size_alloc] at z8
              have n8 : w8.heap[wr.heap.size]? = some (.cells #[.int .i64 d.t, .int .i64 d.k, .int .i64 d.p, .int .i64 d.n, .string d.s] 26 (0, 0)) := by rw [b8.block _ (by simp)]; exact heap_alloc_new wr _
              have n9 : (w8.alloc (.cells #[.bool true, .int .i64 d.t, .int .i64 d.k, .int .i64 d.p, .int .i64 d.n, .string d.s, .int .i64 (17 + (d.s.size : Int))] 30)).heap[wr.heap.size]? = some (.cells #[.int .i64 d.t, .int .i64 d.k, .int .i64 d.p, .int .i64 d.n, .string d.s] 26 (0, 0)) := by rw [Below.heap_alloc _ _ _ (by omega)]; exact n8
              obtain ⟨⟨a0, a1, a2, a3, a4⟩, _⟩ := b5cells n9
              have bq8 : Below wr.heap.size wr w8 := ba.trans (b8.mono (by simp))
              clear n8 n9 hownq hRq c0 c1 c2 c3 c4
              go_wp2
              go_roundw
              case rel => exact ⟨j + 1, by omega, by go_num, by rw [HA1.out]; go_num, hbq.trans ((bq8.alloc (by omega) _).mono (by omega))⟩
              case measure => simp [intOf]; omega
            · have : j = ns.length := by omega
              subst this
              rw [List.take_length]
              have heq : (((frames ns).length : Int) == ((frames ns).length : Int)) = true := by simp
              go_wp2
              go_ret
              refine ⟨by simp, ?_⟩
              exact (b1.trans (hbel.mono (by omega))).trans (hbq.mono (by omega))

set_option maxRecDepth 100000 in
theorem liftedFrames (os : Os) (started : os.Started) (H : Type) (enc : TypeId × Value → H) :
    ReturnsInHanded {} Try.checked os 3 .any (Rows.fnFramesSpec.pre6 enc Try.prog Try.f3 Rows.fnFramesRow.domain false) (Rows.fnFramesSpec.post enc Try.prog Try.f3 false true false false) := by
  refine returnsInHanded_of_change (C := Try.checked) own started (by kernel_rfl) Try.func3
    (ChangeSpec.witness6 (enc := enc) (C := Try.checked) false ⟨#[], #[.slice none 0 0, .slice none 0 0], []⟩ 8 (by kernel_rfl) (by kernel_rfl) (by kernel_rfl) (by kernel_rfl)) ?_
  intro W base args ds gs before hval0 hW hcnd _
  have hval : ∀ (j : Nat) t v, Try.f3.params[j]? = some t → args[j]? = some v → Value.okWide Try.prog W .any base t v := hval0
  have hW' := hW
  obtain ⟨p, q, hA0, hV, rfl, hfz, hnd⟩ := hW
  have hA : DataW.TrodAll enc Try.prog W 0 (fun _ => true) true Try.f3.params.toList args.toList ds p := hA0
  rw [Try.params3] at hA hval
  obtain ⟨v0, vs0, d0, ds0, p0, q0, hargs, rfl, rfl, h0, r0⟩ := trodAll_cons hA
  obtain ⟨v1, vs1, d1, ds1, p1, q1, rfl, rfl, rfl, h1, r1⟩ := trodAll_cons r0
  obtain ⟨rfl, rfl, rfl⟩ := trodAll_nil r1
  obtain rfl : args = #[v0, v1] := by cases args; simp_all
  obtain ⟨rfl, rfl⟩ := trodVars_none hV
  have k0 := h0
  have k1 := h1
  have lt1 : ∀ x ∈ p1, x.block < W.heap.size := by obtain ⟨m, hm⟩ := k1; exact DataW.trod_lt m _ _ _ hm
  have lt0 : ∀ x ∈ p0, x.block < W.heap.size := by obtain ⟨m, hm⟩ := k0; exact DataW.trod_lt m _ _ _ hm
  obtain ⟨a0, len0, cap0, rfl⟩ := okWide_slice Try.underlying22 (hval 0 22 v0 rfl rfl)
  obtain ⟨z0, w0⟩ : ∃ zs, IsRow W a0 len0 cap0 zs := by
    obtain ⟨fuel, hf⟩ := h0
    rcases open_ints Try.underlying22 Try.underlying5 (by kernel_rfl) hf with ⟨hcs, _⟩ | ⟨x, l, c, zs, hcs, _, hl, hm, hz, _, hcell, hwz⟩
    · simp [Value.cells] at hcs
      obtain ⟨rfl, rfl, rfl⟩ := hcs
      exact ⟨[], .inl ⟨rfl, rfl, rfl, rfl⟩⟩
    · simp [Value.cells] at hcs
      obtain ⟨rfl, rfl, rfl⟩ := hcs
      exact ⟨zs, .inr ⟨_, rfl, hl, hm, by simpa using hz, hcell, hwz⟩⟩
  obtain ⟨a1, len1, cap1, rfl⟩ := okWide_slice Try.underlying22 (hval 1 22 v1 rfl rfl)
  obtain ⟨z1, w1⟩ : ∃ zs, IsRow W a1 len1 cap1 zs := by
    obtain ⟨fuel, hf⟩ := h1
    rcases open_ints Try.underlying22 Try.underlying5 (by kernel_rfl) hf with ⟨hcs, _⟩ | ⟨x, l, c, zs, hcs, _, hl, hm, hz, _, hcell, hwz⟩
    · simp [Value.cells] at hcs
      obtain ⟨rfl, rfl, rfl⟩ := hcs
      exact ⟨[], .inl ⟨rfl, rfl, rfl, rfl⟩⟩
    · simp [Value.cells] at hcs
      obtain ⟨rfl, rfl, rfl⟩ := hcs
      exact ⟨zs, .inr ⟨_, rfl, hl, hm, by simpa using hz, hcell, hwz⟩⟩
  obtain ⟨bs, hrd, hby, hml, hle, hol⟩ := w0.reads
  obtain ⟨cs, hrd1, hby1, hml1, hle1, hol1⟩ := w1.reads
  clear hA0 hval0
  refine (walkFrames _ _ bs cs W hrd hrd1 hby hml hml1 (fun k hk => by rw [hle]; exact hol k hk)).mono fun e W' ⟨he, bel⟩ => ?_
  subst he
  exact ⟨_, rfl, _, _, _, [], _, [], hW', trodAll_mk1 (shut_bool Try.underlying4 _), (trodAll_cons_mk (Below.trod laidOut (by kernel_rfl) (of_decide_eq_true (by kernel_rfl)) k0 bel lt0) (trodAll_cons_mk (Below.trod laidOut (by kernel_rfl) (of_decide_eq_true (by kernel_rfl)) k1 bel lt1) trodAll_mk0)), rfl, bel.frame _, fun h => by cases h⟩

theorem frames_holds : Rows.FnFramesSaid :=
  OpenClaim.holds_of_wide 3 Try.f3 rfl rfl rfl rfl rfl rfl rfl ⟨rfl, rfl, rfl, rfl, rfl⟩ rfl rfl rfl rfl rfl (by kernel_rfl) Try.func3 (by kernel_rfl)
    (of_decide_eq_true (by kernel_rfl)) (by unfold Func.isWrapper; first | (rw [if_pos (by decide +kernel)]; kernel_rfl) | (rw [if_neg (by decide +kernel)]; exact ⟨rfl, rfl⟩))
    (fun os started H enc _ => liftedFrames os started H enc)
#print axioms frames_holds
end Go.Proofs.Ytepagknkhlpicaa
