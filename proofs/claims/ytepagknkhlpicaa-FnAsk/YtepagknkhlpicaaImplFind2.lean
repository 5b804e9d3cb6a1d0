/-
  impl.Find: the filter as it lies in memory, what it answers, places, and Find.
-/
import Derived.Test.YtepagknkhlpicaaImplFind1
namespace Go.Proofs.Ytepagknkhlpicaa
open Go.ChangeShapes Go.WideShapes Go.ChangeAt Go.RowKit Go.Deep
set_option linter.unusedVariables false
set_option linter.unusedSimpArgs false

/-- The filter of a question, as it lies in memory. -/
structure Fil (w : World) (a : AD) (bF bS p q k h t : Nat) : Prop where
  sl : w.cell? ⟨bF, 0, none⟩ = some (.slice (some ⟨bS, 0, none⟩) 4 4)
  s0 : w.cell? ⟨bS, 0, none⟩ = some (.func (.func 83) #[] #[.pointer (some ⟨p, 0, none⟩), .pointer (some ⟨q, 0, none⟩)])
  s1 : w.cell? ⟨bS, 1, none⟩ = some (.func (.func 84) #[] #[.pointer (some ⟨k, 0, none⟩)])
  s2 : w.cell? ⟨bS, 2, none⟩ = some (.func (.func 85) #[] #[.pointer (some ⟨h, 0, none⟩)])
  s3 : w.cell? ⟨bS, 3, none⟩ = some (.func (.func 86) #[] #[.pointer (some ⟨t, 0, none⟩)])
  c0 : w.cell? ⟨p, 0, none⟩ = some (.int .i64 a.lo)
  c1 : w.cell? ⟨q, 0, none⟩ = some (.int .i64 a.hi)
  c2 : w.cell? ⟨k, 0, none⟩ = some (.int .i64 a.kind)
  c3 : w.cell? ⟨h, 0, none⟩ = some (.int .i64 a.who)
  c4 : w.cell? ⟨t, 0, none⟩ = some (.string a.part)
theorem Fil.below {w w' : World} {a : AD} {bF bS p q k h t : Nat} (hf : Fil w a bF bS p q k h t) (hb : Below w.heap.size w w') : Fil w' a bF bS p q k h t :=
  ⟨kept_cell hf.sl hb, kept_cell hf.s0 hb, kept_cell hf.s1 hb, kept_cell hf.s2 hb, kept_cell hf.s3 hb, kept_cell hf.c0 hb, kept_cell hf.c1 hb, kept_cell hf.c2 hb, kept_cell hf.c3 hb, kept_cell hf.c4 hb⟩

set_option maxRecDepth 5000 in
set_option maxHeartbeats 4000000 in
theorem every1 (d : ND) (a : AD) (bF bS p q k h t : Nat) (w : World) (hg : Grd w) (hs : d.s.size ≤ 1000000000) (hf : Fil w a bF bS p q k h t) :
    Calls Try.prog 82 #[.agg #[.int .i64 d.t, .int .i64 d.k, .int .i64 d.p, .int .i64 d.n, .string d.s], .pointer (some ⟨bF, 0, none⟩)] w fun e w' => e = .returned (.bool (fitB d a)) ∧ Below w.heap.size w w' := by
  have bA0 : Below w.heap.size w (w.alloc (.cells #[.int .i64 d.t, .int .i64 d.k, .int .i64 d.p, .int .i64 d.n, .string d.s] 26)) := (Below.refl _ w).alloc (Nat.le_refl _) _
  have HA := heap_alloc_new w (.cells #[.int .i64 d.t, .int .i64 d.k, .int .i64 d.p, .int .i64 d.n, .string d.s] 26)
  have zA : w.heap.size + 1 ≤ (w.alloc (.cells #[.int .i64 d.t, .int .i64 d.k, .int .i64 d.p, .int .i64 d.n, .string d.s] 26)).heap.size := by simp
  have HFl : Hid (∀ W, Below (w.heap.size + 1) (w.alloc (.cells #[.int .i64 d.t, .int .i64 d.k, .int .i64 d.p, .int .i64 d.n, .string d.s] 26)) W → Fil W a bF bS p q k h t ∧ NAt W w.heap.size 0 d ∧ Grd W ∧ Below w.heap.size w W ∧ w.heap.size + 1 ≤ W.heap.size) := fun W hW => by
    have hb := bA0.trans (hW.mono (by omega))
    have hz := hW.size
    obtain ⟨n0, n1, n2, n3, n4⟩ := (b5cells (w := W) (b := w.heap.size) (by rw [hW.block _ (by omega)]; exact HA)).1
    exact ⟨hf.below hb, ⟨n0, n1, n2, n3, n4⟩, hg.below hb, hb, by omega⟩
  have HB : Hid (Below (w.heap.size + 1) (w.alloc (.cells #[.int .i64 d.t, .int .i64 d.k, .int .i64 d.p, .int .i64 d.n, .string d.s] 26)) (w.alloc (.cells #[.int .i64 d.t, .int .i64 d.k, .int .i64 d.p, .int .i64 d.n, .string d.s] 26))) := Below.refl _ _
  obtain ⟨⟨g0, g1, g2, g3, g4, g5, g6, g7, g8, g9⟩, _, HG, hb0, zz⟩ := HFl.out _ HB.out
  clear hf HA
  go_enter Try.func82, Try.ntmps82
  go_wp2_with fail
  refine wp_loop_rounds 5 ?_
  rw [rounds_succ]
  go_wp2_with fail
  refine (tick1 d a.lo a.hi p q _ g5 g6).mono ?_; rintro e w1 ⟨rfl, b1⟩
  have B1 : Below (w.heap.size + 1) (w.alloc (.cells #[.int .i64 d.t, .int .i64 d.k, .int .i64 d.p, .int .i64 d.n, .string d.s] 26)) w1 := HB.out.trans (b1.mono zz)
  clear g0 g1 g2 g3 g4 g5 g6 g7 g8 g9 b1 HG hb0 zz
  obtain ⟨⟨g0, g1, g2, g3, g4, g5, g6, g7, g8, g9⟩, ⟨n0, n1, n2, n3, n4⟩, HG, hb0, zz⟩ := HFl.out _ B1
  cases r1 : (decide (a.lo ≤ d.t) && decide (d.t ≤ a.hi))
  · go_wp2
    go_ret
    exact ⟨by unfold fitB; rw [r1]; rfl, hb0⟩
  · go_wp2_with fail
    rw [rounds_succ]
    go_wp2_with fail
    refine (kind1 d a.kind k _ g7).mono ?_; rintro e w2 ⟨rfl, b2⟩
    have B2 : Below (w.heap.size + 1) (w.alloc (.cells #[.int .i64 d.t, .int .i64 d.k, .int .i64 d.p, .int .i64 d.n, .string d.s] 26)) w2 := B1.trans (b2.mono zz)
    clear g0 g1 g2 g3 g4 g5 g6 g7 g8 g9 b2 HG hb0 zz n0 n1 n2 n3 n4
    obtain ⟨⟨g0, g1, g2, g3, g4, g5, g6, g7, g8, g9⟩, ⟨n0, n1, n2, n3, n4⟩, HG, hb0, zz⟩ := HFl.out _ B2
    cases r2 : ((a.kind == -1) || (a.kind == d.k))
    · go_wp2
      go_ret
      exact ⟨by unfold fitB; simp [r1, r2], hb0⟩
    · go_wp2_with fail
      rw [rounds_succ]
      go_wp2_with fail
      refine (who1 d a.who h _ g8).mono ?_; rintro e w3 ⟨rfl, b3⟩
      have B3 : Below (w.heap.size + 1) (w.alloc (.cells #[.int .i64 d.t, .int .i64 d.k, .int .i64 d.p, .int .i64 d.n, .string d.s] 26)) w3 := B2.trans (b3.mono zz)
      clear g0 g1 g2 g3 g4 g5 g6 g7 g8 g9 b3 HG hb0 zz n0 n1 n2 n3 n4
      obtain ⟨⟨g0, g1, g2, g3, g4, g5, g6, g7, g8, g9⟩, ⟨n0, n1, n2, n3, n4⟩, HG, hb0, zz⟩ := HFl.out _ B3
      cases r3 : ((a.who == -1) || (a.who == d.p))
      · go_wp2
        go_ret
        exact ⟨by unfold fitB; simp [r1, r2, r3], hb0⟩
      · go_wp2_with fail
        rw [rounds_succ]
        go_wp2_with fail
        refine (part1 d a.part t _ HG hs g9).mono ?_; rintro e w4 ⟨rfl, b4⟩
        have B4 : Below (w.heap.size + 1) (w.alloc (.cells #[.int .i64 d.t, .int .i64 d.k, .int .i64 d.p, .int .i64 d.n, .string d.s] 26)) w4 := B3.trans (b4.mono zz)
        clear g0 g1 g2 g3 g4 g5 g6 g7 g8 g9 b4 HG hb0 zz n0 n1 n2 n3 n4
        obtain ⟨⟨g0, g1, g2, g3, g4, g5, g6, g7, g8, g9⟩, ⟨n0, n1, n2, n3, n4⟩, HG, hb0, zz⟩ := HFl.out _ B4
        cases r4 : hasB d.s a.part
        · go_wp2
          go_ret
          exact ⟨by unfold fitB; simp [r1, r2, r3, r4], hb0⟩
        · go_wp2_with fail
          rw [rounds_succ]
          go_wp2
          go_ret
          exact ⟨by unfold fitB; simp [r1, r2, r3, r4], hb0⟩

set_option maxRecDepth 5000 in
set_option maxHeartbeats 4000000 in
theorem places_any (N : Nat) (v : Value) (ns : List ND) (a : AD) (bF bS p q k h t : Nat) (w1 : World) (hg : Grd w1) (hr : RNS N w1 v ns) (hN : N ≤ w1.heap.size) (hl : ns.length ≤ 100000000) (hs : ∀ d ∈ ns, d.s.size ≤ 1000000000) (hF : Fil w1 a bF bS p q k h t) :
    Calls Try.prog 58 #[v, .func (.func 82) #[] #[.pointer (some ⟨bF, 0, none⟩)]] w1 fun e w' => ∃ vo, e = .returned vo ∧ w'.ownsRow w1.heap.size 3 1 vo (findL ns a).length ((findL ns a).map (Value.int .i64)) ∧ Below w1.heap.size w1 w' := by
  obtain ⟨av, cap, rfl, h1, h2, hx⟩ := hr
  unfold maxLen at h2
  obtain ⟨i0, hi, hz0, hz1, hz2⟩ := info_parts infoI
  go_enter Try.func58, Try.ntmps58
  go_wp2
  go_loopw [5, 10] (fun o i wr => ∃ (j : Nat), j ≤ ns.length ∧ i = .int .i64 j ∧ wr.ownsRow w1.heap.size 3 1 o (findL (ns.take j) a).length ((findL (ns.take j) a).map (Value.int .i64)) ∧ Below w1.heap.size w1 wr) (fun _ i _ => ns.length - (intOf i).toNat)
  case atStart => exact ⟨0, Nat.zero_le _, rfl, World.ownsRow_nil _ _ _ _, Below.refl _ _⟩
  case round =>
    obtain ⟨j, hj, rfl, hown, hb⟩ := hrel
    have hzr := hb.size
    by_cases hlt : j < ns.length
    · obtain ⟨g, off, rfl, hgN, hat⟩ := hx j hlt
      obtain ⟨m0, m1, m2, m3, m4⟩ := hat.below hb (by omega)
      have hsj := hs ns[j] (List.getElem_mem hlt)
      have HS : Hid (findL (ns.take (j + 1)) a = findL (ns.take j) a ++ (if fitB ns[j] a then [(j : Int)] else [])) := findL_succ ns a j hlt
      generalize ns[j] = d at m0 m1 m2 m3 m4 hsj HS
      have q0 : (0 : Int) ≤ (j : Int) := by omega
      have q1 : (j : Int) < (ns.length : Int) := by omega
      have bal : Below wr.heap.size wr (wr.alloc (.cells #[.int .i64 d.t, .int .i64 d.k, .int .i64 d.p, .int .i64 d.n, .string d.s] 26)) := (Below.refl _ wr).alloc (Nat.le_refl _) _
      have HF2 := (hF.below hb).below bal
      have HG2 := (hg.below hb).below bal
      have hfl : (findL (ns.take j) a).length ≤ j := by have := findN_length a (ns.take j) 0; have e : (ns.take j).length ≤ j := by simp; omega
                                                        unfold findL; omega
      have HO : Hid (wr.ownsRow w1.heap.size 3 1 u5 (findL (ns.take j) a).length ((findL (ns.take j) a).map (Value.int .i64))) := hown
      clear hx hat hown
      go_wp2_with fail
      refine (every1 d a bF bS p q k h t _ HG2 hsj HF2).mono ?_; rintro e w2 ⟨rfl, b2⟩
      have b02 : Below wr.heap.size wr w2 := bal.trans (b2.mono (by simp))
      have z2 := b02.size
      have HO2 : Hid (w2.ownsRow w1.heap.size 3 1 u5 (findL (ns.take j) a).length ((findL (ns.take j) a).map (Value.int .i64))) := own_at HO.out b02 (Nat.le_refl _)
      clear HF2 HG2 HO bal b2
      cases hf : fitB d a
      · have HSn : Hid (findL (ns.take (j + 1)) a = findL (ns.take j) a) := by show _ = _; rw [HS.out, hf]; simp
        go_wp2
        go_roundw
        case rel => exact ⟨j + 1, by omega, by go_num, by rw [HSn.out]; exact HO2.out, hb.trans (b02.mono (by omega))⟩
        case measure => simp [intOf]; omega
      · have HSy : Hid (findL (ns.take (j + 1)) a = findL (ns.take j) a ++ [(j : Int)]) := by show _ = _; rw [HS.out, hf]; simp
        go_wp2_with (at_builtin; refine wpList_append_own _ rfl _ _ 40 rfl w1.heap.size 3 i0 (.int .i64 0) 1 8 Try.underlying40 hi hz0 hz1 hz2 rfl (by decide) _ _ _ rfl (HO2.out.alloc _) ⟨w2.heap.size, 0, none⟩ 1 1 [.int .i64 (j : Int)] rfl rfl ?c1 ?c2 ?c3 ?c4 ?c5 ?_)
        case c1 =>
          intro q u hq
          match q, hq with
          | 0, hq => simp at hq; subst hq; simp [Addr.add]
        case c2 => intro u hu; simp at hu; subst hu; rfl
        case c3 => unfold maxLen; omega
        case c4 => omega
        case c5 => simp; omega
        intro v3 w3 own3 grow3 _
        have b23 : Below w1.heap.size w2 w3 := ((Below.refl _ w2).alloc (by omega) _).grown grow3 (by simp; omega) (fun k hk => (HO2.out.lt k hk).1)
        have HO3 : Hid (w3.ownsRow w1.heap.size 3 1 v3 (findL (ns.take (j + 1)) a).length ((findL (ns.take (j + 1)) a).map (Value.int .i64))) := by show w3.ownsRow _ _ _ _ _ _; rw [HSy.out]; simpa using own3
        clear own3 grow3
        go_wp2
        go_roundw
        case rel => exact ⟨j + 1, by omega, by go_num, HO3.out, (hb.trans (b02.mono (by omega))).trans b23⟩
        case measure => simp [intOf]; omega
    · have : j = ns.length := by omega
      subst this
      go_wp2
      go_ret
      rw [List.take_length] at hown
      exact ⟨_, rfl, hown, hb⟩
end Go.Proofs.Ytepagknkhlpicaa
