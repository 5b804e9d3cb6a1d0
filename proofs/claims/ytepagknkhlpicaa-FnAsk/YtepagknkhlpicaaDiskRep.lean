/-
  A disk in memory: what can be read of it.
-/
import Derived.Test.YtepagknkhlpicaaXReadFrame
import Derived.WalkSmall
namespace Go.Proofs.Ytepagknkhlpicaa
open Go.ChangeShapes Go.WideShapes Go.ChangeAt Go.RowKit
set_option linter.unusedVariables false
set_option linter.unusedSimpArgs false

/-- A slice of bytes that can be read, its memory below N. -/
def RdB (N : Nat) (w : World) (v : Value) (bs : List Int) : Prop := Reads w v bs ∧ ∀ k, v.ownBlock = some k → bs.length = 0 ∨ k < N
theorem RdB.below {N : Nat} {w w' : World} {v : Value} {bs : List Int} (h : RdB N w v bs) (hb : Below N w w') : RdB N w' v bs := ⟨h.1.below' hb h.2, h.2⟩
theorem RdB.mono {N N' : Nat} {w : World} {v : Value} {bs : List Int} (h : RdB N w v bs) (hN : N ≤ N') : RdB N' w v bs :=
  ⟨h.1, fun k hk => by rcases h.2 k hk with h | h; exact .inl h; exact .inr (by omega)⟩
theorem RdB.drewN {N : Nat} {w : World} {v : Value} {bs : List Int} (h : RdB N w v bs) (n : Nat) : RdB N (w.drewN n) v bs := h

/-- A slice of slices of bytes. -/
def RBB (N : Nat) (w : World) (v : Value) (L : List (List Int)) : Prop :=
  ∃ a cap, v = .slice a L.length cap ∧ L.length ≤ cap ∧ cap ≤ maxLen ∧ ∀ (i : Nat) (hi : i < L.length), ∃ b off vi, a = some ⟨b, off, none⟩ ∧ b < N ∧ w.cell? ⟨b, off + i, none⟩ = some vi ∧ RdB N w vi L[i]
theorem RBB.below {N : Nat} {w w' : World} {v : Value} {L : List (List Int)} (h : RBB N w v L) (hb : Below N w w') : RBB N w' v L := by
  obtain ⟨a, cap, e, h1, h2, h3⟩ := h
  refine ⟨a, cap, e, h1, h2, fun i hi => ?_⟩
  obtain ⟨b, off, vi, ea, hN, hc, hr⟩ := h3 i hi
  exact ⟨b, off, vi, ea, hN, by rw [hb.cell (p := ⟨b, off + i, none⟩) hN]; exact hc, hr.below hb⟩
theorem RBB.mono {N N' : Nat} {w : World} {v : Value} {L : List (List Int)} (h : RBB N w v L) (hN : N ≤ N') : RBB N' w v L := by
  obtain ⟨a, cap, e, h1, h2, h3⟩ := h
  refine ⟨a, cap, e, h1, h2, fun i hi => ?_⟩
  obtain ⟨b, off, vi, ea, hN', hc, hr⟩ := h3 i hi
  exact ⟨b, off, vi, ea, by omega, hc, hr.mono hN⟩

/-- A write as data. -/
structure WD where
  blk : Int
  bs : List Int
/-- A slice of writes. -/
def RWW (N : Nat) (w : World) (v : Value) (L : List WD) : Prop :=
  ∃ a cap, v = .slice a L.length cap ∧ L.length ≤ cap ∧ cap ≤ maxLen ∧ ∀ (i : Nat) (hi : i < L.length), ∃ b off vi, a = some ⟨b, off, none⟩ ∧ b < N ∧ w.cell? ⟨b, off + i * 2, none⟩ = some (.int .i64 L[i].blk) ∧ w.cell? ⟨b, off + i * 2 + 1, none⟩ = some vi ∧ RdB N w vi L[i].bs
theorem RWW.below {N : Nat} {w w' : World} {v : Value} {L : List WD} (h : RWW N w v L) (hb : Below N w w') : RWW N w' v L := by
  obtain ⟨a, cap, e, h1, h2, h3⟩ := h
  refine ⟨a, cap, e, h1, h2, fun i hi => ?_⟩
  obtain ⟨b, off, vi, ea, hN, hc, hc1, hr⟩ := h3 i hi
  exact ⟨b, off, vi, ea, hN, by rw [hb.cell (p := ⟨b, off + i * 2, none⟩) hN]; exact hc, by rw [hb.cell (p := ⟨b, off + i * 2 + 1, none⟩) hN]; exact hc1, hr.below hb⟩
theorem RWW.mono {N N' : Nat} {w : World} {v : Value} {L : List WD} (h : RWW N w v L) (hN : N ≤ N') : RWW N' w v L := by
  obtain ⟨a, cap, e, h1, h2, h3⟩ := h
  refine ⟨a, cap, e, h1, h2, fun i hi => ?_⟩
  obtain ⟨b, off, vi, ea, hN', hc, hc1, hr⟩ := h3 i hi
  exact ⟨b, off, vi, ea, by omega, hc, hc1, hr.mono hN⟩

theorem takeL_eq_succ {α : Type} {xs ys : List α} {j : Nat} (h1 : j < xs.length) (h2 : j < ys.length) (h : xs.take j = ys.take j) : xs.take (j + 1) = ys.take (j + 1) ↔ xs[j] = ys[j] := by
  rw [List.take_succ_eq_append_getElem h1, List.take_succ_eq_append_getElem h2, h, List.append_right_inj]
  exact ⟨fun q => by injection q, fun q => by rw [q]⟩

set_option maxHeartbeats 1000000 in
theorem eqBB_any (N : Nat) (v1 v2 : Value) (A B : List (List Int)) (w : World) (h1 : RBB N w v1 A) (h2 : RBB N w v2 B) (hA : ∀ x ∈ A, x.length ≤ 1000000000) (hB : ∀ x ∈ B, x.length ≤ 1000000000) (hl1 : A.length ≤ 1000000000) (hl2 : B.length ≤ 1000000000) :
    Calls Try.prog 69 #[v1, v2] w fun e w' => e = .returned (.bool (decide (A = B))) ∧ ∃ n, w' = w.drewN n := by
  obtain ⟨a, c1, rfl, hc1, hm1, hx⟩ := h1
  obtain ⟨b, c2, rfl, hc2, hm2, hy⟩ := h2
  unfold maxLen at hm1 hm2
  by_cases hlen : A.length = B.length
  · have hne : ((A.length : Int) != B.length) = false := by simp [hlen]
    go_enter Try.func69, Try.ntmps69
    go_wp2
    go_loopw [5] (fun i wr => ∃ (j n : Nat), j ≤ A.length ∧ i = .int .i64 j ∧ A.take j = B.take j ∧ wr = w.drewN n) (fun i _ => A.length - (intOf i).toNat)
    case atStart => exact ⟨0, 0, Nat.zero_le _, rfl, rfl, rfl⟩
    case round =>
      obtain ⟨j, m, hj, rfl, he, hwr⟩ := hrel
      have HW : Hid (wr = w.drewN m) := hwr
      clear hwr
      have HE : Hid (A.take j = B.take j) := he
      have HL : Hid (A.length = B.length) := hlen
      clear he hlen
      by_cases hlt : j < A.length
      · have hlt2 : j < B.length := by rw [← HL.out]; exact hlt
        obtain ⟨g1, o1, x1, rfl, _, hx1, hr1⟩ := hx j hlt
        obtain ⟨g2, o2, x2, rfl, _, hy1, hr2⟩ := hy j hlt2
        have hx1 : wr.cell? ⟨g1, o1 + j, none⟩ = some x1 := by rw [HW.out]; exact hx1
        have hy1 : wr.cell? ⟨g2, o2 + j, none⟩ = some x2 := by rw [HW.out]; exact hy1
        have hr1 : Reads wr x1 A[j] := by rw [HW.out]; exact hr1.1
        have hr2 : Reads wr x2 B[j] := by rw [HW.out]; exact hr2.1
        have hts := takeL_eq_succ hlt hlt2 HE.out
        have hA' := hA A[j] (List.getElem_mem hlt)
        have hB' := hB B[j] (List.getElem_mem hlt2)
        generalize A[j] = P at hr1 hts hA'
        generalize B[j] = Q at hr2 hts hB'
        have HT : Hid (A.take (j + 1) = B.take (j + 1) ↔ P = Q) := hts
        clear hts hx hy
        go_wp2
        go_quiet ((go_at_call 29; exact Calls.quiet_of (eqBytes_any _ _ P Q _ hr1 hr2 (by omega) (by omega))))
        by_cases hq : P = Q
        · subst hq
          have hq' : decide (P = P) = true := by simp
          rw [hq']
          clear hq'
          go_wp2
          go_roundw
          case rel => exact ⟨j + 1, m + nq, by omega, by go_num, HT.out.2 (by simp), by rw [HW.out]; simp⟩
          case measure => simp [intOf]; omega
        · have hq' : decide (P = Q) = false := by simp [hq]
          rw [hq']
          have HR : Hid (decide (A = B) = false) := by
            show decide (A = B) = false
            simp only [decide_eq_false_iff_not]
            intro e
            exact hq (HT.out.1 (by rw [e]))
          clear hq hq'
          go_wp2
          go_ret
          exact ⟨by rw [HR.out]; rfl, m + nq, by rw [HW.out]; simp⟩
      · have HR : Hid (decide (A = B) = true) := by
          show decide (A = B) = true
          have he := HE.out
          have hl := HL.out
          rw [List.take_of_length_le (by omega), List.take_of_length_le (by omega)] at he
          simpa using he
        go_wp2
        go_ret
        exact ⟨by rw [HR.out]; rfl, m, HW.out⟩
  · have hne : ((A.length : Int) != B.length) = true := by simp; omega
    have hr : decide (A = B) = false := by
      simp only [decide_eq_false_iff_not]
      intro e
      exact hlen (by rw [e])
    rw [hr]
    have HL : Hid (¬ A.length = B.length) := hlen
    clear hlen hr
    go_enter Try.func69, Try.ntmps69
    go_wp2
    go_ret
    exact ⟨rfl, 0, rfl⟩
end Go.Proofs.Ytepagknkhlpicaa
