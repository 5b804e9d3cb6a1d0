/-
  A disk in memory: what can be read of it.
-/
import Derived.Test.YtepagknkhlpicacXReadFrame
import Derived.WalkSmall
namespace Go.Proofs.Ytepagknkhlpicac
open Go.ChangeShapes Go.WideShapes Go.ChangeAt Go.RowKit
set_option linter.unusedVariables false
set_option linter.unusedSimpArgs false

/-- A slice of bytes that can be read, its memory below N. -/
def RdB (N : Nat) (w : World) (v : Value) (bs : List Int) : Prop := Reads w v bs ∧ ∀ k, v.ownBlock = some k → bs.length = 0 ∨ k < N
theorem RdB.below {N : Nat} {w w' : World} {v : Value} {bs : List Int} (h : RdB N w v bs) (hb : Below N w w') : RdB N w' v bs := ⟨h.1.below' hb h.2, h.2⟩
theorem RdB.mono {N N' : Nat} {w : World} {v : Value} {bs : List Int} (h : RdB N w v bs) (hN : N ≤ N') : RdB N' w v bs :=
  ⟨h.1, fun k hk => by rcases h.2 k hk with h | h; exact .inl h; exact .inr (by omega)⟩
theorem RdB.drewN {N : Nat} {w : World} {v : Value} {bs : List Int} (h : RdB N w v bs) (n : Nat) : RdB N (w.drewN n) v bs := h

/-- A slice of slices of bytes. -/
def RBB (N : Nat) (w : World) (v : Value) (L : List (List Int)) : Prop :=
  ∃ a cap, v = .slice a L.length cap ∧ L.length ≤ cap ∧ cap ≤ maxLen ∧ ∀ (i : Nat) (hi : i < L.length), ∃ b off vi, a = some ⟨b, off, none⟩ ∧ b < N ∧ w.cell? ⟨b, off + i, none⟩ = some vi ∧ RdB N w vi L[i]
theorem RBB.below {N : Nat} {w w' : World} {v : Value} {L : List (List Int)} (h : RBB N w v L) (hb : Below N w w') : RBB N w' v L := by
  obtain ⟨a, cap, e, h1, h2, h3⟩ := h
  refine ⟨a, cap, e, h1, h2, fun i hi => ?_⟩
  obtain ⟨b, off, vi, ea, hN, hc, hr⟩ := h3 i hi
  exact ⟨b, off, vi, ea, hN, by rw [hb.cell (p := ⟨b, off + i, none⟩) hN]; exact hc, hr.below hb⟩
theorem RBB.mono {N N' : Nat} {w : World} {v : Value} {L : List (List Int)} (h : RBB N w v L) (hN : N ≤ N') : RBB N' w v L := by
  obtain ⟨a, cap, e, h1, h2, h3⟩ := h
  refine ⟨a, cap, e, h1, h2, fun i hi => ?_⟩
  obtain ⟨b, off, vi, ea, hN', hc, hr⟩ := h3 i hi
  exact ⟨b, off, vi, ea, by omega, hc, hr.mono hN⟩

/-- A write as data. -/
structure WD where
  blk : Int
  bs : List Int
/-- A slice of writes. -/
def RWW (N : Nat) (w : World) (v : Value) (L : List WD) : Prop :=
  ∃ a cap, v = .slice a L.length cap ∧ L.length ≤ cap ∧ cap ≤ maxLen ∧ ∀ (i : Nat) (hi : i < L.length), ∃ b off vi, a = some ⟨b, off, none⟩ ∧ b < N ∧ w.cell? ⟨b, off + i * 2, none⟩ = some (.int .i64 L[i].blk) ∧ w.cell? ⟨b, off + i * 2 + 1, none⟩ = some vi ∧ RdB N w vi L[i].bs
theorem RWW.below {N : Nat} {w w' : World} {v : Value} {L : List WD} (h : RWW N w v L) (hb : Below N w w') : RWW N w' v L := by
  obtain ⟨a, cap, e, h1, h2, h3⟩ := h
  refine ⟨a, cap, e, h1, h2, fun i hi => ?_⟩
  obtain ⟨b, off, vi, ea, hN, hc, hc1, hr⟩ := h3 i hi
  exact ⟨b, off, vi, ea, hN, by rw [hb.cell (p := ⟨b, off + i * 2, none⟩) hN]; exact hc, by rw [hb.cell (p := ⟨b, off + i * 2 + 1, none⟩) hN]; exact hc1, hr.below hb⟩
theorem RWW.mono {N N' : Nat} {w : World} {v : Value} {L : List WD} (h : RWW N w v L) (hN : N ≤ N') : RWW N' w v L := by
  obtain ⟨a, cap, e, h1, h2, h3⟩ := h
  refine ⟨a, cap, e, h1, h2, fun i hi => ?_⟩
  obtain ⟨b, off, vi, ea, hN', hc, hc1, hr⟩ := h3 i hi
  exact ⟨b, off, vi, ea, by omega, hc, hc1, hr.mono hN⟩

theorem takeL_eq_succ {α : Type} {xs ys : List α} {j : Nat} (h1 : j < xs.length) (h2 : j < ys.length) (h : xs.take j = ys.take j) : xs.take (j + 1) = ys.take (j + 1) ↔ xs[j] = ys[j] := by
  rw [List.take_succ_eq_append_getElem h1, List.take_succ_eq_append_getElem h2, h, List.append_right_inj]
  exact ⟨fun q => by injection q, fun q => by rw [q]⟩

end Go.Proofs.Ytepagknkhlpicac
