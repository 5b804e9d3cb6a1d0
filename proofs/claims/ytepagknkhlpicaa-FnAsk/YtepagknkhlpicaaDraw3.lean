/-
  spec.Notes.
-/
import Derived.Test.YtepagknkhlpicaaDraw2
namespace Go.Proofs.Ytepagknkhlpicaa
open Go.ChangeShapes Go.WideShapes Go.ChangeAt Go.RowKit
set_option linter.unusedVariables false
set_option linter.unusedSimpArgs false

/-- A note as data. -/
structure ND where
  t : Int
  k : Int
  p : Int
  n : Int
  s : ByteArray
def ND.cells (d : ND) : List Value := [.int .i64 d.t, .int .i64 d.k, .int .i64 d.p, .int .i64 d.n, .string d.s]
def ND.good (d : ND) : Prop := Good d.t d.k d.p d.n d.s
def nCells : List ND → List Value
  | [] => []
  | d :: r => d.cells ++ nCells r
theorem nCells_length : ∀ l : List ND, (nCells l).length = l.length * 5
  | [] => rfl
  | d :: r => by simp [nCells, nCells_length r, ND.cells]; omega
theorem nCells_append : ∀ a b : List ND, nCells (a ++ b) = nCells a ++ nCells b
  | [], b => rfl
  | d :: r, b => by simp [nCells, nCells_append r b]

theorem info26 : (Try.prog.info? 26).map (fun i => (i.zero, i.size, i.bytes)) = some (some (.agg #[.int .i64 0, .int .i64 0, .int .i64 0, .int .i64 0, .string ByteArray.empty]), 5, 48) := by kernel_rfl

theorem Cur.below {w w' : World} {N B : Nat} {v : Value} {bs : List Int} {M : Nat} (h : Cur w B v bs M) (hb : Below N w w') (hv : ∀ k, v.ownBlock = some k → bs.length = 0 ∨ k < N) (hB : B < N) : Cur w' B v bs M := by
  obtain ⟨a', s, h1, h2, h3, h4, h5, h6⟩ := h
  have hsz := hb.size
  refine ⟨a', s, by rw [hb.block B hB]; exact h1, h2, ?_, h4, h5, fun k hk => ?_⟩
  · obtain ⟨a, cap, rfl, g1, g2, g3⟩ := h3
    refine ⟨a, cap, rfl, g1, g2, fun i hi => ?_⟩
    obtain ⟨b, off, rfl, hc⟩ := g3 i hi
    exact ⟨b, off, rfl, by rw [hb.cell (p := ⟨b, off + i, none⟩) (by rcases hv b rfl with h | h; omega; exact h)]; exact hc⟩
  · rcases h6 k hk with h | h
    · exact .inl h
    · exact .inr ⟨by omega, h.2⟩
theorem ownsRow_kp {w w' : World} {S : Nat → Prop} {base e size : Nat} {v : Value} {n : Nat} {xs : List Value} (h : w.ownsRow base e size v n xs) (hb : Kp S w w') (hS : ∀ k, S k → k < base) : w'.ownsRow base e size v n xs := by
  obtain ⟨h1, h2⟩ := h
  refine ⟨h1, ?_⟩
  rcases h2 with h2 | ⟨g, cap, cur, hv, hg, hh, r⟩
  · exact .inl h2
  · exact .inr ⟨g, cap, cur, hv, hg, by rw [hb.block g (lt_of_block hh) (fun e => by have := hS g e; omega)]; exact hh, r⟩

theorem news5 (w : World) (x0 x1 x2 x3 x4 : Value) (T : TypeId) : ∀ (j : Nat) (u : Value), [x0, x1, x2, x3, x4][j]? = some u → (w.alloc (.cells #[x0, x1, x2, x3, x4] T)).cell? ((⟨w.heap.size, 0, none⟩ : Addr).add j) = some u := by
  intro j u hj
  match j, hj with
  | 0, hj => simp at hj; subst hj; simp [Addr.add]
  | 1, hj => simp at hj; subst hj; simp [Addr.add]
  | 2, hj => simp at hj; subst hj; simp [Addr.add]
  | 3, hj => simp at hj; subst hj; simp [Addr.add]
  | 4, hj => simp at hj; subst hj; simp [Addr.add]

set_option maxHeartbeats 4000000 in
theorem notes_any (v : Value) (bs : List Int) (w : World) (hr : Reads w v bs) (hby : Byt bs) (hl : bs.length ≤ 1000000000) (hv : ∀ k, v.ownBlock = some k → bs.length = 0 ∨ k < w.heap.size) :
    Calls Try.prog 10 #[v] w fun e w' => ∃ (vo : Value) (ns : List ND), e = .returned vo ∧ (∀ d ∈ ns, d.good) ∧ ns.length ≤ 11 ∧ w'.ownsRow w.heap.size 26 5 vo ns.length (nCells ns) ∧ Below w.heap.size w w' := by
  obtain ⟨i0, hi, hz0, hz1, hz2⟩ := info_parts info26
  have hform : ∃ a len cap, v = .slice a len cap := by obtain ⟨a, cap, e, _⟩ := hr; exact ⟨a, _, cap, e⟩
  obtain ⟨a, len, cap, rfl⟩ := hform
  have c0 : Cur (w.alloc (.cells #[.slice a len cap, .int .i64 0, .int .u64 0] 66)) w.heap.size (.slice a len cap) bs 0 := by
    refine ⟨0, 0, heap_alloc_new w _, Nat.le_refl _, ?_, hby, hl, fun k hk => ?_⟩
    · exact hr.kp' (S := fun _ => False) (Below.kp ((Below.refl _ w).alloc (Nat.le_refl _) _)) (fun k hk => by rcases hv k hk with h | h; exact .inl h; exact .inr ⟨h, id⟩)
    · rcases hv k hk with h | h
      · exact .inl h
      · exact .inr ⟨by simp; omega, by omega⟩
  clear hr
  go_enter Try.func10, Try.ntmps10
  go_wp2_with fail
  refine (pick_cur w.heap.size _ bs 0 12 _ c0 (by omega) (by omega) (by omega)).mono ?_; rintro e w1 ⟨x1, rfl, hx1, h1, b1⟩
  have z1 := b1.size
  simp only [World.size_alloc] at z1
  go_wp2
  go_loopw [4, 5] (fun o i wr => ∃ (ns : List ND) (m : Nat), i = .int .i64 m ∧ ns.length + m ≤ 11 ∧ (∀ d ∈ ns, d.good) ∧ Cur wr w.heap.size (.slice a len cap) bs (2 + 600 * ns.length) ∧ wr.ownsRow (w.heap.size + 1) 26 5 o ns.length (nCells ns) ∧ Kp (fun k => k = w.heap.size) w wr ∧ w.heap.size + 1 ≤ wr.heap.size) (fun _ i _ => (intOf i).toNat)
  case atStart => exact ⟨[], x1, rfl, by simp; omega, by simp, h1, World.ownsRow_nil _ _ _ _, (Below.kp ((Below.refl _ w).alloc (Nat.le_refl _) _)).trans b1.kp, by omega⟩
  case round =>
    obtain ⟨ns, m, rfl, hnm, hgood, hcur, hown, hkp, hsz⟩ := hrel
    by_cases hlt : 0 < m
    · go_wp2_with (first | (go_at_call 41; refine (note_cur w.heap.size _ bs _ _ hcur (by omega)).mono ?_; rintro e w2 ⟨t, k, p, n, s, rfl, hg, h2, k2⟩; have z2 := k2.size; have own2 := ownsRow_kp hown k2 (fun k hk => by omega)) | (at_builtin; refine wpList_append_own _ rfl _ _ 23 rfl (w.heap.size + 1) 26 i0 _ 5 48 Try.underlying23 hi hz0 hz1 hz2 rfl (by decide) _ _ _ rfl (own2.alloc _) ⟨w2.heap.size, 0, none⟩ 1 1 [.int .i64 t, .int .i64 k, .int .i64 p, .int .i64 n, .string s] rfl rfl (news5 _ _ _ _ _ _ _) ?c2 ?c3 ?c4 ?c5 ?_))
      case c2 => intro u hu; simp at hu; rcases hu with rfl | rfl | rfl | rfl | rfl <;> rfl
      case c3 => unfold maxLen; omega
      case c4 => omega
      case c5 => simp; omega
      intro v' w3 own3 grow3 _
      have b23 : Below (w.heap.size + 1) w2 w3 := ((Below.refl _ w2).alloc (by omega) _).grown grow3 (by simp; omega) (fun k hk => (own2.lt k hk).1)
      have h3 := h2.below b23 (fun k hk => by rcases hv k hk with h | h; exact .inl h; exact .inr (by omega)) (by omega)
      have k3 : Kp (fun k => k = w.heap.size) w w3 := by
        have h0 := hkp.trans k2
        exact ⟨b23.os.trans h0.os, b23.tape.trans h0.tape, b23.output.trans h0.output, by have := b23.size; have := h0.size; omega, fun k hk hs => (b23.block k (by omega)).trans (h0.block k hk hs)⟩
      have z3 := b23.size
      have own3' : w3.ownsRow (w.heap.size + 1) 26 5 v' (ns ++ [ND.mk t k p n s]).length (nCells (ns ++ [ND.mk t k p n s])) := by
        rw [nCells_append]
        simpa [nCells, ND.cells] using own3
      clear own3 own2 grow3 b23 hcur hown hkp h2
      go_wp2
      go_roundw
      case rel =>
        refine ⟨ns ++ [ND.mk t k p n s], m - 1, by rw [Int.ofNat_sub (by omega)]; rfl, by simp; omega, ?_, h3.mono (by simp; omega), own3', k3, by omega⟩
        intro d hd
        rcases List.mem_append.1 hd with h | h
        · exact hgood d h
        · simp at h; subst h; exact hg
      case measure => simp [intOf]; omega
    · go_wp2
      go_ret
      refine ⟨_, ns, rfl, hgood, by omega, ?_, hkp.below (Nat.le_refl _) (fun k hk => by omega)⟩
      obtain ⟨q1, q2⟩ := hown
      refine ⟨q1, ?_⟩
      rcases q2 with q2 | ⟨g, cap, cur, r1, r2, r3⟩
      · exact .inl q2
      · exact .inr ⟨g, cap, cur, r1, by omega, r3⟩
end Go.Proofs.Ytepagknkhlpicaa
