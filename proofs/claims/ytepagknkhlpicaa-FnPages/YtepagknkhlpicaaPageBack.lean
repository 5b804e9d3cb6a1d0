/-
  A page read back from its block, and a block of which one byte was changed: plain mathematics.
-/
import Derived.Test.YtepagknkhlpicaaPageRead
namespace Go.Proofs.Ytepagknkhlpicaa
open Go.ChangeShapes Go.WideShapes Go.ChangeAt Go.RowKit
set_option linter.unusedVariables false
set_option linter.unusedSimpArgs false

theorem pad_take (bs : List Int) : ∀ (n q : Nat), q + n ≤ bs.length → pad bs q n = (bs.drop q).take n
  | 0, q, _ => by simp [pad]
  | n + 1, q, h => by
    rw [pad, pad_take bs n (q + 1) (by omega), List.drop_eq_getElem_cons (by omega : q < bs.length), List.take_succ_cons]
    simp [List.getElem?_eq_getElem (by omega : q < bs.length)]
theorem sum_set : ∀ (l : List Int) (i : Nat) (a : Int), i < l.length → (l.set i a).sum = l.sum - l.getD i 0 + a
  | [], i, a, h => by simp at h
  | x :: l, 0, a, h => by simp; omega
  | x :: l, i + 1, a, h => by
    have := sum_set l i a (by simpa using h)
    simp only [List.set_cons_succ, List.sum_cons, List.getD_cons_succ, this]
    omega
theorem getD_set (l : List Int) (i j : Nat) (a : Int) (h : i < l.length) : (l.set i a).getD j 0 = if i = j then a else l.getD j 0 := by
  rw [List.getD_eq_getElem?_getD, List.getD_eq_getElem?_getD, List.getElem?_set]
  by_cases e : i = j
  · subst e
    simp [h]
  · simp [e]
theorem pageB_one (gen : Int) (bs : List Int) : (pageB gen bs).getD 1 0 = 0 := by simp [pageB]

theorem page_check {X : List Int} (h : okP X = true) : X.getD 1 0 = (X.sum - X.getD 1 0) % 256 := by
  simp only [okP, Bool.and_eq_true, decide_eq_true_eq] at h
  obtain ⟨⟨h64, _⟩, hp⟩ := h
  unfold pageOf at hp
  split at hp
  · rename_i hok
    have hl := (pageOk_parts hok).2.2.2
    have hBl := pageB_length (un (pad X 2 4)) (pad X 8 (X.getD 6 0).toNat) hl
    generalize pad X 8 (X.getD 6 0).toNat = b at hp hBl
    generalize un (pad X 2 4) = g at hp hBl
    have h1 := pageB_one g b
    unfold pageL at hp
    generalize pageB g b = B at hp hBl h1
    have hs := sum_set B 1 (B.sum % 256) (by omega)
    have hg := getD_set B 1 1 (B.sum % 256) (by omega)
    rw [hp] at hs hg
    rw [if_pos rfl] at hg
    omega
  · rw [← hp] at h64
    simp at h64

theorem page_spoilt {L : List Int} (h : okP L = true) (hL : Byt L) (i : Nat) (hi : i < L.length) (d : Int) (d1 : 1 ≤ d) (d2 : d ≤ 255) : okP (L.set i ((L.getD i 0 + d) % 256)) = false := by
  cases hq : okP (L.set i ((L.getD i 0 + d) % 256)) with
  | false => rfl
  | true =>
    exfalso
    have c1 := page_check h
    have c2 := page_check hq
    have hs := sum_set L i ((L.getD i 0 + d) % 256) hi
    have hg := getD_set L i 1 ((L.getD i 0 + d) % 256) hi
    have hx := hL.getD i
    have h1 := hL.getD 1
    rw [hs, hg] at c2
    by_cases e : i = 1
    · subst e
      rw [if_pos rfl] at c2
      omega
    · rw [if_neg e] at c2
      omega

theorem le_byt (v : Int) : ∀ k, Byt (le v k) := by
  intro k
  induction k generalizing v with
  | zero => intro b hb; simp [le] at hb
  | succ k ih =>
    intro b hb
    simp only [le, List.mem_cons] at hb
    rcases hb with rfl | hb
    · omega
    · exact ih _ b hb
theorem pageL_byt (gen : Int) (bs : List Int) (hbs : Byt bs) (hl : bs.length ≤ 56) : Byt (pageL gen bs) := by
  intro b hb
  unfold pageL at hb
  rcases List.mem_or_eq_of_mem_set hb with hb | rfl
  · unfold pageB at hb
    simp only [List.mem_append, List.mem_cons, List.mem_replicate, List.not_mem_nil, or_false] at hb
    rcases hb with (((h | h) | h) | h) | h
    · rcases h with rfl | rfl <;> omega
    · exact le_byt gen 4 b h
    · rcases h with rfl | rfl <;> omega
    · exact hbs b h
    · obtain ⟨_, rfl⟩ := h
      omega
  · omega

theorem page_back (gen : Int) (bs : List Int) (hok : pageOkB true gen bs.length = true) : okP (pageL gen bs) = true ∧ genP (pageL gen bs) = gen ∧ bytesP (pageL gen bs) = bs := by
  obtain ⟨_, g1, g2, hl⟩ := pageOk_parts hok
  have hlen := pageL_length gen bs hl
  have hb : pageL gen bs = 76 :: ((pageB gen bs).sum % 256) :: (gen % 256) :: (gen / 256 % 256) :: (gen / 256 / 256 % 256) :: (gen / 256 / 256 / 256 % 256) :: (bs.length : Int) :: 0 :: (bs ++ List.replicate (56 - bs.length) 0) := by
    unfold pageL
    generalize (pageB gen bs).sum % 256 = c
    simp [pageB, le]
  have e6 : (pageL gen bs).getD 6 0 = (bs.length : Int) := by rw [hb]; rfl
  have eG : un (pad (pageL gen bs) 2 4) = gen := by
    rw [hb]
    show (gen % 256) + 256 * ((gen / 256 % 256) + 256 * ((gen / 256 / 256 % 256) + 256 * ((gen / 256 / 256 / 256 % 256) + 256 * 0))) = gen
    omega
  have eB : pad (pageL gen bs) 8 bs.length = bs := by
    rw [pad_take _ _ _ (by omega), hb]
    show (bs ++ List.replicate (56 - bs.length) 0).take bs.length = bs
    rw [List.take_append_of_le_length (Nat.le_refl _), List.take_length]
  have hP : okP (pageL gen bs) = true := by
    unfold okP
    rw [e6, Int.toNat_natCast, eG, eB, decide_eq_true hlen, decide_eq_true (show (bs.length : Int) ≤ 56 by omega), pageOf, if_pos hok]
    simp
  obtain ⟨h1, h2⟩ := okP_true hP
  rw [e6, Int.toNat_natCast, eB] at h2
  rw [eG] at h1
  exact ⟨hP, h1, h2⟩
end Go.Proofs.Ytepagknkhlpicaa
