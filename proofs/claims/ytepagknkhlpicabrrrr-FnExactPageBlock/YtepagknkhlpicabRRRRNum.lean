/-
  Plain mathematics of chapter 1: numbers of some bytes, read and written.
-/
import Derived.Test.YtepagknkhlpicabRRRRBytes
import Derived.Laws.BitsAllLaws
namespace Go.Proofs.YtepagknkhlpicabRRRR
open Go.RowKit
set_option linter.unusedVariables false
set_option linter.unusedSimpArgs false

/-- What is read of some bytes from a place on; zeros behind the end. -/
def pad (bs : List Int) (q : Nat) : Nat → List Int
  | 0 => []
  | n + 1 => bs.getD q 0 :: pad bs (q + 1) n
/-- A number of some bytes, the lowest first. -/
def un : List Int → Int
  | [] => 0
  | b :: r => b + 256 * un r

/-- All are bytes. -/
def Byt (bs : List Int) : Prop := ∀ b ∈ bs, 0 ≤ b ∧ b < 256
theorem Byt.getD {bs : List Int} (h : Byt bs) (i : Nat) : 0 ≤ bs.getD i 0 ∧ bs.getD i 0 < 256 := by
  rw [List.getD_eq_getElem?_getD]
  by_cases hi : i < bs.length
  · rw [List.getElem?_eq_getElem hi]
    exact h _ (List.getElem_mem hi)
  · rw [List.getElem?_eq_none (by omega)]
    simp

theorem pad_length (bs : List Int) : ∀ (n q : Nat), (pad bs q n).length = n
  | 0, _ => rfl
  | n + 1, q => by simp [pad, pad_length bs n]
theorem pad_snoc (bs : List Int) : ∀ (n q : Nat), pad bs q (n + 1) = pad bs q n ++ [bs.getD (q + n) 0]
  | 0, q => by simp [pad]
  | n + 1, q => by
    rw [pad, pad_snoc bs n (q + 1), pad]
    simp [Nat.add_assoc, Nat.add_comm 1 n]
theorem pad_byt {bs : List Int} (h : Byt bs) : ∀ (n q : Nat), Byt (pad bs q n)
  | 0, _ => by intro b hb; simp [pad] at hb
  | n + 1, q => by
    intro b hb
    simp only [pad, List.mem_cons] at hb
    rcases hb with rfl | hb
    · exact h.getD q
    · exact pad_byt h n (q + 1) b hb

theorem un_snoc : ∀ (l : List Int) (b : Int), un (l ++ [b]) = un l + b * 2 ^ (8 * l.length)
  | [], b => by simp [un]
  | x :: l, b => by
    have e : (2 : Int) ^ (8 * (l.length + 1)) = 256 * 2 ^ (8 * l.length) := by rw [Nat.mul_add, Int.pow_add, Int.mul_comm]; rfl
    simp only [List.cons_append, un, un_snoc l b, List.length_cons]
    rw [e, Int.mul_add, Int.mul_left_comm b, Int.add_assoc]
theorem un_bd : ∀ (l : List Int), Byt l → 0 ≤ un l ∧ un l < 2 ^ (8 * l.length)
  | [], _ => by simp [un]
  | x :: l, h => by
    have hx := h x (by simp)
    have hl := un_bd l (fun b hb => h b (by simp [hb]))
    have e : (2 : Int) ^ (8 * (l.length + 1)) = 256 * 2 ^ (8 * l.length) := by rw [Nat.mul_add, Int.pow_add, Int.mul_comm]; rfl
    simp only [un, List.length_cons, e]
    omega

theorem or_shift (j : Nat) (hj : j < 8) (u b : Int) (h0 : 0 ≤ u) (h1 : u < 2 ^ (8 * j)) (h2 : 0 ≤ b) (h3 : b < 256) :
    bits .or .u64 u (IntKind.u64.wrap (IntKind.u64.wrap b * 2 ^ (8 * j))) = u + b * 2 ^ (8 * j) := by
  obtain ⟨A, rfl⟩ := Int.eq_ofNat_of_zero_le h0
  obtain ⟨B, rfl⟩ := Int.eq_ofNat_of_zero_le h2
  have hB : B < 256 := by omega
  have hA : A < 2 ^ (8 * j) := by
    have : ((A : Int)) < ((2 ^ (8 * j) : Nat) : Int) := by simpa using h1
    omega
  have w1 : IntKind.u64.wrap (B : Int) = B := by rw [IntKind.wrap_u64]; omega
  have hp : 2 ^ (8 * j) ≤ 2 ^ 56 := Nat.pow_le_pow_right (by omega) (by omega)
  have hBp : B * 2 ^ (8 * j) < 18446744073709551616 := by
    have : B * 2 ^ (8 * j) ≤ 255 * 2 ^ 56 := Nat.mul_le_mul (by omega) hp
    omega
  have e : (B : Int) * 2 ^ (8 * j) = ((B * 2 ^ (8 * j) : Nat) : Int) := by simp
  rw [w1, e]
  have w2 : IntKind.u64.wrap ((B * 2 ^ (8 * j) : Nat) : Int) = ((B * 2 ^ (8 * j) : Nat) : Int) := by rw [IntKind.wrap_u64]; omega
  rw [w2, u64_or_nat A (B * 2 ^ (8 * j)) (by omega) hBp, Nat.or_comm, Nat.mul_comm, ← Nat.two_pow_add_eq_or_of_lt hA]
  simp [Int.add_comm]

theorem or_low (n b : Int) (h0 : 0 ≤ n) (h1 : n < 2 ^ 56) (h2 : 0 ≤ b) (h3 : b < 256) :
    bits .or .u64 (n * 256) b = n * 256 + b := by
  obtain ⟨A, rfl⟩ := Int.eq_ofNat_of_zero_le h0
  obtain ⟨B, rfl⟩ := Int.eq_ofNat_of_zero_le h2
  have hB : B < 2 ^ 8 := by omega
  have e : (A : Int) * 256 = ((2 ^ 8 * A : Nat) : Int) := by omega
  rw [e, u64_or_nat (2 ^ 8 * A) B (by omega) (by omega), ← Nat.two_pow_add_eq_or_of_lt hB]
  simp
end Go.Proofs.YtepagknkhlpicabRRRR
