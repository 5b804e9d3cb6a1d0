/-
  What is found and counted: plain mathematics.
-/
import Derived.Test.YtepagknkhlpicaaNoteOpen
namespace Go.Proofs.Ytepagknkhlpicaa
open Go.ChangeShapes Go.WideShapes Go.ChangeAt Go.RowKit Go.Deep
set_option linter.unusedVariables false
set_option linter.unusedSimpArgs false

def fitN (d : ND) (a : AD) : Nat := if fitB d a then 1 else 0
theorem findN_len (a : AD) : ∀ (ns : List ND) (i : Nat), (findN a ns i).length = (ns.map (fitN · a)).sum
  | [], _ => rfl
  | d :: r, i => by
    have := findN_len a r (i + 1)
    simp only [findN, List.length_append, List.map_cons, List.sum_cons, this, fitN]
    split <;> simp
/-- Two halves of the ticks. -/
theorem fit_split (d : ND) (a : AD) (t : Int) (h1 : a.lo ≤ t) (h2 : t ≤ a.hi) : fitN d { a with hi := t } + fitN d { a with lo := t + 1 } = fitN d a := by
  unfold fitN fitB
  simp only
  generalize hasB d.s a.part = hh
  generalize ((a.kind == -1) || (a.kind == d.k)) = kk
  generalize ((a.who == -1) || (a.who == d.p)) = ww
  by_cases e1 : a.lo ≤ d.t <;> by_cases e2 : d.t ≤ a.hi <;> by_cases e3 : d.t ≤ t <;> by_cases e4 : t + 1 ≤ d.t <;> cases hh <;> cases kk <;> cases ww <;> simp [e1, e2, e3, e4] <;> omega
theorem find_split (ns : List ND) (a : AD) (t : Int) (h1 : a.lo ≤ t) (h2 : t ≤ a.hi) : (findL ns { a with hi := t }).length + (findL ns { a with lo := t + 1 }).length = (findL ns a).length := by
  unfold findL
  rw [findN_len, findN_len, findN_len]
  induction ns with
  | nil => rfl
  | cons d r ih =>
    have := fit_split d a t h1 h2
    simp only [List.map_cons, List.sum_cons]
    omega

/-- All notes of a kind. -/
def kindAsk (k : Int) : AD := ⟨0, 1000000000, k, -1, ByteArray.empty⟩
theorem hasB_empty (s : ByteArray) : hasB s ByteArray.empty = true := by
  unfold hasB
  rw [List.any_eq_true]
  refine ⟨0, by simp, ?_⟩
  unfold hasAt
  have e : (s.extract 0 (0 + ByteArray.empty.size)).toList = ByteArray.empty.toList := by
    rw [ByteArray.toList_eq, ByteArray.toList_eq]
    congr 1
    apply Array.eq_empty_of_size_eq_zero
    simp [ByteArray.extract, ByteArray.copySlice]
  rw [e]
  simp
theorem fit_kind (d : ND) (k : Int) (hd : d.good) (hk : 0 ≤ k) : fitB d (kindAsk k) = decide (d.k = k) := by
  have h1 := hd.t0
  have h2 := hd.t1
  unfold fitB kindAsk
  simp only [hasB_empty, Bool.and_true]
  have e1 : (k == -1) = false := by simp; omega
  rw [e1]
  simp [h1, h2]
  rw [Bool.eq_iff_iff]
  simp
  exact eq_comm
theorem find_kind (k : Int) (hk : 0 ≤ k) : ∀ (ns : List ND), (∀ d ∈ ns, d.good) → (findL ns (kindAsk k)).length = cntN k ns := by
  intro ns hg
  unfold findL
  rw [findN_len]
  induction ns with
  | nil => rfl
  | cons d r ih =>
    rw [List.map_cons, List.sum_cons, cntN, ih (fun x hx => hg x (by simp [hx]))]
    unfold fitN
    rw [fit_kind d k (hg d (by simp)) hk]
    simp
/-- The number at a place. -/
def numAt (ns : List ND) (x : Int) : Int := ((ns[x.toNat]?).map ND.n).getD 0
def sumAt (ns : List ND) (l : List Int) : Int := (l.map (numAt ns)).sum
theorem sumAt_append (ns : List ND) (a b : List Int) : sumAt ns (a ++ b) = sumAt ns a + sumAt ns b := by simp [sumAt]
theorem sum_kindN (k : Int) (hk : 0 ≤ k) (ns : List ND) : ∀ (r A : List ND), ns = A ++ r → (∀ d ∈ r, d.good) → sumAt ns (findN (kindAsk k) r A.length) = cntS k r
  | [], A, e, hg => by simp [findN, sumAt, cntS]
  | d :: r, A, e, hg => by
    have ih := sum_kindN k hk ns r (A ++ [d]) (by rw [e]; simp) (fun x hx => hg x (by simp [hx]))
    have hl : (A ++ [d]).length = A.length + 1 := by simp
    rw [hl] at ih
    rw [findN, sumAt_append, ih, cntS, fit_kind d k (hg d (by simp)) hk]
    have hn : numAt ns (A.length : Int) = d.n := by
      unfold numAt
      rw [e]
      simp
    by_cases hd : d.k = k
    · simp [hd, sumAt, hn]
    · simp [hd, sumAt]
theorem sum_kind (k : Int) (hk : 0 ≤ k) (ns : List ND) (hg : ∀ d ∈ ns, d.good) : sumAt ns (findL ns (kindAsk k)) = cntS k ns := sum_kindN k hk ns ns [] rfl hg
theorem findN_mem (a : AD) : ∀ (r : List ND) (i : Nat) (x : Int), x ∈ findN a r i → (i : Int) ≤ x ∧ x < i + r.length
  | [], i, x, h => by simp [findN] at h
  | d :: r, i, x, h => by
    rw [findN, List.mem_append] at h
    rcases h with h | h
    · split at h
      · simp at h; subst h; simp; omega
      · simp at h
    · have := findN_mem a r (i + 1) x h
      simp only [List.length_cons]
      omega
theorem findL_mem (ns : List ND) (a : AD) (x : Int) (h : x ∈ findL ns a) : 0 ≤ x ∧ x < ns.length := by
  have := findN_mem a ns 0 x h
  omega

theorem counts_mem (ns : List ND) : ∀ (K : Nat) (c : CD), c ∈ countsN ns K → ∃ k : Nat, k < K ∧ c.k = k ∧ c.n = cntN k ns ∧ 0 < cntN k ns ∧ c.s = wrap64 (cntS k ns)
  | 0, c, h => by simp [countsN] at h
  | K + 1, c, h => by
    rw [countsN, List.mem_append] at h
    rcases h with h | h
    · obtain ⟨k, h1, h2⟩ := counts_mem ns K c h
      exact ⟨k, by omega, h2⟩
    · split at h
      · simp at h; subst h; exact ⟨K, by omega, rfl, rfl, by assumption, rfl⟩
      · simp at h
def sumC (l : List CD) : Int := (l.map CD.n).sum
theorem sumC_append (a b : List CD) : sumC (a ++ b) = sumC a + sumC b := by simp [sumC]
/-- How many notes have a kind below K. -/
def below (K : Nat) : List ND → Nat
  | [] => 0
  | d :: r => (if 0 ≤ d.k ∧ d.k < K then 1 else 0) + below K r
theorem below_succ (K : Nat) : ∀ ns : List ND, below (K + 1) ns = below K ns + cntN K ns
  | [] => rfl
  | d :: r => by
    have := below_succ K r
    simp only [below, cntN, this]
    by_cases h1 : d.k = (K : Int)
    · have e1 : (0 ≤ d.k ∧ d.k < ((K + 1 : Nat) : Int)) := by omega
      have e2 : ¬ (0 ≤ d.k ∧ d.k < (K : Int)) := by omega
      rw [if_pos e1, if_neg e2, if_pos h1]; omega
    · by_cases h2 : 0 ≤ d.k ∧ d.k < (K : Int)
      · have e1 : (0 ≤ d.k ∧ d.k < ((K + 1 : Nat) : Int)) := by omega
        rw [if_pos e1, if_pos h2, if_neg h1]; omega
      · have e1 : ¬ (0 ≤ d.k ∧ d.k < ((K + 1 : Nat) : Int)) := by omega
        rw [if_neg e1, if_neg h2, if_neg h1]; omega
theorem sum_counts (ns : List ND) : ∀ K : Nat, sumC (countsN ns K) = below K ns
  | 0 => by
    have : ∀ l : List ND, below 0 l = 0 := fun l => by
      induction l with
      | nil => rfl
      | cons d r ih =>
        have : ¬ (0 ≤ d.k ∧ d.k < ((0 : Nat) : Int)) := by omega
        simp only [below, ih, if_neg this]
    simp [countsN, sumC, this]
  | K + 1 => by
    rw [countsN, sumC_append, sum_counts ns K, below_succ]
    split
    · simp [sumC]
    · have : cntN K ns = 0 := by omega
      simp [sumC, this]
theorem sum_all (ns : List ND) (hg : ∀ d ∈ ns, d.good) : sumC (countsL ns) = ns.length := by
  rw [countsL, sum_counts]
  induction ns with
  | nil => rfl
  | cons d r ih =>
    have h1 := (hg d (by simp)).k0
    have h2 := (hg d (by simp)).k1
    have e : 0 ≤ d.k ∧ d.k < ((101 : Nat) : Int) := by omega
    have := ih (fun x hx => hg x (by simp [hx]))
    simp only [below, if_pos e, List.length_cons]
    omega
end Go.Proofs.Ytepagknkhlpicaa
