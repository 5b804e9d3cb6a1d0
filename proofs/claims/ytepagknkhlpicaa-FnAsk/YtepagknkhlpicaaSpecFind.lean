/-
  What is found: spec.l4has, spec.Find.
-/
import Derived.Test.YtepagknkhlpicaaNoteMark
namespace Go.Proofs.Ytepagknkhlpicaa
open Go.ChangeShapes Go.WideShapes Go.ChangeAt Go.RowKit Go.Deep
set_option linter.unusedVariables false
set_option linter.unusedSimpArgs false

/-- A part stands in a text at a place; somewhere. -/
def hasAt (s p : ByteArray) (i : Nat) : Bool := decide (i + p.size ≤ s.size) && ((s.extract i (i + p.size)).toList == p.toList)
def hasB (s p : ByteArray) : Bool := (List.range (s.size + 1)).any (hasAt s p)

set_option maxHeartbeats 1000000 in
theorem l4has_any (s p : ByteArray) (w : World) (hs : s.size ≤ 1000000000) (hp : p.size ≤ 1000000000) :
    Calls Try.prog 64 #[.string s, .string p] w fun e w' => e = .returned (.bool (hasB s p)) ∧ w' = w := by
  have HE : Hid (∀ b : Bool, (b = true ↔ ∃ q, q < s.size + 1 ∧ hasAt s p q = true) → b = hasB s p) := by
    intro b hb
    have h2 : hasB s p = true ↔ ∃ q, q < s.size + 1 ∧ hasAt s p q = true := by simp only [hasB, List.any_eq_true, List.mem_range]
    rw [Bool.eq_iff_iff, hb, h2]
  go_enter Try.func64, Try.ntmps64
  go_wp2
  go_loop [5] (fun i => ∃ (j : Nat), i = .int .i64 j ∧ j ≤ s.size + 1 ∧ ∀ q, q < j → hasAt s p q = false) (fun i => s.size + 1 - (intOf i).toNat)
  case atStart => exact ⟨0, rfl, by omega, fun q hq => by omega⟩
  case round =>
    obtain ⟨j, rfl, hj, hno⟩ := hrel
    have HN : Hid (∀ q, q < j → hasAt s p q = false) := hno
    clear hno
    by_cases hlt : j + p.size ≤ s.size
    · have i1 : (j : Int) + (p.size : Int) ≤ (s.size : Int) := by omega
      have i0 : (0 : Int) ≤ (j : Int) := by omega
      cases hq : ((s.extract j (j + p.size)).toList == p.toList) with
      | true =>
        go_wp2
        go_ret
        exact ⟨by rw [← HE.out true (by simp only [true_iff]; exact ⟨j, by omega, by simp only [hasAt, hq, Bool.and_true, decide_eq_true_eq]; exact hlt⟩)]; rfl, rfl⟩
      | false =>
        go_wp2
        go_round
        case rel =>
          refine ⟨j + 1, by go_num, by omega, fun q hq' => ?_⟩
          by_cases e : q = j
          · subst e
            simp only [hasAt, hq, Bool.and_false]
          · exact HN.out q (by omega)
        case measure => simp [intOf]; omega
    · have i1 : ¬ ((j : Int) + (p.size : Int) ≤ (s.size : Int)) := by omega
      go_wp2
      go_ret
      refine ⟨?_, rfl⟩
      rw [← HE.out false ?_]
      · rfl
      · simp only [Bool.false_eq_true, false_iff]
        rintro ⟨q, hq, h⟩
        by_cases e : q < j
        · rw [HN.out q e] at h; cases h
        · simp only [hasAt, Bool.and_eq_true, decide_eq_true_eq] at h
          omega

/-- A question. -/
structure AD where
  lo : Int
  hi : Int
  kind : Int
  who : Int
  part : ByteArray
def AD.val (a : AD) : Value := .agg #[.int .i64 a.lo, .int .i64 a.hi, .int .i64 a.kind, .int .i64 a.who, .string a.part]
def fitB (d : ND) (a : AD) : Bool := decide (a.lo ≤ d.t) && decide (d.t ≤ a.hi) && ((a.kind == -1) || (a.kind == d.k)) && ((a.who == -1) || (a.who == d.p)) && hasB d.s a.part
def findN (a : AD) : List ND → Nat → List Int
  | [], _ => []
  | d :: r, i => (if fitB d a then [(i : Int)] else []) ++ findN a r (i + 1)
def findL (ns : List ND) (a : AD) : List Int := findN a ns 0
theorem findN_append (a : AD) : ∀ (A B : List ND) (i : Nat), findN a (A ++ B) i = findN a A i ++ findN a B (i + A.length)
  | [], B, i => by simp [findN]
  | d :: r, B, i => by simp [findN, findN_append a r B (i + 1)]; congr 1; omega
theorem findL_succ (ns : List ND) (a : AD) (j : Nat) (hj : j < ns.length) : findL (ns.take (j + 1)) a = findL (ns.take j) a ++ (if fitB ns[j] a then [(j : Int)] else []) := by
  have e : (ns.take j).length = j := by simp; omega
  rw [findL, List.take_succ_eq_append_getElem hj, findN_append, e, Nat.zero_add]
  simp [findL, findN]
theorem findN_length (a : AD) : ∀ (A : List ND) (i : Nat), (findN a A i).length ≤ A.length
  | [], i => by simp [findN]
  | d :: r, i => by
    have := findN_length a r (i + 1)
    simp only [findN, List.length_append, List.length_cons]
    split <;> simp <;> omega

theorem infoI : (Try.prog.info? 3).map (fun i => (i.zero, i.size, i.bytes)) = some (some (.int .i64 0), 1, 8) := by kernel_rfl

set_option maxRecDepth 5000 in
set_option maxHeartbeats 4000000 in
theorem specFind_any (N : Nat) (v : Value) (ns : List ND) (a : AD) (w : World) (h : RNS N w v ns) (hN : N ≤ w.heap.size) (hl : ns.length ≤ 100000000) (hs : ∀ d ∈ ns, d.s.size ≤ 1000000000) (hp : a.part.size ≤ 1000000000) :
    Calls Try.prog 23 #[v, a.val] w fun e w' => ∃ vo, e = .returned vo ∧ w'.ownsRow w.heap.size 3 1 vo (findL ns a).length ((findL ns a).map (Value.int .i64)) ∧ Below w.heap.size w w' := by
  obtain ⟨av, cap, rfl, h1, h2, hx⟩ := h
  unfold maxLen at h2
  unfold AD.val
  go_enter Try.func23, Try.ntmps23
  go_wp2
  have hi5 := info_parts infoI
  obtain ⟨i0, hi, hz0, hz1, hz2⟩ := hi5
  go_loopw [5, 10] (fun o i wr => ∃ (j : Nat), j ≤ ns.length ∧ i = .int .i64 j ∧ wr.heap[w.heap.size]? = some (.cells #[.int .i64 a.lo, .int .i64 a.hi, .int .i64 a.kind, .int .i64 a.who, .string a.part] 38 (0, 0)) ∧ wr.ownsRow (w.heap.size + 1) 3 1 o (findL (ns.take j) a).length ((findL (ns.take j) a).map (Value.int .i64)) ∧ Below w.heap.size w wr ∧ w.heap.size < wr.heap.size) (fun _ i _ => ns.length - (intOf i).toNat)
  case atStart => exact ⟨0, Nat.zero_le _, rfl, heap_alloc_new w _, World.ownsRow_nil _ _ _ _, (Below.refl _ w).alloc (Nat.le_refl _) _, by simp⟩
  case round =>
    obtain ⟨j, hj, rfl, hA, hown, hb, hsz⟩ := hrel
    by_cases hlt : j < ns.length
    · obtain ⟨g, off, rfl, hgN, hat⟩ := hx j hlt
      obtain ⟨m0, m1, m2, m3, m4⟩ := hat.below hb (by omega)
      have hsj := hs ns[j] (List.getElem_mem hlt)
      have HS : Hid (findL (ns.take (j + 1)) a = findL (ns.take j) a ++ (if fitB ns[j] a then [(j : Int)] else [])) := findL_succ ns a j hlt
      generalize ns[j] = d at m0 m1 m2 m3 m4 hsj HS
      have q0 : (0 : Int) ≤ (j : Int) := by omega
      have q1 : (j : Int) < (ns.length : Int) := by omega
      obtain ⟨⟨c0, c1, c2, c3, c4⟩, fc⟩ := b5cells hA
      clear hx hat
      have hA1 : (wr.alloc (.cells #[.int .i64 d.t, .int .i64 d.k, .int .i64 d.p, .int .i64 d.n, .string d.s] 26)).heap[w.heap.size]? = some (.cells #[.int .i64 a.lo, .int .i64 a.hi, .int .i64 a.kind, .int .i64 a.who, .string a.part] 38 (0, 0)) := by rw [Below.heap_alloc _ _ _ (by omega)]; exact hA
      have hown1 := hown.alloc (.cells #[.int .i64 d.t, .int .i64 d.k, .int .i64 d.p, .int .i64 d.n, .string d.s] 26)
      have hb1 := hb.alloc (by omega) (.cells #[.int .i64 d.t, .int .i64 d.k, .int .i64 d.p, .int .i64 d.n, .string d.s] 26)
      have hz1' : w.heap.size < (wr.alloc (.cells #[.int .i64 d.t, .int .i64 d.k, .int .i64 d.p, .int .i64 d.n, .string d.s] 26)).heap.size := by simp; omega
      have HA1 : Hid (_) := hA1
      have HO1 : Hid ((wr.alloc (.cells #[.int .i64 d.t, .int .i64 d.k, .int .i64 d.p, .int .i64 d.n, .string d.s] 26)).ownsRow (w.heap.size + 1) 3 1 u5 (findL (ns.take j) a).length ((findL (ns.take j) a).map (Value.int .i64))) := hown1
      have HB1 : Hid (_) := hb1
      have HZ1 : Hid (_) := hz1'
      have hfl : (findL (ns.take j) a).length ≤ j := by have := findN_length a (ns.take j) 0; have e : (ns.take j).length ≤ j := by simp; omega
                                                        unfold findL; omega
      clear hA1 hown1 hb1 hz1' hown hb hA
      have HSn : Hid (fitB d a = false → findL (ns.take (j + 1)) a = findL (ns.take j) a) := fun e => by rw [HS.out, e]; simp
      have HSy : Hid (fitB d a = true → findL (ns.take (j + 1)) a = findL (ns.take j) a ++ [(j : Int)]) := fun e => by rw [HS.out, e]; simp
      clear HS
      by_cases e1 : a.lo ≤ d.t
      · by_cases e2 : d.t ≤ a.hi
        · cases k1 : (a.kind == -1)
          · cases k2 : (a.kind == d.k)
            · have HF2 : Hid (fitB d a = false) := by show fitB d a = false; simp [fitB, *]
              go_wp2
              go_roundw
              case rel => exact ⟨j + 1, by omega, by go_num, HA1.out, by rw [HSn.out HF2.out]; exact HO1.out, HB1.out, HZ1.out⟩
              case measure => simp [intOf]; omega
            · cases p1 : (a.who == -1)
              · cases p2 : (a.who == d.p)
                · have HF2 : Hid (fitB d a = false) := by show fitB d a = false; simp [fitB, *]
                  go_wp2
                  go_roundw
                  case rel => exact ⟨j + 1, by omega, by go_num, HA1.out, by rw [HSn.out HF2.out]; exact HO1.out, HB1.out, HZ1.out⟩
                  case measure => simp [intOf]; omega
                · go_wp2_with fail
                  refine (l4has_any _ _ _ hsj hp).mono ?_
                  rintro e w1 ⟨rfl, rfl⟩
                  cases hh : hasB d.s a.part
                  · have HF2 : Hid (fitB d a = false) := by show fitB d a = false; simp [fitB, *]
                    go_wp2
                    go_roundw
                    case rel => exact ⟨j + 1, by omega, by go_num, HA1.out, by rw [HSn.out HF2.out]; exact HO1.out, HB1.out, HZ1.out⟩
                    case measure => simp [intOf]; omega
                  · have HF2 : Hid (fitB d a = true) := by show fitB d a = true; simp [fitB, *]
                    go_wp2_with (at_builtin; refine wpList_append_own _ rfl _ _ 40 rfl (w.heap.size + 1) 3 i0 (.int .i64 0) 1 8 Try.underlying40 hi hz0 hz1 hz2 rfl (by decide) _ _ _ rfl (HO1.out.alloc _) ⟨wr.heap.size + 1, 0, none⟩ 1 1 [.int .i64 (j : Int)] rfl rfl ?c1 ?c2 ?c3 ?c4 ?c5 ?_)
                    case c1 =>
                      intro q u hq
                      match q, hq with
                      | 0, hq => simp at hq; subst hq; simp [Addr.add]
                    case c2 => intro u hu; simp at hu; subst hu; rfl
                    case c3 => unfold maxLen; omega
                    case c4 => omega
                    case c5 => simp; omega
                    intro v2 w2 own2 grow2 _
                    have hlo := HO1.out.lt
                    have b12 : Below (w.heap.size + 1) (wr.alloc (.cells #[.int .i64 d.t, .int .i64 d.k, .int .i64 d.p, .int .i64 d.n, .string d.s] 26)) w2 := ((Below.refl _ _).alloc (by simp; omega) _).grown grow2 (by simp; omega) (fun k hk => (hlo k hk).1)
                    have HA2 : Hid (w2.heap[w.heap.size]? = some (.cells #[.int .i64 a.lo, .int .i64 a.hi, .int .i64 a.kind, .int .i64 a.who, .string a.part] 38 (0, 0))) := by show _ = _; rw [b12.block _ (by omega)]; exact HA1.out
                    have HO2 : Hid (w2.ownsRow (w.heap.size + 1) 3 1 v2 (findL (ns.take (j + 1)) a).length ((findL (ns.take (j + 1)) a).map (Value.int .i64))) := by show w2.ownsRow _ _ _ _ _ _; rw [HSy.out HF2.out]; simpa using own2
                    have zb := b12.size
                    clear own2 grow2 hlo
                    go_wp2
                    go_roundw
                    case rel => exact ⟨j + 1, by omega, by go_num, HA2.out, HO2.out, HB1.out.trans (b12.mono (by omega)), by have := HZ1.out; omega⟩
                    case measure => simp [intOf]; omega
              · go_wp2_with fail
                refine (l4has_any _ _ _ hsj hp).mono ?_
                rintro e w1 ⟨rfl, rfl⟩
                cases hh : hasB d.s a.part
                · have HF2 : Hid (fitB d a = false) := by show fitB d a = false; simp [fitB, *]
                  go_wp2
                  go_roundw
                  case rel => exact ⟨j + 1, by omega, by go_num, HA1.out, by rw [HSn.out HF2.out]; exact HO1.out, HB1.out, HZ1.out⟩
                  case measure => simp [intOf]; omega
                · have HF2 : Hid (fitB d a = true) := by show fitB d a = true; simp [fitB, *]
                  go_wp2_with (at_builtin; refine wpList_append_own _ rfl _ _ 40 rfl (w.heap.size + 1) 3 i0 (.int .i64 0) 1 8 Try.underlying40 hi hz0 hz1 hz2 rfl (by decide) _ _ _ rfl (HO1.out.alloc _) ⟨wr.heap.size + 1, 0, none⟩ 1 1 [.int .i64 (j : Int)] rfl rfl ?c1 ?c2 ?c3 ?c4 ?c5 ?_)
                  case c1 =>
                    intro q u hq
                    match q, hq with
                    | 0, hq => simp at hq; subst hq; simp [Addr.add]
                  case c2 => intro u hu; simp at hu; subst hu; rfl
                  case c3 => unfold maxLen; omega
                  case c4 => omega
                  case c5 => simp; omega
                  intro v2 w2 own2 grow2 _
                  have hlo := HO1.out.lt
                  have b12 : Below (w.heap.size + 1) (wr.alloc (.cells #[.int .i64 d.t, .int .i64 d.k, .int .i64 d.p, .int .i64 d.n, .string d.s] 26)) w2 := ((Below.refl _ _).alloc (by simp; omega) _).grown grow2 (by simp; omega) (fun k hk => (hlo k hk).1)
                  have HA2 : Hid (w2.heap[w.heap.size]? = some (.cells #[.int .i64 a.lo, .int .i64 a.hi, .int .i64 a.kind, .int .i64 a.who, .string a.part] 38 (0, 0))) := by show _ = _; rw [b12.block _ (by omega)]; exact HA1.out
                  have HO2 : Hid (w2.ownsRow (w.heap.size + 1) 3 1 v2 (findL (ns.take (j + 1)) a).length ((findL (ns.take (j + 1)) a).map (Value.int .i64))) := by show w2.ownsRow _ _ _ _ _ _; rw [HSy.out HF2.out]; simpa using own2
                  have zb := b12.size
                  clear own2 grow2 hlo
                  go_wp2
                  go_roundw
                  case rel => exact ⟨j + 1, by omega, by go_num, HA2.out, HO2.out, HB1.out.trans (b12.mono (by omega)), by have := HZ1.out; omega⟩
                  case measure => simp [intOf]; omega
          · cases p1 : (a.who == -1)
            · cases p2 : (a.who == d.p)
              · have HF2 : Hid (fitB d a = false) := by show fitB d a = false; simp [fitB, *]
                go_wp2
                go_roundw
                case rel => exact ⟨j + 1, by omega, by go_num, HA1.out, by rw [HSn.out HF2.out]; exact HO1.out, HB1.out, HZ1.out⟩
                case measure => simp [intOf]; omega
              · go_wp2_with fail
                refine (l4has_any _ _ _ hsj hp).mono ?_
                rintro e w1 ⟨rfl, rfl⟩
                cases hh : hasB d.s a.part
                · have HF2 : Hid (fitB d a = false) := by show fitB d a = false; simp [fitB, *]
                  go_wp2
                  go_roundw
                  case rel => exact ⟨j + 1, by omega, by go_num, HA1.out, by rw [HSn.out HF2.out]; exact HO1.out, HB1.out, HZ1.out⟩
                  case measure => simp [intOf]; omega
                · have HF2 : Hid (fitB d a = true) := by show fitB d a = true; simp [fitB, *]
                  go_wp2_with (at_builtin; refine wpList_append_own _ rfl _ _ 40 rfl (w.heap.size + 1) 3 i0 (.int .i64 0) 1 8 Try.underlying40 hi hz0 hz1 hz2 rfl (by decide) _ _ _ rfl (HO1.out.alloc _) ⟨wr.heap.size + 1, 0, none⟩ 1 1 [.int .i64 (j : Int)] rfl rfl ?c1 ?c2 ?c3 ?c4 ?c5 ?_)
                  case c1 =>
                    intro q u hq
                    match q, hq with
                    | 0, hq => simp at hq; subst hq; simp [Addr.add]
                  case c2 => intro u hu; simp at hu; subst hu; rfl
                  case c3 => unfold maxLen; omega
                  case c4 => omega
                  case c5 => simp; omega
                  intro v2 w2 own2 grow2 _
                  have hlo := HO1.out.lt
                  have b12 : Below (w.heap.size + 1) (wr.alloc (.cells #[.int .i64 d.t, .int .i64 d.k, .int .i64 d.p, .int .i64 d.n, .string d.s] 26)) w2 := ((Below.refl _ _).alloc (by simp; omega) _).grown grow2 (by simp; omega) (fun k hk => (hlo k hk).1)
                  have HA2 : Hid (w2.heap[w.heap.size]? = some (.cells #[.int .i64 a.lo, .int .i64 a.hi, .int .i64 a.kind, .int .i64 a.who, .string a.part] 38 (0, 0))) := by show _ = _; rw [b12.block _ (by omega)]; exact HA1.out
                  have HO2 : Hid (w2.ownsRow (w.heap.size + 1) 3 1 v2 (findL (ns.take (j + 1)) a).length ((findL (ns.take (j + 1)) a).map (Value.int .i64))) := by show w2.ownsRow _ _ _ _ _ _; rw [HSy.out HF2.out]; simpa using own2
                  have zb := b12.size
                  clear own2 grow2 hlo
                  go_wp2
                  go_roundw
                  case rel => exact ⟨j + 1, by omega, by go_num, HA2.out, HO2.out, HB1.out.trans (b12.mono (by omega)), by have := HZ1.out; omega⟩
                  case measure => simp [intOf]; omega
            · go_wp2_with fail
              refine (l4has_any _ _ _ hsj hp).mono ?_
              rintro e w1 ⟨rfl, rfl⟩
              cases hh : hasB d.s a.part
              · have HF2 : Hid (fitB d a = false) := by show fitB d a = false; simp [fitB, *]
                go_wp2
                go_roundw
                case rel => exact ⟨j + 1, by omega, by go_num, HA1.out, by rw [HSn.out HF2.out]; exact HO1.out, HB1.out, HZ1.out⟩
                case measure => simp [intOf]; omega
              · have HF2 : Hid (fitB d a = true) := by show fitB d a = true; simp [fitB, *]
                go_wp2_with (at_builtin; refine wpList_append_own _ rfl _ _ 40 rfl (w.heap.size + 1) 3 i0 (.int .i64 0) 1 8 Try.underlying40 hi hz0 hz1 hz2 rfl (by decide) _ _ _ rfl (HO1.out.alloc _) ⟨wr.heap.size + 1, 0, none⟩ 1 1 [.int .i64 (j : Int)] rfl rfl ?c1 ?c2 ?c3 ?c4 ?c5 ?_)
                case c1 =>
                  intro q u hq
                  match q, hq with
                  | 0, hq => simp at hq; subst hq; simp [Addr.add]
                case c2 => intro u hu; simp at hu; subst hu; rfl
                case c3 => unfold maxLen; omega
                case c4 => omega
                case c5 => simp; omega
                intro v2 w2 own2 grow2 _
                have hlo := HO1.out.lt
                have b12 : Below (w.heap.size + 1) (wr.alloc (.cells #[.int .i64 d.t, .int .i64 d.k, .int .i64 d.p, .int .i64 d.n, .string d.s] 26)) w2 := ((Below.refl _ _).alloc (by simp; omega) _).grown grow2 (by simp; omega) (fun k hk => (hlo k hk).1)
                have HA2 : Hid (w2.heap[w.heap.size]? = some (.cells #[.int .i64 a.lo, .int .i64 a.hi, .int .i64 a.kind, .int .i64 a.who, .string a.part] 38 (0, 0))) := by show _ = _; rw [b12.block _ (by omega)]; exact HA1.out
                have HO2 : Hid (w2.ownsRow (w.heap.size + 1) 3 1 v2 (findL (ns.take (j + 1)) a).length ((findL (ns.take (j + 1)) a).map (Value.int .i64))) := by show w2.ownsRow _ _ _ _ _ _; rw [HSy.out HF2.out]; simpa using own2
                have zb := b12.size
                clear own2 grow2 hlo
                go_wp2
                go_roundw
                case rel => exact ⟨j + 1, by omega, by go_num, HA2.out, HO2.out, HB1.out.trans (b12.mono (by omega)), by have := HZ1.out; omega⟩
                case measure => simp [intOf]; omega
        · have HF2 : Hid (fitB d a = false) := by show fitB d a = false; simp [fitB, *]
          go_wp2
          go_roundw
          case rel => exact ⟨j + 1, by omega, by go_num, HA1.out, by rw [HSn.out HF2.out]; exact HO1.out, HB1.out, HZ1.out⟩
          case measure => simp [intOf]; omega
      · have HF2 : Hid (fitB d a = false) := by show fitB d a = false; simp [fitB, *]
        go_wp2
        go_roundw
        case rel => exact ⟨j + 1, by omega, by go_num, HA1.out, by rw [HSn.out HF2.out]; exact HO1.out, HB1.out, HZ1.out⟩
        case measure => simp [intOf]; omega
    · have : j = ns.length := by omega
      subst this
      go_wp2
      go_ret
      rw [List.take_length] at hown
      exact ⟨_, rfl, own_low hown (by omega), hb⟩
end Go.Proofs.Ytepagknkhlpicaa
