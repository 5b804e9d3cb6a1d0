/-
  A note is read back from its frame: plain mathematics.
-/
import Derived.Test.YtepagknkhlpicaaRead
import Derived.Test.YtepagknkhlpicaaDraw3
namespace Go.Proofs.Ytepagknkhlpicaa
open Go.RowKit
set_option linter.unusedVariables false
set_option linter.unusedSimpArgs false

theorem pad_eq (bs : List Int) : ∀ (n q : Nat), q + n ≤ bs.length → pad bs q n = (bs.drop q).take n
  | 0, q, _ => by simp [pad]
  | n + 1, q, h => by
    rw [pad, pad_eq bs n (q + 1) (by omega), List.drop_eq_getElem_cons (by omega : q < bs.length), List.take_succ_cons, List.getD_eq_getElem?_getD, List.getElem?_eq_getElem (by omega)]
    rfl

theorem push_data (l : List Int) : ∀ s : ByteArray, (l.foldl (fun r n => r.push (UInt8.ofNat n.toNat)) s).data.toList = s.data.toList ++ l.map (fun n => UInt8.ofNat n.toNat) := by
  induction l with
  | nil => intro s; simp
  | cons x l ih => intro s; simp only [List.foldl_cons, ih, List.map_cons]; simp [ByteArray.push]
theorem mkS_txt (s : ByteArray) : mkS (txt s) = s := by
  have h : (mkS (txt s)).data.toList = s.data.toList := by
    rw [mkS, push_data]
    have e : ((fun n : Int => UInt8.ofNat n.toNat) ∘ fun c : UInt8 => (c.toNat : Int)) = id := by funext c; simp
    simp [txt, e]
  have h2 : (mkS (txt s)).data = s.data := Array.ext' h
  cases hm : mkS (txt s)
  cases s
  simp_all

theorem frame_read (d : ND) (hd : d.good) (rest : List Int) : readV (frameL d.t d.k d.p d.n d.s ++ rest) = frV true d.t d.k d.p d.n d.s (17 + d.s.size) := by
  obtain ⟨t, k, p, n, s⟩ := d
  have hok := Good.ok hd
  obtain ⟨t0, t1, k0, k1, p0, p1, s1, wf⟩ := hd
  have hn := wf64_out wf
  simp only at *
  have hN : wrap64 (IntKind.u64.wrap n) = n := by rw [IntKind.wrap_u64, wrap64]; omega
  have hNb : 0 ≤ IntKind.u64.wrap n ∧ IntKind.u64.wrap n < 18446744073709551616 := by rw [IntKind.wrap_u64]; omega
  generalize hNe : IntKind.u64.wrap n = N at hN hNb
  have hb : frameL t k p n s ++ rest = 78 :: (s.size : Int) :: (t % 256) :: (t / 256 % 256) :: (t / 256 / 256 % 256) :: (t / 256 / 256 / 256 % 256) :: k :: (p % 256) :: (p / 256 % 256) :: (N % 256) :: (N / 256 % 256) :: (N / 256 / 256 % 256) :: (N / 256 / 256 / 256 % 256) :: (N / 256 / 256 / 256 / 256 % 256) :: (N / 256 / 256 / 256 / 256 / 256 % 256) :: (N / 256 / 256 / 256 / 256 / 256 / 256 % 256) :: (N / 256 / 256 / 256 / 256 / 256 / 256 / 256 % 256) :: (txt s ++ rest) := by
    simp [frameL, le, hNe]
  have hlen : (frameL t k p n s ++ rest).length = 17 + s.size + rest.length := by simp [frameL_length]
  have e0 : (frameL t k p n s ++ rest).getD 0 0 = 78 := by rw [hb]; rfl
  have e1 : (frameL t k p n s ++ rest).getD 1 0 = s.size := by rw [hb]; rfl
  have e6 : (frameL t k p n s ++ rest).getD 6 0 = k := by rw [hb]; rfl
  have eT : un (pad (frameL t k p n s ++ rest) 2 4) = t := by
    rw [hb]
    show (t % 256) + 256 * ((t / 256 % 256) + 256 * ((t / 256 / 256 % 256) + 256 * ((t / 256 / 256 / 256 % 256) + 256 * 0))) = t
    omega
  have eP : un (pad (frameL t k p n s ++ rest) 7 2) = p := by
    rw [hb]
    show (p % 256) + 256 * ((p / 256 % 256) + 256 * 0) = p
    omega
  have eN : un (pad (frameL t k p n s ++ rest) 9 8) = N := by
    rw [hb]
    show (N % 256) + 256 * ((N / 256 % 256) + 256 * ((N / 256 / 256 % 256) + 256 * ((N / 256 / 256 / 256 % 256) + 256 * ((N / 256 / 256 / 256 / 256 % 256) + 256 * ((N / 256 / 256 / 256 / 256 / 256 % 256) + 256 * ((N / 256 / 256 / 256 / 256 / 256 / 256 % 256) + 256 * ((N / 256 / 256 / 256 / 256 / 256 / 256 / 256 % 256) + 256 * 0))))))) = N
    omega
  have eS : mkS (pad (frameL t k p n s ++ rest) 17 s.size) = s := by
    rw [pad_eq _ _ _ (by omega), hb]
    have : (txt s ++ rest).take s.size = txt s := by rw [List.take_append_of_le_length (by rw [txt_length]; omega), List.take_of_length_le (by rw [txt_length]; omega)]
    show mkS ((txt s ++ rest).take s.size) = s
    rw [this, mkS_txt]
  unfold readV
  rw [e0, e1, e6, eT, eP, eN, Int.toNat_natCast, eS, hN, if_pos ⟨rfl, by omega, hok⟩]

theorem frame_cut (d : ND) (hd : d.good) : readV ((frameL d.t d.k d.p d.n d.s).take (16 + d.s.size)) = frNo := by
  have hlen : ((frameL d.t d.k d.p d.n d.s).take (16 + d.s.size)).length = 16 + d.s.size := by simp [frameL_length]
  have e1 : ((frameL d.t d.k d.p d.n d.s).take (16 + d.s.size)).getD 1 0 = d.s.size := by
    rw [List.getD_eq_getElem?_getD, List.getElem?_take_of_lt (by omega)]
    rfl
  unfold readV
  rw [if_neg]
  rw [e1, hlen]
  omega

theorem frame_byt (d : ND) (hd : d.good) : Byt (frameL d.t d.k d.p d.n d.s) := by
  obtain ⟨t0, t1, k0, k1, p0, p1, s1, wf⟩ := hd
  have hle : ∀ (n : Nat) (v : Int), Byt (le v n) := by
    intro n
    induction n with
    | zero => intro v b hb; simp [le] at hb
    | succ n ih =>
      intro v b hb
      simp only [le, List.mem_cons] at hb
      rcases hb with rfl | hb
      · omega
      · exact ih _ b hb
  intro b hb
  simp only [frameL, List.mem_append, List.mem_cons, List.not_mem_nil, or_false, txt, List.mem_map] at hb
  rcases hb with ((((h | h) | h) | h) | h) | ⟨c, _, rfl⟩
  · rcases h with rfl | rfl <;> omega
  · exact hle _ _ b h
  · subst h; omega
  · exact hle _ _ b h
  · exact hle _ _ b h
  · have := c.toNat_lt; omega
end Go.Proofs.Ytepagknkhlpicaa
