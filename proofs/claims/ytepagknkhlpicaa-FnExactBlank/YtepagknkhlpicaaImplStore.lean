/-
  The program's store: lists, take of an empty queue, disk where nothing waits, Blank.
-/
import Derived.Test.YtepagknkhlpicaaSpecBlank
import Derived.Test.YtepagknkhlpicaaPage
import Derived.Deep.MidRow
namespace Go.Proofs.Ytepagknkhlpicaa
open Go.ChangeShapes Go.WideShapes Go.ChangeAt Go.RowKit
set_option linter.unusedVariables false
set_option linter.unusedSimpArgs false

/-- A zero byte. -/
def isZ : Value → Bool
  | .int .u8 (.ofNat 0) => true
  | _ => false
/-- So many zero bytes, and then a nil slice. -/
def zs : List Value → Nat → Bool
  | [], _ => false
  | v :: l, 0 => (match v, l with | .slice none 0 0, [] => true | _, _ => false)
  | v :: l, n + 1 => isZ v && zs l n
theorem isZ_eq {v : Value} (h : isZ v = true) : v = .int .u8 0 := by
  unfold isZ at h
  split at h
  · rfl
  · cases h
theorem zs_eq : ∀ (l : List Value) (n : Nat), zs l n = true → l = List.replicate n (.int .u8 0) ++ [.slice none 0 0]
  | [], _, h => by simp [zs] at h
  | v :: l, 0, h => by
    simp only [zs] at h
    split at h
    · rfl
    · cases h
  | v :: l, n + 1, h => by
    simp only [zs, Bool.and_eq_true] at h
    rw [isZ_eq h.1, zs_eq l n h.2]
    rfl
theorem zcStore : Try.zeroCells108.toList = List.replicate 8192 (.int .u8 0) ++ [.slice none 0 0] := zs_eq _ _ (by kernel_rfl)
theorem szStore : (Try.prog.info? 108).map (·.size) = some 8193 := by kernel_rfl
theorem szBlocks : (Try.prog.info? 103).map (·.size) = some 8192 := by kernel_rfl
theorem szPending : (Try.prog.info? 126).map (·.size) = some 65 := by kernel_rfl
theorem zpSize : Try.zeroCells126.size = 65 := by kernel_rfl
theorem zpAll : Try.zeroCells126.all (·.oneCell') = true := by kernel_rfl

/-- A store's blocks. -/
structure StB (C : Array Value) (BS : List (List Int)) : Prop where
  size : C.size = 8193
  len : BS.length = 128
  row : ∀ (j : Nat) (h : j < BS.length), C.extract (j * 64) (j * 64 + 64) = (BS[j].map (Value.int .u8)).toArray ∧ BS[j].length = 64

set_option maxRecDepth 5000 in
set_option maxHeartbeats 1000000 in
theorem take_none (S off : Nat) (w : World) (hc : w.cell? ⟨S, off, none⟩ = some (.slice none 0 0)) :
    Calls Try.prog 89 #[.pointer (some ⟨S, off, none⟩)] w fun e w' => e = .returned (.tuple #[.agg Try.zeroCells126, .bool false]) ∧ w' = w.alloc (.cells Try.zeroCells126 126) := by
  have hz := Try.zeroValue126
  have hsz := zpSize
  have hall := zpAll
  generalize Try.zeroCells126 = Z at hz hsz hall
  have HZ : Hid (∀ w, (zeroValue 126).run Try.prog w = .ok (.agg Z) w) := hz
  have gZ := heap_alloc_new w (.cells Z 126)
  have hS : S < w.heap.size := World.block_lt_of_cell? w _ hc
  have hc' : (w.alloc (.cells Z 126)).cell? ⟨S, off, none⟩ = some (.slice none 0 0) := by
    rw [((Below.refl _ w).alloc (Nat.le_refl _) (.cells Z 126)).cell (p := ⟨S, off, none⟩) hS]
    exact hc
  clear hz
  go_enter Try.func89, Try.ntmps89
  go_wp2_with (first | (refine wpList_alloc_row rfl 126 rfl Z HZ.out ?_) | (refine wpList_load_row rfl 126 _ rfl w.heap.size rfl 126 Z (0, 0) _ gZ Try.underlying126 rfl (by rw [hsz]; exact szPending) ?_) | (refine wpList_store_same rfl 126 _ _ rfl w.heap.size rfl 126 Z rfl gZ (by rw [hsz]; exact szPending) hall ?_))
  exact bodyPost_ret (results_cell_tmp' rfl _ _ w.heap.size 126 Z (0, 0) _ rfl gZ Try.underlying126 rfl (by rw [hsz]; exact szPending)) rfl ⟨rfl, rfl⟩

theorem ext_take (C : Array Value) (j : Nat) (h : j < 128) (hC : C.size = 8193) : (C.toList.take 8192).toArray.extract (j * 64) (j * 64 + 64) = C.extract (j * 64) (j * 64 + 64) := by
  apply Array.ext_getElem?
  intro i
  simp only [Array.getElem?_extract, List.getElem?_toArray, List.size_toArray, List.length_take, Array.length_toList]
  have e : min 8192 C.size = 8192 := by omega
  rw [e]
  by_cases hi : i < 64
  · have h1 : i < min (j * 64 + 64) 8192 - j * 64 := by omega
    have h2 : i < min (j * 64 + 64) C.size - j * 64 := by omega
    rw [if_pos h1, if_pos h2, List.getElem?_take_of_lt (by omega)]
    simp
  · have h1 : ¬ i < min (j * 64 + 64) 8192 - j * 64 := by omega
    have h2 : ¬ i < min (j * 64 + 64) C.size - j * 64 := by omega
    rw [if_neg h1, if_neg h2]

set_option maxRecDepth 5000 in
set_option maxHeartbeats 4000000 in
theorem lists_any (S : Nat) (C : Array Value) (BS : List (List Int)) (w : World) (hS : w.heap[S]? = some (.cells C 108 (0, 0))) (hC : StB C BS) :
    Calls Try.prog 88 #[.pointer (some ⟨S, 0, none⟩)] w fun e w' => ∃ v rows, e = .returned v ∧ OBB w.heap.size w' v rows BS ∧ Below w.heap.size w w' := by
  have hSlt := lt_of_block hS
  have hmk := make_BB 128 128 rfl (by omega)
  have hCs := hC.size
  have hBl := hC.len
  obtain ⟨L0, hL0, hL0s⟩ : ∃ L0 : Array Value, Array.replicate 128 (Value.slice none 0 0) = L0 ∧ L0.size = 128 := ⟨_, rfl, by simp⟩
  rw [hL0] at hmk
  clear hL0
  have bL : Below w.heap.size w (w.alloc (.cells L0 22)) := (Below.refl _ w).alloc (Nat.le_refl _) _
  have hSL : (w.alloc (.cells L0 22)).heap[S]? = some (.cells C 108 (0, 0)) := by rw [bL.block _ hSlt]; exact hS
  have hrg : (w.alloc (.cells L0 22)).rangeAt S 0 (C.toList.take 8192) := fun j u hj => by
    rw [Nat.zero_add, cell_of_row _ _ j C _ _ hSL]
    have hjl : j < 8192 := by
      rcases Nat.lt_or_ge j 8192 with h | h
      · exact h
      · rw [List.getElem?_eq_none (by simp; omega)] at hj; simp at hj
    rw [List.getElem?_take_of_lt hjl] at hj
    simpa using hj
  have hrl : (Try.prog.info? 103).map (·.size) = some (C.toList.take 8192).length := by
    rw [szBlocks]
    simp [hCs]
  obtain ⟨R, hR⟩ : ∃ R, R = (C.toList.take 8192) := ⟨_, rfl⟩
  have HRr : Hid (R = (C.toList.take 8192)) := hR
  rw [← hR] at hrg hrl
  have HRG : Hid ((w.alloc (.cells L0 22)).rangeAt S 0 R ∧ (Try.prog.info? 103).map (·.size) = some R.length) := ⟨hrg, hrl⟩
  have HC : Hid (StB C BS) := hC
  have HBl : Hid (BS.length = 128) := hBl
  clear hrg hrl hR hC hS hSL hCs hBl
  have gL := heap_alloc_new w (.cells L0 22)
  go_enter Try.func88, Try.ntmps88
  go_wp2_with (refine wpList_load_mid rfl 103 _ rfl S 0 rfl R _ HRG.out.1 Try.underlying103 rfl HRG.out.2 ?_)
  go_loopw [4, 5, 11] (fun _ _ i wr => ∃ (j : Nat) (c : Array Value) (rows : List Value), j ≤ 128 ∧ i = .int .i64 j ∧ wr.heap[w.heap.size]? = some (.cells c 22 (0, 0)) ∧ c.size = 128 ∧ c.toList.take j = rows ∧ OwnRows (w.heap.size + 1) wr rows (BS.take j) ∧ (fps rows).Nodup ∧ Below w.heap.size w wr ∧ w.heap.size < wr.heap.size) (fun _ _ i _ => 128 - (intOf i).toNat)
  case atStart => exact ⟨0, L0, [], Nat.zero_le _, rfl, gL, hL0s, rfl, trivial, by simp [fps], bL, by simp⟩
  case round =>
    obtain ⟨j, c, rows, hj, rfl, hg, hcs, hct, hrows, hnd, hb, hsz⟩ := hrel
    by_cases hlt : j < 128
    · have hjB : j < BS.length := by rw [HBl.out]; exact hlt
      obtain ⟨hrow, h64⟩ := HC.out.row j hjB
      have HTK : Hid (BS.take (j + 1) = BS.take j ++ [BS[j]]) := List.take_succ_eq_append_getElem hjB
      generalize BS[j] = bj at hrow h64 HTK
      have hix : ∀ W, (Instr.index 103 (.agg R.toArray) (.int .i64 j)).run Try.prog W = .ok (.agg (bj.map (Value.int .u8)).toArray) W := fun W => by
        rw [run_index_agg 103 86 128 64 j R.toArray .i64 W Try.underlying103 Try.isAgg86 Try.sizeOf86 hlt, HRr.out, ext_take C j hlt HC.out.size, hrow]
      have hAs : (bj.map (Value.int .u8)).toArray.size = 64 := by simp [h64]
      have hAa : (bj.map (Value.int .u8)).toArray.all (·.oneCell') = true := by simp [Value.oneCell']
      generalize hA : (bj.map (Value.int .u8)).toArray = A at hix hAs hAa
      have HA : Hid ((bj.map (Value.int .u8)).toArray = A) := hA
      have HIX : Hid (∀ W, (Instr.index 103 (.agg R.toArray) (.int .i64 j)).run Try.prog W = .ok (.agg A) W) := hix
      have H64 : Hid (bj.length = 64) := h64
      have gZ := heap_alloc_new wr (.cells zeroA 86)
      have gA := heap_alloc_new wr (.cells A 86)
      have hzs := zeroA_size
      have bA : Below wr.heap.size wr (wr.alloc (.cells A 86)) := (Below.refl _ wr).alloc (Nat.le_refl _) _
      clear hA hix hrow h64 hjB
      go_wp2_with (first | (refine wpList_index rfl 103 _ _ rfl (.agg R.toArray) (.int .i64 j) (.agg A) rfl rfl (HIX.out _) ?_) | (refine wpList_alloc_row rfl 86 rfl zeroA zero76' ?_) | (refine wpList_store_row rfl 86 _ _ rfl wr.heap.size A rfl rfl 86 zeroA gZ (by rw [hAs]; exact sz76) (by omega) hAa ?_; rw [World.setRow_alloc_new]) | (refine wpList_load_row rfl 86 _ rfl wr.heap.size rfl 86 A (0, 0) _ gA Try.underlying86 rfl (by rw [hAs]; exact sz76) ?_))
      refine (list_any A _ hAs).mono ?_; rintro e w1 ⟨rfl, hw1⟩
      have own1 : w1.ownsRow wr.heap.size 86 1 (.slice (some ⟨wr.heap.size + 1, 0, none⟩) 64 64) bj.length (bj.map (Value.int .u8)) := by
        rw [hw1, H64.out]
        have e : (bj.map (Value.int .u8)) = A.toList := by rw [← HA.out]
        rw [e]
        exact own_array (wr.alloc (.cells A 86)) A 86 64 _ _ hAs (by omega) (by simp) (by simp)
      have b1 : Below wr.heap.size wr w1 := by rw [hw1]; exact bA.alloc (by simp) _
      have hw1s : (wr.alloc (.cells A 86)).heap.size = wr.heap.size + 1 := by simp
      rw [hw1s]
      clear hw1 hw1s
      have hg1 : w1.heap[w.heap.size]? = some (.cells c 22 (0, 0)) := by rw [b1.block _ hsz]; exact hg
      have hfz := fun q => Joins.unfrozen_of_block hg1 q
      have hcl : ∃ x, w1.cell? ⟨w.heap.size, j, none⟩ = some x := by rw [Joins.cell_of_block hg1]; exact ⟨_, Array.getElem?_eq_getElem (by omega)⟩
      obtain ⟨x, hcl⟩ := hcl
      go_wp2
      go_roundw
      case rel =>
        have z1 := b1.size
        have hrl := hrows.lt
        have hbw : But (fun k => k = w.heap.size) w1 (w1.setCell ⟨w.heap.size, j, none⟩ (.slice (some ⟨wr.heap.size + 1, 0, none⟩) 64 64)) := ⟨rfl, rfl, rfl, by simp [World.setCell], fun k hk => by rw [Below.heap_setCell _ _ _ _ hk]⟩
        refine ⟨j + 1, c.setIfInBounds j (.slice (some ⟨wr.heap.size + 1, 0, none⟩) 64 64), rows ++ [.slice (some ⟨wr.heap.size + 1, 0, none⟩) 64 64], by omega, by go_num, Joins.block_setCell hg1 _, by simp [hcs], take_set hct hcs hlt, ?_, nodup_fps hnd (fun k hk => (hrl k hk).2) (fun k hk => (own1.lt k hk).1), (hb.trans (b1.mono (by omega))).setCell (by simp) _, by simp [World.setCell]; omega⟩
        rw [HTK.out]
        refine OwnRows.snoc (hrows.same (fun k hk => ?_)) (own_low (own_same own1 (fun k hk => hbw.block k ?_)) (by omega))
        · have := hrl k hk
          rw [hbw.block k (by omega), b1.block k (by omega)]
        · have := own1.lt k hk
          omega
      case measure => simp [intOf]; omega
    · have hje : j = 128 := by omega
      subst hje
      go_wp2
      go_ret
      have hBl := HBl.out
      rw [List.take_of_length_le (by omega)] at hrows
      have hrl := hrows.length
      have hlt' := hrows.lt
      refine ⟨.slice (some ⟨w.heap.size, 0, none⟩) 128 128, rows, rfl, ⟨⟨by omega, .inr ⟨w.heap.size, 128, c, by rw [hBl], Nat.le_refl _, hg, by omega, by unfold maxLen; omega, by omega, by rw [hBl, Nat.mul_one]; exact hct⟩⟩, hrows.low (by omega), ?_⟩, hb⟩
      have e : fps (Value.slice (some ⟨w.heap.size, 0, none⟩) 128 128 :: rows) = w.heap.size :: fps rows := by simp [fps, Value.ownBlock]
      rw [e, List.nodup_cons]
      exact ⟨fun h => by have := hlt' _ h; omega, hnd⟩
end Go.Proofs.Ytepagknkhlpicaa
