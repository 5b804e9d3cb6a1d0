/-
  spec.DiskOk.
-/
import Derived.Test.YtepagknkhlpicabRRRRDiskOpen
namespace Go.Proofs.YtepagknkhlpicabRRRR
open Go.ChangeShapes Go.WideShapes Go.ChangeAt Go.RowKit
set_option linter.unusedVariables false
set_option linter.unusedSimpArgs false

/-- A write is right. -/
def WD.okB (d : WD) : Bool := inB d.blk 0 127 && d.bs.length == 64
/-- A disk is right. -/
def DD.okB (D : DD) : Bool := D.bb.length == 128 && decide (D.ws.length ≤ 200) && D.bb.all (fun b => b.length == 64) && D.ws.all WD.okB

set_option maxHeartbeats 4000000 in
theorem specDiskOk_any (N : Nat) (v1 v2 : Value) (D : DD) (w : World) (h : RDisk N w v1 v2 D) (hN : N ≤ w.heap.size) :
    Calls Try.prog 7 #[.agg #[v1, v2]] w fun e w' => e = .returned (.bool D.okB) ∧ Below w.heap.size w w' := by
  obtain ⟨a1, c1, rfl, hc1, hm1, hx⟩ := h.bb
  obtain ⟨a2, c2, rfl, hc2, hm2, hy⟩ := h.ws
  unfold maxLen at hm1 hm2
  have bA := (Below.refl _ w).alloc (Nat.le_refl _) (.cells #[.slice a1 D.bb.length c1, .slice a2 D.ws.length c2] 30)
  by_cases h128 : D.bb.length = 128
  · by_cases h200 : D.ws.length ≤ 200
    · have q1 : ((D.bb.length : Int) != 128) = false := by simp [h128]
      have q2 : ¬ (200 < (D.ws.length : Int)) := by omega
      have HL : Hid (D.bb.length = 128) := h128
      have hl1 : (D.bb.length : Int) ≤ 128 := by omega
      clear h128
      go_enter Try.func7, Try.ntmps7
      go_wp2
      go_loop [4, 20] (fun _ i => ∃ (j : Nat), j ≤ D.bb.length ∧ i = .int .i64 j ∧ (D.bb.take j).all (fun b => b.length == 64) = true) (fun _ i => D.bb.length - (intOf i).toNat)
      case atStart => exact ⟨0, Nat.zero_le _, rfl, by simp⟩
      case round =>
        obtain ⟨j, hj, rfl, hall⟩ := hrel
        have HA : Hid ((D.bb.take j).all (fun b => b.length == 64) = true) := hall
        clear hall
        by_cases hlt : j < D.bb.length
        · obtain ⟨g, o, vi, rfl, hg, hc, hr⟩ := hx j hlt
          have hc' : (w.alloc (.cells #[.slice (some ⟨g, o, none⟩) D.bb.length c1, .slice a2 D.ws.length c2] 30)).cell? ⟨g, o + j, none⟩ = some vi := by rw [bA.cell (p := ⟨g, o + j, none⟩) (show g < w.heap.size by omega)]; exact hc
          obtain ⟨ai, ci, rfl, hci, hcm, _⟩ := hr.1
          unfold maxLen at hcm
          have hts : D.bb.take (j + 1) = D.bb.take j ++ [D.bb[j]] := List.take_succ_eq_append_getElem hlt
          have HT : Hid (D.bb.take (j + 1) = D.bb.take j ++ [D.bb[j]]) := hts
          have hmem : D.bb[j] ∈ D.bb := List.getElem_mem hlt
          generalize hbe : D.bb[j] = bj at hc' hci HT hmem
          clear hts hbe hc hr
          by_cases h64 : bj.length = 64
          · have q3 : ((bj.length : Int) != 64) = false := by simp [h64]
            have H64 : Hid (bj.length = 64) := h64
            clear h64
            go_wp2
            go_round
            case rel => exact ⟨j + 1, by omega, by go_num, by rw [HT.out, List.all_append, HA.out]; simp [H64.out]⟩
            case measure => simp [intOf]; omega
          · have q3 : ((bj.length : Int) != 64) = true := by simp; omega
            have HF : Hid (D.okB = false) := by
              show D.okB = false
              have : D.bb.all (fun b => b.length == 64) = false := by
                rw [List.all_eq_false]
                exact ⟨bj, hmem, by simpa using h64⟩
              simp [DD.okB, this]
            clear h64
            go_wp2
            go_ret
            exact ⟨by rw [HF.out]; rfl, bA⟩
        · have hjl : j = D.bb.length := by omega
          have HB : Hid (D.bb.all (fun b => b.length == 64) = true) := by
            show D.bb.all (fun b => b.length == 64) = true
            have := HA.out
            rwa [hjl, List.take_length] at this
          clear hx
          go_wp2
          go_loopw [6, 31] (fun _ i wr => ∃ (j : Nat), j ≤ D.ws.length ∧ i = .int .i64 j ∧ (D.ws.take j).all WD.okB = true ∧ Below w.heap.size w wr) (fun _ i _ => D.ws.length - (intOf i).toNat)
          case atStart => exact ⟨0, Nat.zero_le _, rfl, by simp, bA⟩
          case round =>
            obtain ⟨j2, hj2, rfl, hall2, hb2⟩ := hrel
            have HA2 : Hid ((D.ws.take j2).all WD.okB = true) := hall2
            have hsz := hb2.size
            clear hall2
            by_cases hlt2 : j2 < D.ws.length
            · obtain ⟨g, o, vi, rfl, hg, hc, hcc, hr⟩ := hy j2 hlt2
              have hc' : wr.cell? ⟨g, o + j2 * 2, none⟩ = some (.int .i64 D.ws[j2].blk) := by rw [hb2.cell (p := ⟨g, o + j2 * 2, none⟩) (show g < w.heap.size by omega)]; exact hc
              have hcc' : wr.cell? ⟨g, o + j2 * 2 + 1, none⟩ = some vi := by rw [hb2.cell (p := ⟨g, o + j2 * 2 + 1, none⟩) (show g < w.heap.size by omega)]; exact hcc
              obtain ⟨ai, ci, rfl, hci, hcm, _⟩ := hr.1
              unfold maxLen at hcm
              have hmem : D.ws[j2] ∈ D.ws := List.getElem_mem hlt2
              have HT : Hid (D.ws.take (j2 + 1) = D.ws.take j2 ++ [D.ws[j2]]) := List.take_succ_eq_append_getElem hlt2
              generalize hbe : D.ws[j2] = d at hc' hcc' hci HT hmem
              clear hbe hc hcc hr
              have hbal : Below w.heap.size w (wr.alloc (.cells #[.int .i64 d.blk, .slice ai d.bs.length ci] 52)) := hb2.alloc (by omega) _
              have hfalse : d.okB = false → D.okB = false := fun hf => by
                have : D.ws.all WD.okB = false := by
                  rw [List.all_eq_false]
                  exact ⟨d, hmem, by simpa using hf⟩
                simp [DD.okB, this]
              cases hin : inB d.blk 0 127 with
              | false =>
                have HF : Hid (D.okB = false) := hfalse (by simp [WD.okB, hin])
                clear hfalse
                go_wp2_with (go_at_call 26; refine (l1in_any _ _ _ _).mono ?_; rintro e w' ⟨rfl, rfl⟩; rw [hin])
                go_ret
                exact ⟨by rw [HF.out]; rfl, hbal⟩
              | true =>
                by_cases h64 : d.bs.length = 64
                · have q3 : ((d.bs.length : Int) != 64) = false := by simp [h64]
                  have HO : Hid (d.okB = true) := by
                    show d.okB = true
                    simp [WD.okB, hin, h64]
                  clear h64 hfalse
                  go_wp2_with (go_at_call 26; refine (l1in_any _ _ _ _).mono ?_; rintro e w' ⟨rfl, rfl⟩; rw [hin])
                  go_roundw
                  case rel => exact ⟨j2 + 1, by omega, by go_num, by rw [HT.out, List.all_append, HA2.out]; simp [HO.out], hbal⟩
                  case measure => simp [intOf]; omega
                · have q3 : ((d.bs.length : Int) != 64) = true := by simp; omega
                  have HF : Hid (D.okB = false) := hfalse (by simp [WD.okB, hin, h64])
                  clear h64 hfalse
                  go_wp2_with (go_at_call 26; refine (l1in_any _ _ _ _).mono ?_; rintro e w' ⟨rfl, rfl⟩; rw [hin])
                  go_ret
                  exact ⟨by rw [HF.out]; rfl, hbal⟩
            · have HF : Hid (D.okB = true) := by
                show D.okB = true
                have h1 := HA2.out
                rw [List.take_of_length_le (by omega)] at h1
                simp [DD.okB, HL.out, HB.out, h1, h200]
              go_wp2
              go_ret
              exact ⟨by rw [HF.out]; rfl, hb2⟩
    · have q1 : ((D.bb.length : Int) != 128) = false := by simp [h128]
      have q2 : 200 < (D.ws.length : Int) := by omega
      have hf : D.okB = false := by simp [DD.okB, h200]
      rw [hf]
      clear h128 hf
      go_enter Try.func7, Try.ntmps7
      go_wp2
      go_ret
      exact ⟨rfl, bA⟩
  · have q1 : ((D.bb.length : Int) != 128) = true := by simp; omega
    have hf : D.okB = false := by simp [DD.okB, h128]
    rw [hf]
    clear h128 hf
    go_enter Try.func7, Try.ntmps7
    go_wp2
    go_ret
    exact ⟨rfl, bA⟩
end Go.Proofs.YtepagknkhlpicabRRRR
