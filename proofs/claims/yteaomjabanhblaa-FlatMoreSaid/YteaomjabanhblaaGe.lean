/-
  The document's Match, by a walk over its text.
-/
import Derived.Test.YteaomjabanhblaaGd
namespace Go.Proofs.Yteaomjabanhblaa
open Go.RowKit

theorem all_no {p : ByteArray → Bool} {l : List ByteArray} {i n : Nat} (hl : l.length = n) (hi : i < n) (h : p (strAt l i) = false) : l.all p = false := by
  rw [← Bool.not_eq_true, List.all_eq_true]
  intro hh
  rw [hh _ (strAt_mem (by omega))] at h
  cases h
theorem all_yes {p : ByteArray → Bool} {l : List ByteArray} {n : Nat} (hl : l.length = n) (h : ∀ j, j < n → p (strAt l j) = true) : l.all p = true := by
  rw [List.all_eq_true]
  intro x hx
  obtain ⟨j, hj, e⟩ := List.mem_iff_getElem.1 hx
  have := h j (by omega)
  rwa [show strAt l j = x by simpa [strAt, List.getD, hj] using e] at this

set_option maxHeartbeats 3200000 in
theorem rmatch_reads (a0 a1 a2 a : Option Addr) (n0 c0 n1 c1 n2 c2 n c : Nat) (s0 s1 s2 ss : List ByteArray) (w : World) (h0 : SReads w a0 n0 c0 s0) (h1 : SReads w a1 n1 c1 s1) (h2 : SReads w a2 n2 c2 s2) (h : SReads w a n c ss) :
    Calls Try.prog 18 #[.agg #[.slice a0 n0 c0, .slice a1 n1 c1, .slice a2 n2 c2], .slice a n c] w fun e w' => e = .returned (.bool (matchB ⟨s0, s1, s2⟩ ss)) ∧ Below w.heap.size w w' := by
  have H0 := Lib.hid h0.cells
  have H1 := Lib.hid h1.cells
  have H2 := Lib.hid h2.cells
  have L0 := Lib.hid h0.len
  have L1 := Lib.hid h1.len
  have L2 := Lib.hid h2.len
  have z0 := h0.small
  have z1 := h1.small
  have z2 := h2.small
  have HH := Lib.hid h
  clear h0 h1 h2 h
  have HB := Lib.hid ((Below.refl _ w).alloc (Nat.le_refl _) (.cells #[.slice a0 n0 c0, .slice a1 n1 c1, .slice a2 n2 c2] 26))
  go_enter Try.func18, Try.ntmps18
  go_wp2
  go_loop [5] (fun s5 => ∃ i : Nat, s5 = .int .i64 i ∧ i ≤ n0 ∧ Hid (∀ j, j < i → Lib.containsS ss (strAt s0 j) = true)) (fun s5 => n0 - (intOf s5).toNat)
  case atStart => exact ⟨0, rfl, Nat.zero_le _, fun j hj => by omega⟩
  case round =>
    obtain ⟨i, rfl, hi, HN⟩ := hrel
    by_cases hc : i < n0
    · rcases H0.out with hz | ⟨b, off, rfl, hlt, hcl⟩
      · omega
      obtain ⟨y, hy⟩ : ∃ y, strAt s0 i = y := ⟨_, rfl⟩
      have hcc := (HB.out.cell (p := ⟨b, off + i, none⟩) hlt).trans (hcl i hc)
      rw [hy] at hcc
      have HY := Lib.hid hy
      clear hy hcl
      go_wp2_with (fail)
      refine (has_reads a n c ss y _ (HH.out.on HB.out)).mono ?_
      rintro e w1 ⟨rfl, rfl⟩
      by_cases hz : Lib.containsS ss y = true
      · have HZ := Lib.hid hz
        go_wp2
        go_round
        case rel =>
          refine ⟨i + 1, by go_num, by omega, fun j hj => ?_⟩
          rcases Nat.lt_or_eq_of_le (Nat.le_of_lt_succ hj) with h | rfl
          · exact HN.out j h
          · rw [HY.out]; exact HZ.out
        case measure => simp [intOf]; omega
      · rw [Bool.not_eq_true] at hz
        have HZ := Lib.hid hz
        go_wp2
        go_ret
        refine ⟨ret_bool ?_, HB.out⟩
        rw [matchB, all_no L0.out hc (by rw [HY.out]; exact HZ.out)]
        rfl
    · have HA := Lib.hid (all_yes (p := Lib.containsS ss) L0.out (fun j hj => HN.out j (by omega)))
      clear HN
      go_wp2
      go_loop [6] (fun s6 => ∃ i : Nat, s6 = .int .i64 i ∧ i ≤ n2 ∧ Hid (∀ j, j < i → Lib.containsS ss (strAt s2 j) = false)) (fun s6 => n2 - (intOf s6).toNat)
      case atStart => exact ⟨0, rfl, Nat.zero_le _, fun j hj => by omega⟩
      case round =>
        obtain ⟨i', rfl, hi', HN⟩ := hrel
        by_cases hc' : i' < n2
        · rcases H2.out with hz | ⟨b, off, rfl, hlt, hcl⟩
          · omega
          obtain ⟨y, hy⟩ : ∃ y, strAt s2 i' = y := ⟨_, rfl⟩
          have hcc := (HB.out.cell (p := ⟨b, off + i', none⟩) hlt).trans (hcl i' hc')
          rw [hy] at hcc
          have HY := Lib.hid hy
          clear hy hcl
          go_wp2_with (fail)
          refine (has_reads a n c ss y _ (HH.out.on HB.out)).mono ?_
          rintro e w1 ⟨rfl, rfl⟩
          by_cases hz : Lib.containsS ss y = true
          · have HZ := Lib.hid hz
            go_wp2
            go_ret
            refine ⟨ret_bool ?_, HB.out⟩
            rw [matchB, HA.out, any_at (p := Lib.containsS ss) L2.out hc' (by rw [HY.out]; exact HZ.out)]
            rfl
          · rw [Bool.not_eq_true] at hz
            have HZ := Lib.hid hz
            go_wp2
            go_round
            case rel =>
              refine ⟨i' + 1, by go_num, by omega, fun j hj => ?_⟩
              rcases Nat.lt_or_eq_of_le (Nat.le_of_lt_succ hj) with h | rfl
              · exact HN.out j h
              · rw [HY.out]; exact HZ.out
            case measure => simp [intOf]; omega
        · have HC := Lib.hid (any_none (p := Lib.containsS ss) L2.out (fun j hj => HN.out j (by omega)))
          clear HN
          go_wp2
          go_loop [7] (fun s7 => ∃ i : Nat, s7 = .int .i64 i ∧ i ≤ n1 ∧ Hid (∀ j, j < i → Lib.containsS ss (strAt s1 j) = false)) (fun s7 => n1 - (intOf s7).toNat)
          case atStart => exact ⟨0, rfl, Nat.zero_le _, fun j hj => by omega⟩
          case round =>
            obtain ⟨k, rfl, hk, HN⟩ := hrel
            by_cases hc2 : k < n1
            · rcases H1.out with hz | ⟨b, off, rfl, hlt, hcl⟩
              · omega
              obtain ⟨y, hy⟩ : ∃ y, strAt s1 k = y := ⟨_, rfl⟩
              have hcc := (HB.out.cell (p := ⟨b, off + k, none⟩) hlt).trans (hcl k hc2)
              rw [hy] at hcc
              have HY := Lib.hid hy
              clear hy hcl
              go_wp2_with (fail)
              refine (has_reads a n c ss y _ (HH.out.on HB.out)).mono ?_
              rintro e w1 ⟨rfl, rfl⟩
              by_cases hz : Lib.containsS ss y = true
              · have HZ := Lib.hid hz
                go_wp2
                go_ret
                refine ⟨ret_bool ?_, HB.out⟩
                rw [matchB, HA.out, HC.out, any_at (p := Lib.containsS ss) L1.out hc2 (by rw [HY.out]; exact HZ.out)]
                simp
              · rw [Bool.not_eq_true] at hz
                have HZ := Lib.hid hz
                go_wp2
                go_round
                case rel =>
                  refine ⟨k + 1, by go_num, by omega, fun j hj => ?_⟩
                  rcases Nat.lt_or_eq_of_le (Nat.le_of_lt_succ hj) with h | rfl
                  · exact HN.out j h
                  · rw [HY.out]; exact HZ.out
                case measure => simp [intOf]; omega
            · have HD := Lib.hid (any_none (p := Lib.containsS ss) L1.out (fun j hj => HN.out j (by omega)))
              have HE := Lib.hid (show s1.isEmpty = decide (n1 = 0) from by
                cases s1 with
                | nil => simp [← L1.out]
                | cons x l => simp [← L1.out])
              clear HN
              go_wp2
              go_ret
              refine ⟨ret_bool ?_, HB.out⟩
              rw [matchB, HA.out, HC.out, HD.out, HE.out]
              by_cases hq : n1 = 0 <;> simp [hq]

end Go.Proofs.Yteaomjabanhblaa
