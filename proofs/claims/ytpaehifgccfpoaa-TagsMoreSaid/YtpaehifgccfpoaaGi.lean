/-
  Check and Sort of package tags, each by a walk over its text.
-/
import Derived.Test.YtpaehifgccfpoaaGh
namespace Go.Proofs.Ytpaehifgccfpoaa
open Go.RowKit

/-- The number that Check tells. -/
def errOf (b : Bool) : Int := if b then 0 else 30
theorem ret_err {x : Int} {b : Bool} (h : errOf b = x) : Ending.returned (.int .i64 x) = .returned (.int .i64 (errOf b)) := by rw [h]

set_option maxHeartbeats 3200000 in
theorem check_reads (a : Option Addr) (n c : Nat) (ss : List ByteArray) (w : World) (h : SReads w a n c ss) (hz : ∀ s ∈ ss, s.size ≤ maxLen) :
    Calls Try.prog 12 #[.slice a n c] w fun e w' => e = .returned (.int .i64 (errOf (fineB ss))) ∧ w' = w := by
  have HC := Lib.hid h.cells
  have HL := Lib.hid h.len
  have HZ := Lib.hid hz
  have hsm := h.small
  clear h hz
  by_cases h8 : 8 < n
  · go_enter Try.func12, Try.ntmps12
    go_wp2
    go_ret
    exact ⟨ret_err (by rw [fineB_long (by have := HL.out; omega)]; rfl), rfl⟩
  · go_enter Try.func12, Try.ntmps12
    go_wp2
    go_loop [10] (fun s10 => ∃ (i : Nat), s10 = .int .i64 i ∧ i ≤ n ∧ Hid (∀ j, j < i → goodAt ss j = true)) (fun s10 => n - (intOf s10).toNat)
    case atStart => exact ⟨0, rfl, Nat.zero_le _, fun j hj => by omega⟩
    case round =>
      obtain ⟨i, rfl, hi, HG⟩ := hrel
      by_cases hc : i < n
      · rcases HC.out with h0 | ⟨b, off, rfl, hlt, hcl⟩
        · omega
        obtain ⟨y, hy⟩ : ∃ y, strAt ss i = y := ⟨_, rfl⟩
        have hcc := hcl i hc
        rw [hy] at hcc
        have hsz : y.size ≤ maxLen := by rw [← hy]; exact HZ.out _ (strAt_mem (by have := HL.out; omega))
        unfold maxLen at hsz
        have HY := Lib.hid hy
        have HCL := Lib.hid hcl
        clear hy hcl
        by_cases hbad : y.size < 1 ∨ 16 < y.size
        · have hcase : y.size < 1 ∨ (¬ y.size < 1 ∧ 16 < y.size) := by omega
          clear hbad
          rcases hcase with h1 | ⟨h1, h2⟩
          · go_wp2
            go_ret
            exact ⟨ret_err (by rw [fineB_not (i := i) (by have := HL.out; omega) (good_small (by rw [HY.out]; omega))]; rfl), rfl⟩
          · go_wp2
            go_ret
            exact ⟨ret_err (by rw [fineB_not (i := i) (by have := HL.out; omega) (good_big (by rw [HY.out]; omega))]; rfl), rfl⟩
        · obtain ⟨hs1, hs2⟩ : ¬ y.size < 1 ∧ ¬ 16 < y.size := by omega
          clear hbad
          by_cases hi0 : i = 0
          · have HG3 : Hid (∀ j, j < i + 1 → goodAt ss j = true) := fun j hj => by
              have : j = i := by omega
              subst this
              exact good_yes (by rw [HY.out]; omega) (by rw [HY.out]; omega) (.inl hi0)
            clear HCL
            subst hi0
            rw [Nat.add_zero] at hcc
            go_wp2
            go_round
            case rel => exact ⟨0 + 1, by go_num, by omega, HG3.out⟩
            case measure => simp [intOf]; omega
          · obtain ⟨z, hz⟩ : ∃ z, strAt ss (i - 1) = z := ⟨_, rfl⟩
            have hcz := HCL.out (i - 1) (by omega)
            rw [hz] at hcz
            have hpos : 0 < i := by omega
            have HZ' := Lib.hid hz
            clear hz HCL hi0
            by_cases hlt' : ltB z y = true
            · have HLT := Lib.hid hlt'
              have hl := fun w => run_leq_str y z w false (by rw [hlt']; rfl)
              clear hlt'
              go_wp2
              go_round
              case rel =>
                refine ⟨i + 1, by go_num, by omega, fun j hj => ?_⟩
                rcases Nat.lt_or_eq_of_le (Nat.le_of_lt_succ hj) with h | rfl
                · exact HG.out j h
                · exact good_yes (by rw [HY.out]; omega) (by rw [HY.out]; omega) (.inr (by rw [HY.out, HZ'.out]; exact HLT.out))
              case measure => simp [intOf]; omega
            · rw [Bool.not_eq_true] at hlt'
              have HLT := Lib.hid hlt'
              have hl := fun w => run_leq_str y z w true (by rw [hlt']; rfl)
              clear hlt'
              go_wp2
              go_ret
              exact ⟨ret_err (by rw [fineB_not (i := i) (by have := HL.out; omega) (good_low hpos (by rw [HY.out, HZ'.out]; exact HLT.out))]; rfl), rfl⟩
      · go_wp2
        go_ret
        exact ⟨ret_err (by rw [fineB_iff.2 ⟨by have := HL.out; omega, fun j hj => HG.out j (by have := HL.out; omega)⟩]; rfl), rfl⟩

/-- What Sort tells: the set, rising, if these are tags that may be; else none. -/
def Sorted (ss : List ByteArray) (w : World) (e : Ending) (w' : World) : Prop :=
  Below w.heap.size w w' ∧ ((fineB (sortU ss) = true ∧ ∃ a c, e = .returned (.tuple #[.slice a (sortU ss).length c, .int .i64 0]) ∧ SReads w' a (sortU ss).length c (sortU ss)) ∨
    (fineB (sortU ss) = false ∧ e = .returned (.tuple #[.slice none 0 0, .int .i64 30])))

theorem sortU_size {ss : List ByteArray} (h : ∀ s ∈ ss, s.size ≤ maxLen) : ∀ s ∈ sortU ss, s.size ≤ maxLen := fun s hs => h s (mem_sortU.1 hs)

theorem sorted_yes {ss : List ByteArray} {w w' : World} {a : Option Addr} {m c : Nat} (hm : Hid ((sortU ss).length = m)) (hf : fineB (sortU ss) = true) (hb : Below w.heap.size w w') (hr : SReads w' a m c (sortU ss)) :
    Sorted ss w (.returned (.tuple #[.slice a m c, .int .i64 0])) w' := by
  rw [← hm.out] at hr ⊢
  exact ⟨hb, .inl ⟨hf, a, c, rfl, hr⟩⟩

set_option maxHeartbeats 1600000 in
theorem sort_reads (a : Option Addr) (n c : Nat) (ss : List ByteArray) (w : World) (h : SReads w a n c ss) (hz : ∀ s ∈ ss, s.size ≤ maxLen) :
    Calls Try.prog 17 #[.slice a n c] w fun e w' => Sorted ss w e w' := by
  have HR := Lib.hid h
  have HZ := Lib.hid hz
  have HN := Lib.hid (show ss.length ≤ 10000000000000 ∧ ss.length * 16 ≤ 140737488351232 by have := h.len; have := h.small; omega)
  clear h hz
  go_enter Try.func17, Try.ntmps17
  go_wp2_with (fail)
  refine (clone_reads a n c ss w HR.out).mono ?_
  rintro e w1 ⟨v1, rfl, o1, b1⟩
  have O1 := Lib.hid o1
  have B1 := Lib.hid b1
  clear o1 b1
  go_wp2_with (fail)
  refine (sort_own w.heap.size v1 ss _ O1.out HN.out.1).mono ?_
  rintro e w2 ⟨rfl, o2, b2⟩
  have O2 := Lib.hid o2
  have B2 := Lib.hid (B1.out.trans b2)
  clear o2 b2 O1 B1
  go_wp2_with (fail)
  refine (compact_own w.heap.size v1 ss _ O2.out HN.out.1).mono ?_
  rintro e w3 ⟨v3, rfl, o3, b3⟩
  obtain ⟨a3, c3, rfl, r3, _⟩ := o3.reads (by have := sortU_len ss; have := HN.out.2; omega)
  have B3 := Lib.hid (B2.out.trans b3)
  obtain ⟨m, hm⟩ : ∃ m, (sortU ss).length = m := ⟨_, rfl⟩
  rw [hm] at r3 ⊢
  have HM := Lib.hid hm
  have R3 := Lib.hid r3
  clear o3 b3 O2 B2 hm r3
  go_wp2_with (fail)
  refine (check_reads a3 m c3 (sortU ss) w3 R3.out (sortU_size HZ.out)).mono ?_
  rintro e w4 ⟨rfl, rfl⟩
  by_cases hf : fineB (sortU ss) = true
  · have he : errOf (fineB (sortU ss)) = 0 := by rw [hf]; rfl
    have HF := Lib.hid hf
    clear hf
    go_wp2
    go_ret2
    exact sorted_yes HM HF.out B3.out R3.out
  · rw [Bool.not_eq_true] at hf
    have he : errOf (fineB (sortU ss)) = 30 := by rw [hf]; rfl
    have HF := Lib.hid hf
    clear hf
    go_wp2
    go_ret2
    exact ⟨B3.out, .inr ⟨HF.out, rfl⟩⟩
end Go.Proofs.Ytpaehifgccfpoaa
