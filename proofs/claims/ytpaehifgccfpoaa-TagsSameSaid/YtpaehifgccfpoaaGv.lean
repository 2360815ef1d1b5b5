/-
  TagsSorts: tags in order are the document's, or may not be; they may be then; what came in reads as before.
-/
import Derived.Test.YtpaehifgccfpoaaGo
namespace Go.Proofs.Ytpaehifgccfpoaa
open Go.ChangeShapes Go.WideShapes Go.ChangeAt Go.RowKit

theorem Sorted.fine {ss : List ByteArray} {w w' : World} {e : Ending} (h : Sorted ss w e w') (hf : fineB (sortU ss) = true) (m : Nat) (hm : (sortU ss).length = m) :
    Below w.heap.size w w' ∧ ∃ a c, e = .returned (.tuple #[.slice a m c, .int .i64 0]) ∧ SReads w' a m c (sortU ss) := h.yes (sortU ss) m rfl hf hm
theorem Sorted.no {ss : List ByteArray} {w w' : World} {e : Ending} (h : Sorted ss w e w') (hf : fineB (sortU ss) = false) :
    Below w.heap.size w w' ∧ e = .returned (.tuple #[.slice none 0 0, .int .i64 30]) := by
  rcases h with ⟨hb, ⟨h, _⟩ | ⟨_, e1⟩⟩
  · rw [hf] at h
    cases h
  · exact ⟨hb, e1⟩
theorem RSorted.fine {ss : List ByteArray} {w w' : World} {e : Ending} (h : RSorted ss w e w') (hf : fineB (sortU ss) = true) (m : Nat) (hm : (sortU ss).length = m) :
    Below w.heap.size w w' ∧ ∃ a c, e = .returned (.tuple #[.slice a m c, .bool true]) ∧ SReads w' a m c (sortU ss) := by
  subst hm
  rcases h with ⟨hb, ⟨_, a, c, e1, r⟩ | ⟨h, _⟩⟩
  · exact ⟨hb, a, c, e1, r⟩
  · rw [hf] at h
    cases h
theorem RSorted.no {ss : List ByteArray} {w w' : World} {e : Ending} (h : RSorted ss w e w') (hf : fineB (sortU ss) = false) :
    Below w.heap.size w w' ∧ e = .returned (.tuple #[.slice none 0 0, .bool false]) := by
  rcases h with ⟨hb, ⟨h, _⟩ | ⟨_, e1⟩⟩
  · rw [hf] at h
    cases h
  · exact ⟨hb, e1⟩

set_option maxHeartbeats 3200000 in
theorem sorts_law (a : Option Addr) (n c : Nat) (ss : List ByteArray) (w : World) (h : SReads w a n c ss) (z : ∀ s ∈ ss, s.size ≤ maxLen) :
    Calls Try.prog 5 #[.slice a n c] w fun e w' => e = .returned (.bool true) ∧ Below w.heap.size w w' := by
  have RN := Lib.hid h
  have ZZ := Lib.hid z
  clear h z
  go_enter Try.func5, Try.ntmps5
  go_wp2_with (fail)
  refine (alive3 _).mono ?_
  rintro e w1 ⟨rfl, hb1⟩
  have RR := Lib.hid (RN.out.on hb1)
  have HB := Lib.hid hb1
  clear hb1 RN
  go_wp2_with (fail)
  refine (great_reads a n c ss _ RR.out ZZ.out).mono ?_
  rintro e w2 ⟨⟨g, rfl, hg⟩, rfl⟩
  have q := Lib.hid hg
  clear hg
  by_cases hg : g = true
  · subst hg
    go_wp2
    go_ret
    exact ⟨rfl, HB.out⟩
  rw [Bool.not_eq_true] at hg
  subst hg
  obtain ⟨m, hm⟩ : ∃ m, (sortU ss).length = m := ⟨_, rfl⟩
  have HM := Lib.hid hm
  clear hm
  go_wp2_with (fail)
  refine (sort_reads a n c ss _ RR.out ZZ.out).mono ?_
  rintro e w3 hs
  by_cases hf : fineB (sortU ss) = true
  · obtain ⟨hb3, a1, c1, rfl, r1⟩ := hs.fine hf m HM.out
    have HF := Lib.hid hf
    have R1 := Lib.hid r1
    have RR3 := Lib.hid (RR.out.on hb3)
    have HB3 := Lib.hid (HB.out.trans (hb3.mono HB.out.size))
    clear hs r1 hb3 HB RR hf
    go_wp2_with (fail)
    refine (rsort_reads a n c ss _ RR3.out ZZ.out).mono ?_
    rintro e w4 hs
    obtain ⟨hb4, a2, c2, rfl, r2⟩ := hs.fine HF.out m HM.out
    have R2 := Lib.hid r2
    have R14 := Lib.hid (R1.out.on hb4)
    have HB4 := Lib.hid (HB3.out.trans (hb4.mono HB3.out.size))
    clear hs r2 hb4 HB3 RR3 R1
    go_wp2_with (fail)
    refine (same_at true a1 a2 m m c1 c2 (sortU ss) (sortU ss) _ R14.out R2.out (by simp)).mono ?_
    rintro e w5 ⟨rfl, hb5⟩
    have R15 := Lib.hid (R14.out.on hb5)
    have HB5 := Lib.hid (HB4.out.trans (hb5.mono HB4.out.size))
    clear hb5 HB4 R14 R2
    go_wp2_with (fail)
    refine (check_at 0 a1 m c1 (sortU ss) _ R15.out (sortU_size ZZ.out) (by rw [HF.out]; rfl)).mono ?_
    rintro e w6 ⟨rfl, rfl⟩
    go_wp2
    go_ret
    exact ⟨rfl, HB5.out⟩
  · rw [Bool.not_eq_true] at hf
    obtain ⟨hb3, rfl⟩ := hs.no hf
    have HF := Lib.hid hf
    have RR3 := Lib.hid (RR.out.on hb3)
    have HB3 := Lib.hid (HB.out.trans (hb3.mono HB.out.size))
    clear hs hb3 HB RR hf
    go_wp2_with (fail)
    refine (rsort_reads a n c ss _ RR3.out ZZ.out).mono ?_
    rintro e w4 hs
    obtain ⟨hb4, rfl⟩ := hs.no HF.out
    have HB4 := Lib.hid (HB3.out.trans (hb4.mono HB3.out.size))
    clear hs hb4 HB3 RR3
    go_wp2
    go_ret
    exact ⟨rfl, HB4.out⟩

theorem sorts_row : Rows.TagsSortsSaid :=
  OpenClaim.holds_of_wide 5 Try.f5 rfl rfl rfl rfl rfl rfl rfl ⟨rfl, rfl, rfl, rfl, rfl⟩ rfl rfl rfl rfl rfl (by kernel_rfl) Try.func5 (by kernel_rfl)
    (of_decide_eq_true (by kernel_rfl)) (by unfold Func.isWrapper; rw [if_neg (of_decide_eq_false (by kernel_rfl))]; exact ⟨rfl, rfl⟩)
    (fun os started H enc _ => lift (C := Try.checked) (s := Rows.tagsSortsSpec) (conds := Rows.tagsSortsRow.domain) os started H enc prog_own (by kernel_rfl) Try.func5 prog_laid rfl Try.underlying4 rfl
      (fun ds hl => by
        have hl : ds.length = 1 := hl
        match ds, hl with
        | [_], _ => rfl)
      (of_decide_eq_true (by kernel_rfl))
      (ChangeSpec.witness6 (enc := enc) (C := Try.checked) false ⟨#[], #[.slice none 0 0], []⟩ 8 (by kernel_rfl) (by kernel_rfl) (by kernel_rfl) (by kernel_rfl))
      (fun W base args ds p g => by
        rw [Try.params5] at g
        obtain ⟨a, n, c, ss, e0, h, z⟩ := g.tags 0 rfl
        rw [args1 g.count e0]
        exact sorts_law a n c ss W h z))
end Go.Proofs.Ytpaehifgccfpoaa
