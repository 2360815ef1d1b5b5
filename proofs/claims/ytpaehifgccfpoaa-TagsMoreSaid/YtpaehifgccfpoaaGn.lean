/-
  The document's examples of layer 3 hold: what the laws' alive tells.
-/
import Derived.Test.YtpaehifgccfpoaaGl
namespace Go.Proofs.Ytpaehifgccfpoaa
open Go.RowKit

abbrev sa : ByteArray := ⟨#[97]⟩
abbrev sb : ByteArray := ⟨#[98]⟩
abbrev sc : ByteArray := ⟨#[99]⟩
abbrev sd : ByteArray := ⟨#[100]⟩

theorem ex_sort : sortU [sb, sa, sb] = [sa, sb] := by simp [sortU, insU, ltB, ByteArray.toList_eq, Op.bytesLess]
theorem ex_fine : fineB [sa, sb] = true := by simp [fineB, List.range, List.range.loop, goodAt, strAt, ltB, ByteArray.toList_eq, Op.bytesLess, ByteArray.size]
theorem ex_bad : fineB [sb, sa] = false := by simp [fineB, List.range, List.range.loop, goodAt, strAt, ltB, ByteArray.toList_eq, Op.bytesLess, ByteArray.size]
theorem ex_m1 : matchB ⟨[sa], [sb, sc], [sd]⟩ [sa, sb] = true := by decide
theorem ex_m2 : matchB ⟨[sa], [sb, sc], [sd]⟩ [sa] = false := by decide
theorem ex_m3 : matchB ⟨[sa], [sb, sc], [sd]⟩ [sa, sc, sd] = false := by decide

/-- The world behind the example's filter. -/
def exWorld (w : World) : World :=
  (((w.alloc (.cells #[.string sa] 9)).alloc (.cells #[.string sb, .string sc] 9)).alloc (.cells #[.string sd] 9)).alloc
    (.cells #[.slice (some ⟨w.heap.size, 0, none⟩) 1 1, .slice (some ⟨w.heap.size + 1, 0, none⟩) 2 2, .slice (some ⟨w.heap.size + 1 + 1, 0, none⟩) 1 1] 24)

/-- The example's filter lies in w'. -/
structure ExFilter (w w' : World) : Prop where
  all : SReads w' (some ⟨w.heap.size, 0, none⟩) 1 1 [sa]
  any : SReads w' (some ⟨w.heap.size + 1, 0, none⟩) 2 2 [sb, sc]
  no : SReads w' (some ⟨w.heap.size + 1 + 1, 0, none⟩) 1 1 [sd]
  c0 : w'.cell? ⟨w.heap.size + 1 + 1 + 1, 0, none⟩ = some (.slice (some ⟨w.heap.size, 0, none⟩) 1 1)
  c1 : w'.cell? ⟨w.heap.size + 1 + 1 + 1, 1, none⟩ = some (.slice (some ⟨w.heap.size + 1, 0, none⟩) 2 2)
  c2 : w'.cell? ⟨w.heap.size + 1 + 1 + 1, 2, none⟩ = some (.slice (some ⟨w.heap.size + 1 + 1, 0, none⟩) 1 1)
  lt : w.heap.size + 1 + 1 + 1 < w'.heap.size
  below : Below w.heap.size w w'

theorem ExFilter.new (w : World) : ExFilter w (exWorld w) := by
  have s1 : (w.alloc (.cells #[.string sa] 9)).heap.size = w.heap.size + 1 := by simp
  have s2 : ((w.alloc (.cells #[.string sa] 9)).alloc (.cells #[.string sb, .string sc] 9)).heap.size = w.heap.size + 1 + 1 := by simp
  have s3 : (((w.alloc (.cells #[.string sa] 9)).alloc (.cells #[.string sb, .string sc] 9)).alloc (.cells #[.string sd] 9)).heap.size = w.heap.size + 1 + 1 + 1 := by simp
  have r1 := SReads.built w [sa] 9 (by simp)
  have r2 := SReads.built (w.alloc (.cells #[.string sa] 9)) [sb, sc] 9 (by simp)
  have r3 := SReads.built ((w.alloc (.cells #[.string sa] 9)).alloc (.cells #[.string sb, .string sc] 9)) [sd] 9 (by simp)
  rw [s1] at r2
  rw [s2] at r3
  refine ⟨((r1.alloc _).alloc _).alloc _, (r2.alloc _).alloc _, r3.alloc _, ?_, ?_, ?_, ?_, ?_⟩
  · rw [exWorld, World.cell?_alloc_at _ _ _ _ s3.symm]; rfl
  · rw [exWorld, World.cell?_alloc_at _ _ _ _ s3.symm]; rfl
  · rw [exWorld, World.cell?_alloc_at _ _ _ _ s3.symm]; rfl
  · simp [exWorld]
  · exact ((((Below.refl _ w).alloc (Nat.le_refl _) _).alloc (by simp) _).alloc (by simp; omega) _).alloc (by simp; omega) _

theorem ExFilter.on {w w' w'' : World} (h : ExFilter w w') (hb : Below w'.heap.size w' w'') : ExFilter w w'' :=
  ⟨h.all.on hb, h.any.on hb, h.no.on hb, (hb.cell (p := ⟨w.heap.size + 1 + 1 + 1, 0, none⟩) h.lt).trans h.c0, (hb.cell (p := ⟨w.heap.size + 1 + 1 + 1, 1, none⟩) h.lt).trans h.c1,
    (hb.cell (p := ⟨w.heap.size + 1 + 1 + 1, 2, none⟩) h.lt).trans h.c2, Nat.lt_of_lt_of_le h.lt hb.size, h.below.trans (hb.mono h.below.size)⟩

theorem Sorted.yes {ss : List ByteArray} {w w' : World} {e : Ending} (h : Sorted ss w e w') (us : List ByteArray) (m : Nat) (hs : sortU ss = us) (hf : fineB us = true) (hm : us.length = m) :
    Below w.heap.size w w' ∧ ∃ a c, e = .returned (.tuple #[.slice a m c, .int .i64 0]) ∧ SReads w' a m c us := by
  subst hs
  subst hm
  rcases h with ⟨hb, ⟨_, a, c, e1, r⟩ | ⟨h, _⟩⟩
  · exact ⟨hb, a, c, e1, r⟩
  · rw [hf] at h
    cases h

theorem small_ex {l : List ByteArray} (h : l.all (fun s => decide (s.size ≤ maxLen)) = true := by decide) : ∀ s ∈ l, s.size ≤ maxLen := fun s hs => by
  have := List.all_eq_true.1 h s hs
  exact of_decide_eq_true this
theorem check_at (x : Int) (a : Option Addr) (n c : Nat) (ss : List ByteArray) (w : World) (h : SReads w a n c ss) (hz : ∀ s ∈ ss, s.size ≤ maxLen) (hx : errOf (fineB ss) = x) :
    Calls Try.prog 12 #[.slice a n c] w fun e w' => e = .returned (.int .i64 x) ∧ w' = w := by
  rw [← hx]
  exact check_reads a n c ss w h hz
theorem same_at (b : Bool) (a a' : Option Addr) (n n' c c' : Nat) (xs ys : List ByteArray) (w : World) (h : SReads w a n c xs) (h' : SReads w a' n' c' ys) (hb : decide (xs = ys) = b) :
    Calls Try.prog 19 #[.slice a n c, .slice a' n' c'] w fun e w' => e = .returned (.bool b) ∧ Below w.heap.size w w' := by
  rw [← hb]
  exact same_reads a a' n n' c c' xs ys w h h'
theorem match_at (b : Bool) (a0 a1 a2 a : Option Addr) (n0 c0 n1 c1 n2 c2 n c : Nat) (s0 s1 s2 ss : List ByteArray) (w : World) (h0 : SReads w a0 n0 c0 s0) (h1 : SReads w a1 n1 c1 s1) (h2 : SReads w a2 n2 c2 s2) (h : SReads w a n c ss) (hb : matchB ⟨s0, s1, s2⟩ ss = b) :
    Calls Try.prog 15 #[.agg #[.slice a0 n0 c0, .slice a1 n1 c1, .slice a2 n2 c2], .slice a n c] w fun e w' => e = .returned (.bool b) ∧ Below w.heap.size w w' := by
  rw [← hb]
  exact match_reads a0 a1 a2 a n0 c0 n1 c1 n2 c2 n c s0 s1 s2 ss w h0 h1 h2 h
theorem ex_size (w : World) : (exWorld w).heap.size = w.heap.size + 1 + 1 + 1 + 1 := by simp [exWorld]

set_option maxHeartbeats 3200000 in
theorem alive3 (w : World) : Calls Try.prog 10 #[] w fun e w' => e = .returned (.bool true) ∧ Below w.heap.size w w' := by
  go_enter Try.func10, Try.ntmps10
  go_wp2_with (fail)
  refine (sort_reads _ _ _ [sb, sa, sb] _ (SReads.built w [sb, sa, sb] 9 (by simp)) small_ex).mono ?_
  rintro e w1 hs
  obtain ⟨hb1, a1, c1, rfl, r1⟩ := hs.yes [sa, sb] 2 ex_sort ex_fine rfl
  clear hs
  have B1 := Lib.hid ((Below.refl _ w).alloc (Nat.le_refl _) _ |>.trans (hb1.mono (by simp)))
  have R1 := Lib.hid r1
  clear hb1 r1
  have XF := Lib.hid (ExFilter.new w1)
  go_wp2_with (fail)
  have r2 := SReads.built (exWorld w1) [sa, sb] 9 (by simp)
  rw [ex_size] at r2
  refine (same_at true a1 _ 2 2 c1 2 [sa, sb] [sa, sb] ((exWorld w1).alloc _) ((R1.out.on XF.out.below).alloc _) r2 (by decide)).mono ?_
  rintro e w2 ⟨rfl, hb2⟩
  have XF2 := Lib.hid (XF.out.on ((Below.refl _ _).alloc (Nat.le_refl _) _ |>.trans (hb2.mono (by simp))))
  clear hb2 r2 XF R1
  go_wp2_with (fail)
  refine (check_at 30 _ _ _ [sb, sa] _ (SReads.built w2 [sb, sa] 9 (by simp)) small_ex (by rw [ex_bad]; rfl)).mono ?_
  rintro e w3 ⟨rfl, rfl⟩
  have c0 := XF2.out.c0
  have c1 := XF2.out.c1
  have c2 := XF2.out.c2
  have lt := XF2.out.lt
  have XF3 := Lib.hid (XF2.out.on ((Below.refl _ _).alloc (Nat.le_refl _) (.cells #[.string sb, .string sa] 9)))
  go_wp2_with (fail)
  have q1 := SReads.built (w2.alloc (.cells #[.string sb, .string sa] 9)) [sa, sb] 9 (by simp)
  rw [show (w2.alloc (.cells #[.string sb, .string sa] 9)).heap.size = w2.heap.size + 1 by simp] at q1
  refine (match_at true _ _ _ _ _ _ _ _ _ _ _ _ [sa] [sb, sc] [sd] [sa, sb] _ (XF3.out.all.alloc _) (XF3.out.any.alloc _) (XF3.out.no.alloc _) q1 ex_m1).mono ?_
  rintro e w4 ⟨rfl, hb4⟩
  have XF4 := Lib.hid (XF3.out.on ((Below.refl _ _).alloc (Nat.le_refl _) (.cells #[.string sa, .string sb] 9) |>.trans (hb4.mono (by simp))))
  clear hb4 q1 XF3 XF2 c0 c1 c2 lt
  have c0 := XF4.out.c0
  have c1 := XF4.out.c1
  have c2 := XF4.out.c2
  have lt := XF4.out.lt
  go_wp2_with (fail)
  refine (match_at false _ _ _ _ _ _ _ _ _ _ _ _ [sa] [sb, sc] [sd] [sa] _ (XF4.out.all.alloc _) (XF4.out.any.alloc _) (XF4.out.no.alloc _) (SReads.built w4 [sa] 9 (by simp)) ex_m2).mono ?_
  rintro e w5 ⟨rfl, hb5⟩
  have XF5 := Lib.hid (XF4.out.on ((Below.refl _ _).alloc (Nat.le_refl _) (.cells #[.string sa] 9) |>.trans (hb5.mono (by simp))))
  clear hb5 XF4 c0 c1 c2 lt
  have c0 := XF5.out.c0
  have c1 := XF5.out.c1
  have c2 := XF5.out.c2
  have lt := XF5.out.lt
  go_wp2_with (fail)
  refine (match_at false _ _ _ _ _ _ _ _ _ _ _ _ [sa] [sb, sc] [sd] [sa, sc, sd] _ (XF5.out.all.alloc _) (XF5.out.any.alloc _) (XF5.out.no.alloc _) (SReads.built w5 [sa, sc, sd] 9 (by simp)) ex_m3).mono ?_
  rintro e w6 ⟨rfl, hb6⟩
  have XF6 := Lib.hid (XF5.out.on ((Below.refl _ _).alloc (Nat.le_refl _) (.cells #[.string sa, .string sc, .string sd] 9) |>.trans (hb6.mono (by simp))))
  clear hb6 XF5 c0 c1 c2 lt
  go_wp2
  go_ret
  exact ⟨rfl, B1.out.trans (XF6.out.below.mono B1.out.size)⟩
end Go.Proofs.Ytpaehifgccfpoaa
