/-
  TagsParts: a filter matches just if each of its three lists does, by itself; what came in reads as before.
-/
import Derived.Test.YtpaehifgccfpoaaGo
namespace Go.Proofs.Ytpaehifgccfpoaa
open Go.ChangeShapes Go.WideShapes Go.ChangeAt Go.RowKit

theorem match_parts (s0 s1 s2 ss : List ByteArray) : matchB ⟨s0, s1, s2⟩ ss = (matchB ⟨s0, [], []⟩ ss && matchB ⟨[], s1, []⟩ ss && matchB ⟨[], [], s2⟩ ss) := by
  simp only [matchB, List.all_nil, List.any_nil, List.isEmpty_nil, Bool.not_false, Bool.and_true, Bool.true_and, Bool.true_or]
  cases s0.all (Lib.containsS ss) <;> cases s2.any (Lib.containsS ss) <;> simp

set_option maxHeartbeats 3200000 in
theorem parts_law (a0 a1 a2 a : Option Addr) (n0 c0 n1 c1 n2 c2 n c : Nat) (s0 s1 s2 ss : List ByteArray) (w : World) (h0 : SReads w a0 n0 c0 s0) (h1 : SReads w a1 n1 c1 s1) (h2 : SReads w a2 n2 c2 s2) (h : SReads w a n c ss)
    (z0 : ∀ s ∈ s0, s.size ≤ maxLen) (z1 : ∀ s ∈ s1, s.size ≤ maxLen) (z2 : ∀ s ∈ s2, s.size ≤ maxLen) (z : ∀ s ∈ ss, s.size ≤ maxLen) :
    Calls Try.prog 9 #[.agg #[.slice a0 n0 c0, .slice a1 n1 c1, .slice a2 n2 c2], .slice a n c] w fun e w' => e = .returned (.bool true) ∧ Below w.heap.size w w' := by
  have FN := Lib.hid (FilterAt.new w a0 n0 c0 a1 n1 c1 a2 n2 c2 s0 s1 s2 h0 h1 h2)
  have RN := Lib.hid h
  have Z0 := Lib.hid z0
  have Z1 := Lib.hid z1
  have Z2 := Lib.hid z2
  have ZZ := Lib.hid z
  clear h0 h1 h2 h z0 z1 z2 z
  go_enter Try.func9, Try.ntmps9
  go_wp2_with (fail)
  refine (alive3 _).mono ?_
  rintro e w1 ⟨rfl, hb1⟩
  have FF := Lib.hid (FN.out.on hb1)
  have RR := Lib.hid (RN.out.on FF.out.below)
  have k0 := FF.out.k0
  have k1 := FF.out.k1
  have k2 := FF.out.k2
  have lt := FF.out.lt
  clear hb1 FN RN
  go_wp2_with (fail)
  refine (great_reads a n c ss _ RR.out ZZ.out).mono ?_
  rintro e w2 ⟨⟨g, rfl, hg⟩, rfl⟩
  have q := Lib.hid hg
  clear hg
  by_cases hg : g = true
  · subst hg
    go_wp2
    go_ret
    exact ⟨rfl, FF.out.below⟩
  rw [Bool.not_eq_true] at hg
  subst hg
  have Hq := Lib.hid (q.out rfl)
  clear q
  go_wp2_with (fail)
  refine (great_reads a0 n0 c0 s0 _ FF.out.r0 Z0.out).mono ?_
  rintro e w2 ⟨⟨g, rfl, hg⟩, rfl⟩
  have q0 := Lib.hid hg
  clear hg
  by_cases hg : g = true
  · subst hg
    go_wp2
    go_ret
    exact ⟨rfl, FF.out.below⟩
  rw [Bool.not_eq_true] at hg
  subst hg
  have Hq0 := Lib.hid (q0.out rfl)
  clear q0
  go_wp2_with (fail)
  refine (great_reads a1 n1 c1 s1 _ FF.out.r1 Z1.out).mono ?_
  rintro e w2 ⟨⟨g, rfl, hg⟩, rfl⟩
  have q1 := Lib.hid hg
  clear hg
  by_cases hg : g = true
  · subst hg
    go_wp2
    go_ret
    exact ⟨rfl, FF.out.below⟩
  rw [Bool.not_eq_true] at hg
  subst hg
  have Hq1 := Lib.hid (q1.out rfl)
  clear q1
  go_wp2_with (fail)
  refine (great_reads a2 n2 c2 s2 _ FF.out.r2 Z2.out).mono ?_
  rintro e w2 ⟨⟨g, rfl, hg⟩, rfl⟩
  have q2 := Lib.hid hg
  clear hg
  by_cases hg : g = true
  · subst hg
    go_wp2
    go_ret
    exact ⟨rfl, FF.out.below⟩
  rw [Bool.not_eq_true] at hg
  subst hg
  have Hq2 := Lib.hid (q2.out rfl)
  clear q2
  obtain ⟨p0, hp0⟩ : ∃ b, matchB ⟨s0, [], []⟩ ss = b := ⟨_, rfl⟩
  obtain ⟨p1, hp1⟩ : ∃ b, matchB ⟨[], s1, []⟩ ss = b := ⟨_, rfl⟩
  obtain ⟨p2, hp2⟩ : ∃ b, matchB ⟨[], [], s2⟩ ss = b := ⟨_, rfl⟩
  obtain ⟨b, hb⟩ : ∃ b, matchB ⟨s0, s1, s2⟩ ss = b := ⟨_, rfl⟩
  have P0 := Lib.hid hp0
  have P1 := Lib.hid hp1
  have P2 := Lib.hid hp2
  have HM := Lib.hid hb
  have HE := Lib.hid (show b = (p0 && p1 && p2) from by rw [← hp0, ← hp1, ← hp2, ← hb]; exact match_parts s0 s1 s2 ss)
  clear hp0 hp1 hp2 hb
  go_wp2_with (fail)
  refine (match_at p0 a0 none none a n0 c0 0 0 0 0 n c s0 [] [] ss _ FF.out.r0 (SReads.nil _) (SReads.nil _) RR.out P0.out).mono ?_
  rintro e w3 ⟨rfl, hb⟩
  have FF3 := Lib.hid (FF.out.on hb)
  have RR3 := Lib.hid (RR.out.on hb)
  clear hb k0 k1 k2 lt FF RR
  have k0 := FF3.out.k0
  have k1 := FF3.out.k1
  have k2 := FF3.out.k2
  have lt := FF3.out.lt
  go_wp2_with (fail)
  refine (match_at p1 none a1 none a 0 0 n1 c1 0 0 n c [] s1 [] ss _ (SReads.nil _) FF3.out.r1 (SReads.nil _) RR3.out P1.out).mono ?_
  rintro e w4 ⟨rfl, hb⟩
  have FF4 := Lib.hid (FF3.out.on hb)
  have RR4 := Lib.hid (RR3.out.on hb)
  clear hb k0 k1 k2 lt FF3 RR3
  have k0 := FF4.out.k0
  have k1 := FF4.out.k1
  have k2 := FF4.out.k2
  have lt := FF4.out.lt
  go_wp2_with (fail)
  refine (match_at p2 none none a2 a 0 0 0 0 n2 c2 n c [] [] s2 ss _ (SReads.nil _) (SReads.nil _) FF4.out.r2 RR4.out P2.out).mono ?_
  rintro e w5 ⟨rfl, hb⟩
  have FF5 := Lib.hid (FF4.out.on hb)
  have RR5 := Lib.hid (RR4.out.on hb)
  clear hb k0 k1 k2 lt FF4 RR4
  have k0 := FF5.out.k0
  have k1 := FF5.out.k1
  have k2 := FF5.out.k2
  have lt := FF5.out.lt
  go_wp2_with (fail)
  refine (match_at b a0 a1 a2 a n0 c0 n1 c1 n2 c2 n c s0 s1 s2 ss _ FF5.out.r0 FF5.out.r1 FF5.out.r2 RR5.out HM.out).mono ?_
  rintro e w6 ⟨rfl, hb⟩
  have FF6 := Lib.hid (FF5.out.on hb)
  have RR6 := Lib.hid (RR5.out.on hb)
  clear hb k0 k1 k2 lt FF5 RR5
  have k0 := FF6.out.k0
  have k1 := FF6.out.k1
  have k2 := FF6.out.k2
  have lt := FF6.out.lt
  have HE' := HE.out
  clear P0 P1 P2 HM HE
  subst HE'
  cases p0
  all_goals cases p1
  all_goals
    go_wp2
    go_ret
    exact ⟨ret_bool (by simp), FF6.out.below⟩

theorem parts_row : Rows.TagsPartsSaid :=
  OpenClaim.holds_of_wide 9 Try.f9 rfl rfl rfl rfl rfl rfl rfl ⟨rfl, rfl, rfl, rfl, rfl⟩ rfl rfl rfl rfl rfl (by kernel_rfl) Try.func9 (by kernel_rfl)
    (of_decide_eq_true (by kernel_rfl)) (by unfold Func.isWrapper; rw [if_neg (of_decide_eq_false (by kernel_rfl))]; exact ⟨rfl, rfl⟩)
    (fun os started H enc _ => lift (C := Try.checked) (s := Rows.tagsPartsSpec) (conds := Rows.tagsPartsRow.domain) os started H enc prog_own (by kernel_rfl) Try.func9 prog_laid rfl Try.underlying4 rfl
      (fun ds hl => by
        have hl : ds.length = 2 := hl
        match ds, hl with
        | [_, _], _ => rfl)
      (of_decide_eq_true (by kernel_rfl))
      (ChangeSpec.witness6 (enc := enc) (C := Try.checked) false ⟨#[], #[.agg #[.slice none 0 0, .slice none 0 0, .slice none 0 0], .slice none 0 0], []⟩ 8 (by kernel_rfl) (by kernel_rfl) (by kernel_rfl) (by kernel_rfl))
      (fun W base args ds p g => by
        rw [Try.params9] at g
        obtain ⟨a0, n0, c0, s0, a1, n1, c1, s1, a2, n2, c2, s2, e0, h0, h1, h2, z0, z1, z2⟩ := g.filter 0 rfl
        obtain ⟨a, n, c, ss, e1, h, z⟩ := g.tags 1 rfl
        rw [args2 g.count e0 e1]
        exact parts_law a0 a1 a2 a n0 c0 n1 c1 n2 c2 n c s0 s1 s2 ss W h0 h1 h2 h z0 z1 z2 z))
end Go.Proofs.Ytpaehifgccfpoaa
