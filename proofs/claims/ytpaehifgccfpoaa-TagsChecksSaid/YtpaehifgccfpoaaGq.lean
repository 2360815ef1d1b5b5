/-
  TagsChecks: which tags, and which filters, may be is the document's; what came in reads as before.
-/
import Derived.Test.YtpaehifgccfpoaaGo
namespace Go.Proofs.Ytpaehifgccfpoaa
open Go.ChangeShapes Go.WideShapes Go.ChangeAt Go.RowKit

theorem fine_at (b : Bool) (a : Option Addr) (n c : Nat) (ss : List ByteArray) (w : World) (h : SReads w a n c ss) (hz : ∀ s ∈ ss, s.size ≤ maxLen) (hb : fineB ss = b) :
    Calls Try.prog 11 #[.slice a n c] w fun e w' => e = .returned (.bool b) ∧ Below w.heap.size w w' := by
  rw [← hb]
  exact fine_reads a n c ss w h hz
theorem right_at (x : Int) (a0 a1 a2 : Option Addr) (n0 c0 n1 c1 n2 c2 : Nat) (s0 s1 s2 : List ByteArray) (w : World) (h0 : SReads w a0 n0 c0 s0) (h1 : SReads w a1 n1 c1 s1) (h2 : SReads w a2 n2 c2 s2)
    (z0 : ∀ s ∈ s0, s.size ≤ maxLen) (z1 : ∀ s ∈ s1, s.size ≤ maxLen) (z2 : ∀ s ∈ s2, s.size ≤ maxLen) (hx : errOf (rightB ⟨s0, s1, s2⟩) = x) :
    Calls Try.prog 13 #[.agg #[.slice a0 n0 c0, .slice a1 n1 c1, .slice a2 n2 c2]] w fun e w' => e = .returned (.int .i64 x) ∧ Below w.heap.size w w' := by
  rw [← hx]
  exact right_reads a0 a1 a2 n0 c0 n1 c1 n2 c2 s0 s1 s2 w h0 h1 h2 z0 z1 z2

set_option maxHeartbeats 3200000 in
theorem checks_law (a0 a1 a2 a : Option Addr) (n0 c0 n1 c1 n2 c2 n c : Nat) (s0 s1 s2 ss : List ByteArray) (w : World) (h0 : SReads w a0 n0 c0 s0) (h1 : SReads w a1 n1 c1 s1) (h2 : SReads w a2 n2 c2 s2) (h : SReads w a n c ss)
    (z0 : ∀ s ∈ s0, s.size ≤ maxLen) (z1 : ∀ s ∈ s1, s.size ≤ maxLen) (z2 : ∀ s ∈ s2, s.size ≤ maxLen) (z : ∀ s ∈ ss, s.size ≤ maxLen) :
    Calls Try.prog 3 #[.slice a n c, .agg #[.slice a0 n0 c0, .slice a1 n1 c1, .slice a2 n2 c2]] w fun e w' => e = .returned (.bool true) ∧ Below w.heap.size w w' := by
  have FN := Lib.hid (FilterAt.new w a0 n0 c0 a1 n1 c1 a2 n2 c2 s0 s1 s2 h0 h1 h2)
  have RN := Lib.hid h
  have Z0 := Lib.hid z0
  have Z1 := Lib.hid z1
  have Z2 := Lib.hid z2
  have ZZ := Lib.hid z
  clear h0 h1 h2 h z0 z1 z2 z
  obtain ⟨o, ho⟩ : ∃ o, fineB ss = o := ⟨_, rfl⟩
  obtain ⟨p0, hp0⟩ : ∃ o, fineB s0 = o := ⟨_, rfl⟩
  obtain ⟨p1, hp1⟩ : ∃ o, fineB s1 = o := ⟨_, rfl⟩
  obtain ⟨p2, hp2⟩ : ∃ o, fineB s2 = o := ⟨_, rfl⟩
  obtain ⟨x, hx⟩ : ∃ x, errOf (fineB ss) = x := ⟨_, rfl⟩
  obtain ⟨y, hy⟩ : ∃ y, errOf (rightB ⟨s0, s1, s2⟩) = y := ⟨_, rfl⟩
  have hx' : x = errOf o := by rw [← hx, ho]
  have hy' : y = errOf (p0 && p1 && p2) := by rw [← hy, rightB, hp0, hp1, hp2]
  have HO := Lib.hid ho
  have H0 := Lib.hid hp0
  have H1 := Lib.hid hp1
  have H2 := Lib.hid hp2
  have HX := Lib.hid hx
  have HY := Lib.hid hy
  clear ho hp0 hp1 hp2 hx hy
  have hcase : p0 = false ∨ (p0 = true ∧ p1 = false) ∨ (p0 = true ∧ p1 = true ∧ p2 = false) ∨ (p0 = true ∧ p1 = true ∧ p2 = true) := by
    cases p0 <;> cases p1 <;> cases p2 <;> simp
  have hcase2 : o = true ∨ o = false := by cases o <;> simp
  go_enter Try.func3, Try.ntmps3
  go_wp2_with (fail)
  refine (alive3 _).mono ?_
  rintro e w1 ⟨rfl, hb1⟩
  have FF := Lib.hid (FN.out.on hb1)
  have RR := Lib.hid (RN.out.on FF.out.below)
  have k0 := FF.out.k0
  have k1 := FF.out.k1
  have k2 := FF.out.k2
  have lt := FF.out.lt
  clear hb1 FN RN
  rcases hcase2 with rfl | rfl
  all_goals rcases hcase with rfl | ⟨rfl, rfl⟩ | ⟨rfl, rfl, rfl⟩ | ⟨rfl, rfl, rfl⟩
  all_goals
    simp only [Bool.false_and, Bool.and_false, Bool.and_true, errOf, if_true, Bool.false_eq_true, if_false] at hx' hy'
    subst hx'
    subst hy'
    go_wp2_with (first
      | (go_at_call_of 11 (Value.slice a n c); refine (fine_at _ a n c ss _ RR.out ZZ.out HO.out).mono ?_; rintro e wn ⟨rfl, hb⟩; replace RR := Lib.hid (RR.out.on hb); replace FF := Lib.hid (FF.out.on hb); clear hb; have k0 := FF.out.k0; have k1 := FF.out.k1; have k2 := FF.out.k2; have lt := FF.out.lt)
      | (go_at_call_of 11 (Value.slice a0 n0 c0); refine (fine_at _ a0 n0 c0 s0 _ FF.out.r0 Z0.out H0.out).mono ?_; rintro e wn ⟨rfl, hb⟩; replace RR := Lib.hid (RR.out.on hb); replace FF := Lib.hid (FF.out.on hb); clear hb; have k0 := FF.out.k0; have k1 := FF.out.k1; have k2 := FF.out.k2; have lt := FF.out.lt)
      | (go_at_call_of 11 (Value.slice a1 n1 c1); refine (fine_at _ a1 n1 c1 s1 _ FF.out.r1 Z1.out H1.out).mono ?_; rintro e wn ⟨rfl, hb⟩; replace RR := Lib.hid (RR.out.on hb); replace FF := Lib.hid (FF.out.on hb); clear hb; have k0 := FF.out.k0; have k1 := FF.out.k1; have k2 := FF.out.k2; have lt := FF.out.lt)
      | (go_at_call_of 11 (Value.slice a2 n2 c2); refine (fine_at _ a2 n2 c2 s2 _ FF.out.r2 Z2.out H2.out).mono ?_; rintro e wn ⟨rfl, hb⟩; replace RR := Lib.hid (RR.out.on hb); replace FF := Lib.hid (FF.out.on hb); clear hb; have k0 := FF.out.k0; have k1 := FF.out.k1; have k2 := FF.out.k2; have lt := FF.out.lt)
      | (go_at_call 12; refine (check_at _ a n c ss _ RR.out ZZ.out HX.out).mono ?_; rintro e wn ⟨rfl, rfl⟩)
      | (go_at_call 13; refine (right_at _ a0 a1 a2 n0 c0 n1 c1 n2 c2 s0 s1 s2 _ FF.out.r0 FF.out.r1 FF.out.r2 Z0.out Z1.out Z2.out HY.out).mono ?_; rintro e wn ⟨rfl, hb⟩; replace RR := Lib.hid (RR.out.on hb); replace FF := Lib.hid (FF.out.on hb); clear hb; have k0 := FF.out.k0; have k1 := FF.out.k1; have k2 := FF.out.k2; have lt := FF.out.lt))
    go_ret
    exact ⟨rfl, FF.out.below⟩

theorem checks_row : Rows.TagsChecksSaid :=
  OpenClaim.holds_of_wide 3 Try.f3 rfl rfl rfl rfl rfl rfl rfl ⟨rfl, rfl, rfl, rfl, rfl⟩ rfl rfl rfl rfl rfl (by kernel_rfl) Try.func3 (by kernel_rfl)
    (of_decide_eq_true (by kernel_rfl)) (by unfold Func.isWrapper; rw [if_neg (of_decide_eq_false (by kernel_rfl))]; exact ⟨rfl, rfl⟩)
    (fun os started H enc _ => lift (C := Try.checked) (s := Rows.tagsChecksSpec) (conds := Rows.tagsChecksRow.domain) os started H enc prog_own (by kernel_rfl) Try.func3 prog_laid rfl Try.underlying4 rfl
      (fun ds hl => by
        have hl : ds.length = 2 := hl
        match ds, hl with
        | [_, _], _ => rfl)
      (of_decide_eq_true (by kernel_rfl))
      (ChangeSpec.witness6 (enc := enc) (C := Try.checked) false ⟨#[], #[.slice none 0 0, .agg #[.slice none 0 0, .slice none 0 0, .slice none 0 0]], []⟩ 8 (by kernel_rfl) (by kernel_rfl) (by kernel_rfl) (by kernel_rfl))
      (fun W base args ds p g => by
        rw [Try.params3] at g
        obtain ⟨a, n, c, ss, e0, h, z⟩ := g.tags 0 rfl
        obtain ⟨a0, n0, c0, s0, a1, n1, c1, s1, a2, n2, c2, s2, e1, h0, h1, h2, z0, z1, z2⟩ := g.filter 1 rfl
        rw [args2 g.count e0 e1]
        exact checks_law a0 a1 a2 a n0 c0 n1 c1 n2 c2 n c s0 s1 s2 ss W h0 h1 h2 h z0 z1 z2 z))
end Go.Proofs.Ytpaehifgccfpoaa
