/-
  The filter of a law where it lies boxed; the parameters of the laws of layer 3; and TagsMatch: what a filter matches is the document's; what came in reads as before.
-/
import Derived.Test.YtpaehifgccfpoaaRows
import Derived.Test.YtpaehifgccfpoaaFr
import Derived.Test.YtpaehifgccfpoaaGn
import Derived.BigRegion
import Derived.RegionTactic
import Derived.Deep.RegionHeld3
namespace Go.Proofs.Ytpaehifgccfpoaa
open Go.ChangeShapes Go.WideShapes Go.ChangeAt Go.RowKit

theorem prog_own : ownKnob Try.prog.godebug = none := by kernel_rfl
theorem prog_laid : laidOutB Try.prog = true := by kernel_rfl

/-- The filter that came into w lies boxed in w'. -/
structure FilterAt (w : World) (a0 : Option Addr) (n0 c0 : Nat) (a1 : Option Addr) (n1 c1 : Nat) (a2 : Option Addr) (n2 c2 : Nat) (s0 s1 s2 : List ByteArray) (w' : World) : Prop where
  k0 : w'.cell? ⟨w.heap.size, 0, none⟩ = some (.slice a0 n0 c0)
  k1 : w'.cell? ⟨w.heap.size, 1, none⟩ = some (.slice a1 n1 c1)
  k2 : w'.cell? ⟨w.heap.size, 2, none⟩ = some (.slice a2 n2 c2)
  lt : w.heap.size < w'.heap.size
  r0 : SReads w' a0 n0 c0 s0
  r1 : SReads w' a1 n1 c1 s1
  r2 : SReads w' a2 n2 c2 s2
  below : Below w.heap.size w w'

theorem FilterAt.new (w : World) (a0 : Option Addr) (n0 c0 : Nat) (a1 : Option Addr) (n1 c1 : Nat) (a2 : Option Addr) (n2 c2 : Nat) (s0 s1 s2 : List ByteArray) (h0 : SReads w a0 n0 c0 s0) (h1 : SReads w a1 n1 c1 s1) (h2 : SReads w a2 n2 c2 s2) :
    FilterAt w a0 n0 c0 a1 n1 c1 a2 n2 c2 s0 s1 s2 (w.alloc (.cells #[.slice a0 n0 c0, .slice a1 n1 c1, .slice a2 n2 c2] 24)) :=
  ⟨by rw [World.cell?_alloc_at _ _ _ _ rfl]; rfl, by rw [World.cell?_alloc_at _ _ _ _ rfl]; rfl, by rw [World.cell?_alloc_at _ _ _ _ rfl]; rfl, by simp, h0.alloc _, h1.alloc _, h2.alloc _, (Below.refl _ w).alloc (Nat.le_refl _) _⟩

theorem FilterAt.on {w : World} {a0 : Option Addr} {n0 c0 : Nat} {a1 : Option Addr} {n1 c1 : Nat} {a2 : Option Addr} {n2 c2 : Nat} {s0 s1 s2 : List ByteArray} {w' w'' : World} (h : FilterAt w a0 n0 c0 a1 n1 c1 a2 n2 c2 s0 s1 s2 w') (hb : Below w'.heap.size w' w'') :
    FilterAt w a0 n0 c0 a1 n1 c1 a2 n2 c2 s0 s1 s2 w'' :=
  ⟨(hb.cell (p := ⟨w.heap.size, 0, none⟩) h.lt).trans h.k0, (hb.cell (p := ⟨w.heap.size, 1, none⟩) h.lt).trans h.k1, (hb.cell (p := ⟨w.heap.size, 2, none⟩) h.lt).trans h.k2, Nat.lt_of_lt_of_le h.lt hb.size,
    h.r0.on hb, h.r1.on hb, h.r2.on hb, h.below.trans (hb.mono h.below.size)⟩

section
variable {H : Type} {enc : TypeId × Value → H} {W : World} {base : Nat} {ts : Array TypeId} {args : Array Value} {ds : List (DataW H)} {p : List MemPlace}
/-- A parameter that is a list of tags. -/
theorem Given.tags (g : Given enc Try.prog W base ts args ds p) (j : Nat) (ht : ts[j]? = some 22) :
    ∃ a n cap ss, args[j]? = some (.slice a n cap) ∧ SReads W a n cap ss ∧ ∀ s ∈ ss, s.size ≤ maxLen :=
  g.strs j ht Try.underlying22 Try.underlying9 (by kernel_rfl) (by kernel_rfl)
/-- A parameter that is a filter. -/
theorem Given.filter (g : Given enc Try.prog W base ts args ds p) (j : Nat) (ht : ts[j]? = some 24) :
    ∃ a0 n0 c0 s0 a1 n1 c1 s1 a2 n2 c2 s2, args[j]? = some (.agg #[.slice a0 n0 c0, .slice a1 n1 c1, .slice a2 n2 c2]) ∧ SReads W a0 n0 c0 s0 ∧ SReads W a1 n1 c1 s1 ∧ SReads W a2 n2 c2 s2 ∧ (∀ s ∈ s0, s.size ≤ maxLen) ∧ (∀ s ∈ s1, s.size ≤ maxLen) ∧ (∀ s ∈ s2, s.size ≤ maxLen) :=
  g.three j ht Try.underlying24 (by kernel_rfl) (by kernel_rfl) rfl rfl rfl Try.underlying22 Try.underlying9 (by kernel_rfl) (by kernel_rfl)
end

theorem rmatch_at (b : Bool) (a0 a1 a2 a : Option Addr) (n0 c0 n1 c1 n2 c2 n c : Nat) (s0 s1 s2 ss : List ByteArray) (w : World) (h0 : SReads w a0 n0 c0 s0) (h1 : SReads w a1 n1 c1 s1) (h2 : SReads w a2 n2 c2 s2) (h : SReads w a n c ss) (hb : matchB ⟨s0, s1, s2⟩ ss = b) :
    Calls Try.prog 16 #[.agg #[.slice a0 n0 c0, .slice a1 n1 c1, .slice a2 n2 c2], .slice a n c] w fun e w' => e = .returned (.bool b) ∧ Below w.heap.size w w' := by
  rw [← hb]
  exact rmatch_reads a0 a1 a2 a n0 c0 n1 c1 n2 c2 n c s0 s1 s2 ss w h0 h1 h2 h

set_option maxHeartbeats 3200000 in
theorem match_law (a0 a1 a2 a : Option Addr) (n0 c0 n1 c1 n2 c2 n c : Nat) (s0 s1 s2 ss : List ByteArray) (w : World) (h0 : SReads w a0 n0 c0 s0) (h1 : SReads w a1 n1 c1 s1) (h2 : SReads w a2 n2 c2 s2) (h : SReads w a n c ss)
    (z0 : ∀ s ∈ s0, s.size ≤ maxLen) (z1 : ∀ s ∈ s1, s.size ≤ maxLen) (z2 : ∀ s ∈ s2, s.size ≤ maxLen) (z : ∀ s ∈ ss, s.size ≤ maxLen) :
    Calls Try.prog 4 #[.agg #[.slice a0 n0 c0, .slice a1 n1 c1, .slice a2 n2 c2], .slice a n c] w fun e w' => e = .returned (.bool true) ∧ Below w.heap.size w w' := by
  have FN := Lib.hid (FilterAt.new w a0 n0 c0 a1 n1 c1 a2 n2 c2 s0 s1 s2 h0 h1 h2)
  have RN := Lib.hid h
  have Z0 := Lib.hid z0
  have Z1 := Lib.hid z1
  have Z2 := Lib.hid z2
  have ZZ := Lib.hid z
  clear h0 h1 h2 h z0 z1 z2 z
  go_enter Try.func4, Try.ntmps4
  go_wp2_with (fail)
  refine (alive3 _).mono ?_
  rintro e w1 ⟨rfl, hb1⟩
  have FF := Lib.hid (FN.out.on hb1)
  have RR := Lib.hid (RN.out.on FF.out.below)
  have k0 := FF.out.k0
  have k1 := FF.out.k1
  have k2 := FF.out.k2
  have lt := FF.out.lt
  clear hb1 FN RN
  go_wp2_with (fail)
  refine (great_reads a n c ss _ RR.out ZZ.out).mono ?_
  rintro e w2 ⟨⟨g, rfl, hg⟩, rfl⟩
  have q := Lib.hid hg
  clear hg
  by_cases hg : g = true
  · subst hg
    go_wp2
    go_ret
    exact ⟨rfl, FF.out.below⟩
  rw [Bool.not_eq_true] at hg
  subst hg
  have Hq := Lib.hid (q.out rfl)
  clear q
  go_wp2_with (fail)
  refine (great_reads a0 n0 c0 s0 _ FF.out.r0 Z0.out).mono ?_
  rintro e w2 ⟨⟨g, rfl, hg⟩, rfl⟩
  have q0 := Lib.hid hg
  clear hg
  by_cases hg : g = true
  · subst hg
    go_wp2
    go_ret
    exact ⟨rfl, FF.out.below⟩
  rw [Bool.not_eq_true] at hg
  subst hg
  have Hq0 := Lib.hid (q0.out rfl)
  clear q0
  go_wp2_with (fail)
  refine (great_reads a1 n1 c1 s1 _ FF.out.r1 Z1.out).mono ?_
  rintro e w2 ⟨⟨g, rfl, hg⟩, rfl⟩
  have q1 := Lib.hid hg
  clear hg
  by_cases hg : g = true
  · subst hg
    go_wp2
    go_ret
    exact ⟨rfl, FF.out.below⟩
  rw [Bool.not_eq_true] at hg
  subst hg
  have Hq1 := Lib.hid (q1.out rfl)
  clear q1
  go_wp2_with (fail)
  refine (great_reads a2 n2 c2 s2 _ FF.out.r2 Z2.out).mono ?_
  rintro e w2 ⟨⟨g, rfl, hg⟩, rfl⟩
  have q2 := Lib.hid hg
  clear hg
  by_cases hg : g = true
  · subst hg
    go_wp2
    go_ret
    exact ⟨rfl, FF.out.below⟩
  rw [Bool.not_eq_true] at hg
  subst hg
  have Hq2 := Lib.hid (q2.out rfl)
  clear q2
  obtain ⟨b, hb⟩ : ∃ b, matchB ⟨s0, s1, s2⟩ ss = b := ⟨_, rfl⟩
  have HM := Lib.hid hb
  clear hb
  have HS := Lib.hid (fun (w' : World) (hb : Below w2.heap.size w2 w') => show w'.cell? ⟨w.heap.size, 0, none⟩ = some (.slice a0 n0 c0) ∧ w'.cell? ⟨w.heap.size, 1, none⟩ = some (.slice a1 n1 c1) ∧ w'.cell? ⟨w.heap.size, 2, none⟩ = some (.slice a2 n2 c2) ∧ w.heap.size < w'.heap.size ∧ Below w2.heap.size w2 w' from
    ⟨(FF.out.on hb).k0, (FF.out.on hb).k1, (FF.out.on hb).k2, (FF.out.on hb).lt, hb⟩)
  go_wp2
  go_region_held3 (fun w' => w'.cell? ⟨w.heap.size, 0, none⟩ = some (.slice a0 n0 c0) ∧ w'.cell? ⟨w.heap.size, 1, none⟩ = some (.slice a1 n1 c1) ∧ w'.cell? ⟨w.heap.size, 2, none⟩ = some (.slice a2 n2 c2) ∧ w.heap.size < w'.heap.size ∧ Below w2.heap.size w2 w')
    (first
      | (go_keep; done)
      | exact HS.out _ (Below.refl _ _)
      | exact HS.out _ (Below.refl _ _).drew
      | (go_split_ands; exact HS.out _ (below_on (by assumption) hbel)))
    (first
      | (go_at_call 15; go_split_ands; refine (match_at b a0 a1 a2 a n0 c0 n1 c1 n2 c2 n c s0 s1 s2 ss _ (FF.out.r0.on (by assumption)) (FF.out.r1.on (by assumption)) (FF.out.r2.on (by assumption)) (RR.out.on (by assumption)) HM.out).mono ?_; rintro e w' ⟨rfl, hbel⟩)
      | (go_at_call 16; go_split_ands; refine (rmatch_at b a0 a1 a2 a n0 c0 n1 c1 n2 c2 n c s0 s1 s2 ss _ (FF.out.r0.on (by assumption)) (FF.out.r1.on (by assumption)) (FF.out.r2.on (by assumption)) (RR.out.on (by assumption)) HM.out).mono ?_; rintro e w' ⟨rfl, hbel⟩))
  rename_i hH
  have hB := FF.out.below.trans (hH.2.2.2.2.mono FF.out.below.size)
  go_wp2
  go_ret
  exact ⟨ret_bool (by simp), hB⟩

theorem match_row : Rows.TagsMatchSaid :=
  OpenClaim.holds_of_wide 4 Try.f4 rfl rfl rfl rfl rfl rfl rfl ⟨rfl, rfl, rfl, rfl, rfl⟩ rfl rfl rfl rfl rfl (by kernel_rfl) Try.func4 (by kernel_rfl)
    (of_decide_eq_true (by kernel_rfl)) (by unfold Func.isWrapper; rw [if_neg (of_decide_eq_false (by kernel_rfl))]; exact ⟨rfl, rfl⟩)
    (fun os started H enc _ => lift (C := Try.checked) (s := Rows.tagsMatchSpec) (conds := Rows.tagsMatchRow.domain) os started H enc prog_own (by kernel_rfl) Try.func4 prog_laid rfl Try.underlying4 rfl
      (fun ds hl => by
        have hl : ds.length = 2 := hl
        match ds, hl with
        | [_, _], _ => rfl)
      (of_decide_eq_true (by kernel_rfl))
      (ChangeSpec.witness6 (enc := enc) (C := Try.checked) false ⟨#[], #[.agg #[.slice none 0 0, .slice none 0 0, .slice none 0 0], .slice none 0 0], []⟩ 8 (by kernel_rfl) (by kernel_rfl) (by kernel_rfl) (by kernel_rfl))
      (fun W base args ds p g => by
        rw [Try.params4] at g
        obtain ⟨a0, n0, c0, s0, a1, n1, c1, s1, a2, n2, c2, s2, e0, h0, h1, h2, z0, z1, z2⟩ := g.filter 0 rfl
        obtain ⟨a, n, c, ss, e1, h, z⟩ := g.tags 1 rfl
        rw [args2 g.count e0 e1]
        exact match_law a0 a1 a2 a n0 c0 n1 c1 n2 c2 n c s0 s1 s2 ss W h0 h1 h2 h z0 z1 z2 z))
end Go.Proofs.Ytpaehifgccfpoaa
