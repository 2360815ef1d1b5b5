/-
  TagsOwn: what is handed in stays as it was; what came in reads as before.
-/
import Derived.Test.YtpaehifgccfpoaaGo
namespace Go.Proofs.Ytpaehifgccfpoaa
open Go.ChangeShapes Go.WideShapes Go.ChangeAt Go.RowKit

theorem Sorted.some {ss : List ByteArray} {w w' : World} {e : Ending} (h : Sorted ss w e w') : Below w.heap.size w w' ∧ ∃ v, e = .returned v := by
  rcases h with ⟨hb, ⟨_, a, c, e1, _⟩ | ⟨_, e1⟩⟩
  · exact ⟨hb, _, e1⟩
  · exact ⟨hb, _, e1⟩
theorem ownS_made (w : World) : OwnS (w.alloc (.cells #[] 9)) w.heap.size 9 (.slice (Option.some ⟨w.heap.size, 0, none⟩) 0 0) [] := World.ownsRow_made w #[] 0 (Nat.le_refl _) (by decide) rfl
theorem own_reads {w : World} {B n c : Nat} {a : Option Addr} {t : TypeId} {ss : List ByteArray} (h : OwnS w B t (.slice a n c) ss) (hl : Hid (ss.length = n)) (hn : n ≤ 1000000) : SReads w a n c ss := by
  have hl' := hl.out
  obtain ⟨a', c', e, r, _⟩ := h.reads (by omega)
  injection e with e1 e2 e3
  subst e1; subst e3
  rw [hl'] at r
  exact r

set_option maxHeartbeats 3200000 in
theorem own_law (a0 a1 a2 a : Option Addr) (n0 c0 n1 c1 n2 c2 n c : Nat) (s0 s1 s2 ss : List ByteArray) (w : World) (h0 : SReads w a0 n0 c0 s0) (h1 : SReads w a1 n1 c1 s1) (h2 : SReads w a2 n2 c2 s2) (h : SReads w a n c ss)
    (z0 : ∀ s ∈ s0, s.size ≤ maxLen) (z1 : ∀ s ∈ s1, s.size ≤ maxLen) (z2 : ∀ s ∈ s2, s.size ≤ maxLen) (z : ∀ s ∈ ss, s.size ≤ maxLen) :
    Calls Try.prog 8 #[.agg #[.slice a0 n0 c0, .slice a1 n1 c1, .slice a2 n2 c2], .slice a n c] w fun e w' => e = .returned (.bool true) ∧ Below w.heap.size w w' := by
  have FN := Lib.hid (FilterAt.new w a0 n0 c0 a1 n1 c1 a2 n2 c2 s0 s1 s2 h0 h1 h2)
  have RN := Lib.hid h
  have Z0 := Lib.hid z0
  have Z1 := Lib.hid z1
  have Z2 := Lib.hid z2
  have ZZ := Lib.hid z
  clear h0 h1 h2 h z0 z1 z2 z
  go_enter Try.func8, Try.ntmps8
  go_wp2_with (fail)
  refine (alive3 _).mono ?_
  rintro e w1 ⟨rfl, hb1⟩
  have FF := Lib.hid (FN.out.on hb1)
  have RR := Lib.hid (RN.out.on FF.out.below)
  have k0 := FF.out.k0
  have k1 := FF.out.k1
  have k2 := FF.out.k2
  have lt := FF.out.lt
  clear hb1 FN RN
  go_wp2_with (fail)
  refine (great_reads a n c ss _ RR.out ZZ.out).mono ?_
  rintro e w2 ⟨⟨g, rfl, hg⟩, rfl⟩
  have q := Lib.hid hg
  clear hg
  by_cases hg : g = true
  · subst hg
    go_wp2
    go_ret
    exact ⟨rfl, FF.out.below⟩
  rw [Bool.not_eq_true] at hg
  subst hg
  have Hq := Lib.hid (q.out rfl)
  clear q
  go_wp2_with (fail)
  refine (great_reads a0 n0 c0 s0 _ FF.out.r0 Z0.out).mono ?_
  rintro e w2 ⟨⟨g, rfl, hg⟩, rfl⟩
  have q0 := Lib.hid hg
  clear hg
  by_cases hg : g = true
  · subst hg
    go_wp2
    go_ret
    exact ⟨rfl, FF.out.below⟩
  rw [Bool.not_eq_true] at hg
  subst hg
  have Hq0 := Lib.hid (q0.out rfl)
  clear q0
  go_wp2_with (fail)
  refine (great_reads a1 n1 c1 s1 _ FF.out.r1 Z1.out).mono ?_
  rintro e w2 ⟨⟨g, rfl, hg⟩, rfl⟩
  have q1 := Lib.hid hg
  clear hg
  by_cases hg : g = true
  · subst hg
    go_wp2
    go_ret
    exact ⟨rfl, FF.out.below⟩
  rw [Bool.not_eq_true] at hg
  subst hg
  have Hq1 := Lib.hid (q1.out rfl)
  clear q1
  go_wp2_with (fail)
  refine (great_reads a2 n2 c2 s2 _ FF.out.r2 Z2.out).mono ?_
  rintro e w2 ⟨⟨g, rfl, hg⟩, rfl⟩
  have q2 := Lib.hid hg
  clear hg
  by_cases hg : g = true
  · subst hg
    go_wp2
    go_ret
    exact ⟨rfl, FF.out.below⟩
  rw [Bool.not_eq_true] at hg
  subst hg
  have Hq2 := Lib.hid (q2.out rfl)
  clear q2
  go_wp2_with (at_builtin; refine app_strs _ rfl (.tmp 26) (.tmp 27) 22 9 rfl Try.underlying22 string_info w2.heap.size _ [] (by rfl) (ownS_made w2) a n c ss (by rfl) (RR.out.alloc _) (by have := Hq.out; simp; omega) (by simp) ?_)
  intro v1 w3 o1 g1
  have hb : Below w2.heap.size w2 w3 := ((Below.refl _ w2).alloc (Nat.le_refl _) _).grown g1 (by simp) (fun k hk => by simp [Value.ownBlock] at hk; omega)
  obtain ⟨ax, nx, cx, rfl, hnx⟩ := o1.parts
  have HX := Lib.hid (show SReads w3 ax nx cx ss from own_reads o1 hnx (by have e : ss.length = nx := hnx.out; have := Hq.out; have := RR.out.len; omega))
  have FF3 := Lib.hid (FF.out.on hb)
  have RR3 := Lib.hid (RR.out.on hb)
  clear hb k0 k1 k2 lt FF RR
  have k0 := FF3.out.k0
  have k1 := FF3.out.k1
  have k2 := FF3.out.k2
  have lt := FF3.out.lt
  clear o1 g1
  go_wp2_with (at_builtin; refine app_strs _ rfl (.tmp 29) (.tmp 31) 22 9 rfl Try.underlying22 string_info w3.heap.size _ [] (by rfl) (ownS_made w3) a0 n0 c0 s0 (by rfl) (FF3.out.r0.alloc _) (by have := Hq0.out; simp; omega) (by simp) ?_)
  intro v2 w4 o2 g2
  have hb : Below w3.heap.size w3 w4 := ((Below.refl _ w3).alloc (Nat.le_refl _) _).grown g2 (by simp) (fun k hk => by simp [Value.ownBlock] at hk; omega)
  obtain ⟨ay, ny, cy, rfl, hny⟩ := o2.parts
  have HY := Lib.hid (show SReads w4 ay ny cy s0 from own_reads o2 hny (by have e : s0.length = ny := hny.out; have := Hq0.out; have := FF3.out.r0.len; omega))
  have HX4 := Lib.hid (HX.out.on hb)
  clear HX
  have FF4 := Lib.hid (FF3.out.on hb)
  have RR4 := Lib.hid (RR3.out.on hb)
  clear hb k0 k1 k2 lt FF3 RR3
  have k0 := FF4.out.k0
  have k1 := FF4.out.k1
  have k2 := FF4.out.k2
  have lt := FF4.out.lt
  clear o2 g2
  go_wp2_with (fail)
  refine (sort_reads a n c ss _ RR4.out ZZ.out).mono ?_
  rintro e w5 hs
  obtain ⟨hb, v5, rfl⟩ := hs.some
  clear hs
  have HX5 := Lib.hid (HX4.out.on hb)
  have HY5 := Lib.hid (HY.out.on hb)
  clear HX4 HY
  have FF5 := Lib.hid (FF4.out.on hb)
  have RR5 := Lib.hid (RR4.out.on hb)
  clear hb k0 k1 k2 lt FF4 RR4
  have k0 := FF5.out.k0
  have k1 := FF5.out.k1
  have k2 := FF5.out.k2
  have lt := FF5.out.lt
  go_wp2_with (fail)
  refine (check_reads a n c ss _ RR5.out ZZ.out).mono ?_
  rintro e w6 ⟨rfl, rfl⟩
  go_wp2_with (fail)
  refine (right_reads a0 a1 a2 n0 c0 n1 c1 n2 c2 s0 s1 s2 _ FF5.out.r0 FF5.out.r1 FF5.out.r2 Z0.out Z1.out Z2.out).mono ?_
  rintro e w7 ⟨rfl, hb⟩
  have HX7 := Lib.hid (HX5.out.on hb)
  have HY7 := Lib.hid (HY5.out.on hb)
  clear HX5 HY5
  have FF7 := Lib.hid (FF5.out.on hb)
  have RR7 := Lib.hid (RR5.out.on hb)
  clear hb k0 k1 k2 lt FF5 RR5
  have k0 := FF7.out.k0
  have k1 := FF7.out.k1
  have k2 := FF7.out.k2
  have lt := FF7.out.lt
  go_wp2_with (fail)
  refine (match_reads a0 a1 a2 a n0 c0 n1 c1 n2 c2 n c s0 s1 s2 ss _ FF7.out.r0 FF7.out.r1 FF7.out.r2 RR7.out).mono ?_
  rintro e w8 ⟨rfl, hb⟩
  have HX8 := Lib.hid (HX7.out.on hb)
  have HY8 := Lib.hid (HY7.out.on hb)
  clear HX7 HY7
  have FF8 := Lib.hid (FF7.out.on hb)
  have RR8 := Lib.hid (RR7.out.on hb)
  clear hb k0 k1 k2 lt FF7 RR7
  have k0 := FF8.out.k0
  have k1 := FF8.out.k1
  have k2 := FF8.out.k2
  have lt := FF8.out.lt
  go_wp2_with (fail)
  refine (same_at true a ax n nx c cx ss ss _ RR8.out HX8.out (by simp)).mono ?_
  rintro e w9 ⟨rfl, hb⟩
  have HY9 := Lib.hid (HY8.out.on hb)
  clear HX8 HY8
  have FF9 := Lib.hid (FF8.out.on hb)
  have RR9 := Lib.hid (RR8.out.on hb)
  clear hb k0 k1 k2 lt FF8 RR8
  have k0 := FF9.out.k0
  have k1 := FF9.out.k1
  have k2 := FF9.out.k2
  have lt := FF9.out.lt
  go_wp2_with (fail)
  refine (same_at true a0 ay n0 ny c0 cy s0 s0 _ FF9.out.r0 HY9.out (by simp)).mono ?_
  rintro e w10 ⟨rfl, hb⟩
  have HB := FF9.out.below.trans (hb.mono FF9.out.below.size)
  go_wp2
  go_ret
  exact ⟨rfl, HB⟩

theorem own_row : Rows.TagsOwnSaid :=
  OpenClaim.holds_of_wide 8 Try.f8 rfl rfl rfl rfl rfl rfl rfl ⟨rfl, rfl, rfl, rfl, rfl⟩ rfl rfl rfl rfl rfl (by kernel_rfl) Try.func8 (by kernel_rfl)
    (of_decide_eq_true (by kernel_rfl)) (by unfold Func.isWrapper; rw [if_neg (of_decide_eq_false (by kernel_rfl))]; exact ⟨rfl, rfl⟩)
    (fun os started H enc _ => lift (C := Try.checked) (s := Rows.tagsOwnSpec) (conds := Rows.tagsOwnRow.domain) os started H enc prog_own (by kernel_rfl) Try.func8 prog_laid rfl Try.underlying4 rfl
      (fun ds hl => by
        have hl : ds.length = 2 := hl
        match ds, hl with
        | [_, _], _ => rfl)
      (of_decide_eq_true (by kernel_rfl))
      (ChangeSpec.witness6 (enc := enc) (C := Try.checked) false ⟨#[], #[.agg #[.slice none 0 0, .slice none 0 0, .slice none 0 0], .slice none 0 0], []⟩ 8 (by kernel_rfl) (by kernel_rfl) (by kernel_rfl) (by kernel_rfl))
      (fun W base args ds p g => by
        rw [Try.params8] at g
        obtain ⟨a0, n0, c0, s0, a1, n1, c1, s1, a2, n2, c2, s2, e0, h0, h1, h2, z0, z1, z2⟩ := g.filter 0 rfl
        obtain ⟨a, n, c, ss, e1, h, z⟩ := g.tags 1 rfl
        rw [args2 g.count e0 e1]
        exact own_law a0 a1 a2 a n0 c0 n1 c1 n2 c2 n c s0 s1 s2 ss W h0 h1 h2 h z0 z1 z2 z))
end Go.Proofs.Ytpaehifgccfpoaa
