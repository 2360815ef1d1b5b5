/-
  FixvecBounds holds: for any two vectors no distance is beyond what the greatest parts make; what came in reads as before.
-/
import Derived.Test.YtoaccegmeflpnaaSix
namespace Go.Proofs.Ytoaccegmeflpnaa
open Go.ChangeShapes Go.WideShapes Go.ChangeAt Go.RowKit

theorem distV_other {n n' : Nat} {xs ys : List Int} (h : distV 0 n n' xs ys = none) : distV 1 n n' xs ys = none := by
  unfold distV at h ⊢
  by_cases hc : (2 : Int) ≤ 0 ∨ checkV n n xs ≠ 0 ∨ checkV n' n ys ≠ 0
  · rw [if_pos (by omega)]
  · rw [if_neg hc] at h
    simp at h

set_option maxHeartbeats 1600000 in
theorem bounds_walk (a c : Option Addr) (n n' cap cap' : Nat) (xs ys : List Int) (w : World) (h : Reads .i32 w a n xs) (h' : Reads .i32 w c n' ys) :
    Calls Try.prog 8 #[.slice a n cap, .slice c n' cap'] w fun e w' => e = .returned (.bool true) ∧ Below w.heap.size w w' := by
  cases ho : distV 0 n n' xs ys with
  | none =>
    have ho1 := distV_other ho
    have Ho := Lib.hid ho
    have Ho1 := Lib.hid ho1
    clear ho ho1
    go_enter Try.func8, Try.ntmps8
    go_wp2_with (fail)
    refine (alive1 w).mono ?_
    rintro e w1 ⟨rfl, hb1⟩
    go_wp2_with (fail)
    refine (dist_none 0 a c n n' cap cap' xs ys _ (by omega) (by omega) (h.below (Nat.le_refl _) hb1) (h'.below (Nat.le_refl _) hb1) Ho.out).mono ?_
    rintro e w2 ⟨rfl, hb2⟩
    have B2 := hb1.trans (hb2.mono hb1.size)
    clear hb1 hb2
    go_wp2_with (fail)
    refine (dist_none 1 a c n n' cap cap' xs ys _ (by omega) (by omega) (h.below (Nat.le_refl _) B2) (h'.below (Nat.le_refl _) B2) Ho1.out).mono ?_
    rintro e w3 ⟨rfl, hb3⟩
    have B3 := B2.trans (hb3.mono B2.size)
    clear B2 hb3
    go_wp2
    go_ret
    exact ⟨rfl, B3⟩
  | some r =>
    obtain ⟨c1, c2, g1, g2, rfl, hx, hy, hr⟩ := distV_some (by omega) ho
    have er : r = sqSum xs ys := by omega
    have hl := h.len
    have s0 := sqSum_bounds xs ys hx hy
    have s3 := mulSum_bounds xs ys hx hy
    have o3 : distV 1 n' n' xs ys = some (-mulSum xs ys) := by rw [distV, if_neg (by rw [c1, c2]; omega)]; simp
    rw [← er] at s0
    rw [hl] at s0 s3
    generalize ht : -mulSum xs ys = t at *
    have Ho := Lib.hid ho
    have O3 := Lib.hid o3
    have r1 : 0 ≤ r ∧ r ≤ 70368744177664 := by omega
    have t1 : -17592186044416 ≤ t ∧ t ≤ 17592186044416 := by omega
    clear ho o3 c1 c2 hr er hl s0 s3 ht hx hy g1 g2
    obtain ⟨r1, r2⟩ := r1
    obtain ⟨t1, t2⟩ := t1
    go_enter Try.func8, Try.ntmps8
    go_wp2_with (fail)
    refine (alive1 w).mono ?_
    rintro e w1 ⟨rfl, hb1⟩
    go_wp2_with (fail)
    refine (dist_some 0 a c n' n' cap cap' xs ys r _ (by omega) (by omega) (h.below (Nat.le_refl _) hb1) (h'.below (Nat.le_refl _) hb1) Ho.out).mono ?_
    rintro e w2 ⟨rfl, hb2⟩
    have B2 := hb1.trans (hb2.mono hb1.size)
    clear hb1 hb2
    go_wp2_with (fail)
    refine (dist_some 1 a c n' n' cap cap' xs ys t _ (by omega) (by omega) (h.below (Nat.le_refl _) B2) (h'.below (Nat.le_refl _) B2) O3.out).mono ?_
    rintro e w3 ⟨rfl, hb3⟩
    have B3 := B2.trans (hb3.mono B2.size)
    clear B2 hb3
    go_wp2
    go_ret
    exact ⟨rfl, B3⟩

theorem bounds_row : Rows.FixvecBoundsSaid :=
  OpenClaim.holds_of_wide 8 Try.f8 rfl rfl rfl rfl rfl rfl rfl ⟨rfl, rfl, rfl, rfl, rfl⟩ rfl rfl rfl rfl rfl (by kernel_rfl) Try.func8 (by kernel_rfl)
    (of_decide_eq_true (by kernel_rfl)) (by unfold Func.isWrapper; rw [if_neg (of_decide_eq_false (by kernel_rfl))]; exact ⟨rfl, rfl⟩)
    (fun os started H enc _ => lift (C := Try.checked) (s := Rows.fixvecBoundsSpec) (conds := Rows.fixvecBoundsRow.domain) os started H enc prog_own (by kernel_rfl) Try.func8 prog_laid rfl Try.underlying4 rfl
      (fun ds hl => by
        have hl : ds.length = 2 := hl
        match ds, hl with
        | [_, _], _ => rfl)
      (of_decide_eq_true (by kernel_rfl))
      (ChangeSpec.witness6 (enc := enc) (C := Try.checked) false ⟨#[], #[.slice none 0 0, .slice none 0 0], []⟩ 8 (by kernel_rfl) (by kernel_rfl) (by kernel_rfl) (by kernel_rfl))
      (fun W base args ds p g => by
        rw [Try.params8] at g
        obtain ⟨a, n, cap, xs, e1, h1, _⟩ := g.slice 0 rfl Try.underlying22 Try.underlying21 (by kernel_rfl) (by kernel_rfl)
        obtain ⟨c, n', cap', ys, e2, h2, _⟩ := g.slice 1 rfl Try.underlying22 Try.underlying21 (by kernel_rfl) (by kernel_rfl)
        rw [args2 g.count e1 e2]
        exact bounds_walk a c n n' cap cap' xs ys W h1 h2))
end Go.Proofs.Ytoaccegmeflpnaa
