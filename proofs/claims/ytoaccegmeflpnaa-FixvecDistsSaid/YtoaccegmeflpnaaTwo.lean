/-
  FixvecDists holds: for every metric's number and any two vectors the program's Dist tells what the document tells, the same the other way round, and what came in reads as before.
-/
import Derived.Test.YtoaccegmeflpnaaOne
namespace Go.Proofs.Ytoaccegmeflpnaa
open Go.ChangeShapes Go.WideShapes Go.ChangeAt Go.RowKit

theorem sqSum_comm (xs ys : List Int) : sqSum xs ys = sqSum ys xs := by
  induction xs generalizing ys with
  | nil => cases ys <;> rfl
  | cons x xs ih =>
    cases ys with
    | nil => rfl
    | cons y ys =>
      simp only [sqSum]
      rw [ih ys]
      have : (x - y) * (x - y) = (y - x) * (y - x) := by
        rw [show x - y = -(y - x) from by omega, Int.neg_mul_neg]
      omega

theorem mulSum_comm (xs ys : List Int) : mulSum xs ys = mulSum ys xs := by
  induction xs generalizing ys with
  | nil => cases ys <;> rfl
  | cons x xs ih =>
    cases ys with
    | nil => rfl
    | cons y ys =>
      simp only [mulSum]
      rw [ih ys, Int.mul_comm]

theorem distV_flip {m : Int} {n n' : Nat} {xs ys : List Int} {r : Int} (hm : 0 ≤ m) (h : distV m n n' xs ys = some r) : distV m n' n ys xs = some r := by
  obtain ⟨h1, h2, _, _, rfl, _, _, h3⟩ := distV_some hm h
  rw [distV, if_neg (by rw [h1, h2]; omega)]
  rcases h3 with ⟨rfl, rfl⟩ | ⟨rfl, rfl⟩
  · simp [sqSum_comm]
  · simp [mulSum_comm]

theorem distV_comm (m : Int) (n n' : Nat) (xs ys : List Int) (hm : 0 ≤ m) : distV m n n' xs ys = distV m n' n ys xs := by
  cases h : distV m n n' xs ys with
  | some r => exact (distV_flip hm h).symm
  | none =>
    cases h' : distV m n' n ys xs with
    | none => rfl
    | some r => rw [distV_flip hm h'] at h; exact absurd h (by simp)

set_option maxHeartbeats 1600000 in
theorem dists_walk (m : Int) (a c : Option Addr) (n n' cap cap' : Nat) (xs ys : List Int) (w : World) (hm0 : 0 ≤ m) (hm1 : m < 256) (h : Reads .i32 w a n xs) (h' : Reads .i32 w c n' ys) :
    Calls Try.prog 4 #[.int .u8 m, .slice a n cap, .slice c n' cap'] w fun e w' => e = .returned (.bool true) ∧ Below w.heap.size w w' := by
  cases ho : distV m n n' xs ys with
  | none =>
    have ho' := ho
    rw [distV_comm m n n' xs ys hm0] at ho'
    have Ho := Lib.hid ho
    have Ho' := Lib.hid ho'
    clear ho ho'
    go_enter Try.func4, Try.ntmps4
    go_wp2_with (fail)
    refine (alive1 w).mono ?_
    rintro e w1 ⟨rfl, hb1⟩
    go_wp2_with (fail)
    refine (dist_none m a c n n' cap cap' xs ys _ hm0 hm1 (h.below (Nat.le_refl _) hb1) (h'.below (Nat.le_refl _) hb1) Ho.out).mono ?_
    rintro e w2 ⟨rfl, hb2⟩
    have B2 := hb1.trans (hb2.mono hb1.size)
    clear hb1 hb2
    go_wp2_with (fail)
    refine (rdist_none m a c n n' cap cap' xs ys _ hm0 hm1 (h.below (Nat.le_refl _) B2) (h'.below (Nat.le_refl _) B2) Ho.out).mono ?_
    rintro e w3 ⟨rfl, rfl⟩
    go_wp2_with (fail)
    refine (dist_none m c a n' n cap' cap ys xs _ hm0 hm1 (h'.below (Nat.le_refl _) B2) (h.below (Nat.le_refl _) B2) Ho'.out).mono ?_
    rintro e w4 ⟨rfl, hb4⟩
    have B4 := B2.trans (hb4.mono B2.size)
    go_wp2
    go_ret
    exact ⟨rfl, B4⟩
  | some r =>
    have ho' := ho
    rw [distV_comm m n n' xs ys hm0] at ho'
    have Ho := Lib.hid ho
    have Ho' := Lib.hid ho'
    clear ho ho'
    go_enter Try.func4, Try.ntmps4
    go_wp2_with (fail)
    refine (alive1 w).mono ?_
    rintro e w1 ⟨rfl, hb1⟩
    go_wp2_with (fail)
    refine (dist_some m a c n n' cap cap' xs ys r _ hm0 hm1 (h.below (Nat.le_refl _) hb1) (h'.below (Nat.le_refl _) hb1) Ho.out).mono ?_
    rintro e w2 ⟨rfl, hb2⟩
    have B2 := hb1.trans (hb2.mono hb1.size)
    clear hb1 hb2
    go_wp2_with (fail)
    refine (rdist_some m a c n n' cap cap' xs ys r _ hm0 hm1 (h.below (Nat.le_refl _) B2) (h'.below (Nat.le_refl _) B2) Ho.out).mono ?_
    rintro e w3 ⟨rfl, hb3⟩
    have B3 := B2.trans (hb3.mono B2.size)
    clear B2 hb3
    go_wp2_with (fail)
    refine (dist_some m c a n' n cap' cap ys xs r _ hm0 hm1 (h'.below (Nat.le_refl _) B3) (h.below (Nat.le_refl _) B3) Ho'.out).mono ?_
    rintro e w4 ⟨rfl, hb4⟩
    have B4 := B3.trans (hb4.mono B3.size)
    go_wp2
    go_ret
    exact ⟨rfl, B4⟩

theorem dists_row : Rows.FixvecDistsSaid :=
  OpenClaim.holds_of_wide 4 Try.f4 rfl rfl rfl rfl rfl rfl rfl ⟨rfl, rfl, rfl, rfl, rfl⟩ rfl rfl rfl rfl rfl (by kernel_rfl) Try.func4 (by kernel_rfl)
    (of_decide_eq_true (by kernel_rfl)) (by unfold Func.isWrapper; rw [if_neg (of_decide_eq_false (by kernel_rfl))]; exact ⟨rfl, rfl⟩)
    (fun os started H enc _ => lift (C := Try.checked) (s := Rows.fixvecDistsSpec) (conds := Rows.fixvecDistsRow.domain) os started H enc prog_own (by kernel_rfl) Try.func4 prog_laid rfl Try.underlying4 rfl
      (fun ds hl => by
        have hl : ds.length = 3 := hl
        match ds, hl with
        | [_, _, _], _ => rfl)
      (of_decide_eq_true (by kernel_rfl))
      (ChangeSpec.witness6 (enc := enc) (C := Try.checked) false ⟨#[], #[.int .u8 0, .slice none 0 0, .slice none 0 0], []⟩ 8 (by kernel_rfl) (by kernel_rfl) (by kernel_rfl) (by kernel_rfl))
      (fun W base args ds p g => by
        rw [Try.params4] at g
        obtain ⟨m, e0, hm⟩ := g.int 0 rfl Try.underlying5
        obtain ⟨a, n, cap, xs, e1, h1, _⟩ := g.slice 1 rfl Try.underlying22 Try.underlying21 (by kernel_rfl) (by kernel_rfl)
        obtain ⟨c, n', cap', ys, e2, h2, _⟩ := g.slice 2 rfl Try.underlying22 Try.underlying21 (by kernel_rfl) (by kernel_rfl)
        rw [args3 g.count e0 e1 e2]
        have hb := bounds_u8 hm
        exact dists_walk m a c n n' cap cap' xs ys W (by omega) (by omega) h1 h2))
end Go.Proofs.Ytoaccegmeflpnaa
