/-
  FixvecSquares holds: for any two vectors the squares are never below 0, are 0 just from a vector to itself, and go together with the products; what came in reads as before.
-/
import Derived.Test.YtoaccegmeflpnaaTwo
namespace Go.Proofs.Ytoaccegmeflpnaa
open Go.ChangeShapes Go.WideShapes Go.ChangeAt Go.RowKit

theorem all_cons {x : Int} {xs : List Int} (h : (x :: xs).all okPart = true) : -1048576 ≤ x ∧ x ≤ 1048576 ∧ xs.all okPart = true := by
  simp only [List.all_cons, Bool.and_eq_true, okPart, decide_eq_true_eq] at h
  exact ⟨h.1.1, h.1.2, h.2⟩

theorem sqSum_bounds (xs ys : List Int) (hx : xs.all okPart = true) (hy : ys.all okPart = true) : 0 ≤ sqSum xs ys ∧ sqSum xs ys ≤ 4398046511104 * (xs.length : Int) := by
  induction xs generalizing ys with
  | nil => cases ys <;> simp [sqSum]
  | cons x xs ih =>
    cases ys with
    | nil => simp [sqSum]; omega
    | cons y ys =>
      obtain ⟨a1, a2, hx⟩ := all_cons hx
      obtain ⟨b1, b2, hy⟩ := all_cons hy
      have i := ih ys hx hy
      have b := sq_bound (x - y) (by omega) (by omega)
      simp only [sqSum, List.length_cons]
      omega

theorem mulSum_bounds (xs ys : List Int) (hx : xs.all okPart = true) (hy : ys.all okPart = true) : -1099511627776 * (xs.length : Int) ≤ mulSum xs ys ∧ mulSum xs ys ≤ 1099511627776 * (xs.length : Int) := by
  induction xs generalizing ys with
  | nil => cases ys <;> simp [mulSum]
  | cons x xs ih =>
    cases ys with
    | nil => simp [mulSum]; omega
    | cons y ys =>
      obtain ⟨a1, a2, hx⟩ := all_cons hx
      obtain ⟨b1, b2, hy⟩ := all_cons hy
      have i := ih ys hx hy
      have b := mul_bound x y a1 a2 b1 b2
      simp only [mulSum, List.length_cons]
      omega

theorem sqSum_mul (xs ys : List Int) (h : xs.length = ys.length) : sqSum xs ys = 2 * -mulSum xs ys - -mulSum xs xs - -mulSum ys ys := by
  induction xs generalizing ys with
  | nil => cases ys <;> simp_all [sqSum, mulSum]
  | cons x xs ih =>
    cases ys with
    | nil => simp at h
    | cons y ys =>
      have i := ih ys (by simpa using h)
      simp only [sqSum, mulSum]
      rw [sq_expand, Int.mul_assoc]
      omega

theorem sq_zero (d : Int) (h : d * d = 0) : d = 0 := by
  rcases Int.mul_eq_zero.1 h with h | h <;> exact h

theorem sqSum_zero (xs ys : List Int) (h : xs.length = ys.length) (hx : xs.all okPart = true) (hy : ys.all okPart = true) : sqSum xs ys = 0 ↔ xs = ys := by
  induction xs generalizing ys with
  | nil => cases ys <;> simp_all [sqSum]
  | cons x xs ih =>
    cases ys with
    | nil => simp at h
    | cons y ys =>
      obtain ⟨a1, a2, hx⟩ := all_cons hx
      obtain ⟨b1, b2, hy⟩ := all_cons hy
      have i := ih ys (by simpa using h) hx hy
      have b := sq_bound (x - y) (by omega) (by omega)
      have s := sqSum_bounds xs ys hx hy
      simp only [sqSum]
      constructor
      · intro e
        have := sq_zero (x - y) (by omega)
        have e2 := i.1 (by omega)
        rw [e2, show x = y from by omega]
      · intro e
        simp only [List.cons.injEq] at e
        have := i.2 e.2
        rw [e.1, this]
        simp

theorem same_eq (a c : Option Addr) (n n' cap cap' : Nat) (xs ys : List Int) (w W : World) (z : Bool) (h : Reads .i32 w a n xs) (h' : Reads .i32 w c n' ys) (hb : Below w.heap.size w W) (hz : Hid (decide (xs = ys) = z)) :
    Calls Try.prog 16 #[.slice a n cap, .slice c n' cap'] W fun e w' => e = .returned (.bool z) ∧ Below W.heap.size W w' := by
  rw [← hz.out]
  exact same_any a c n n' cap cap' xs ys W (h.below (Nat.le_refl _) hb) (h'.below (Nat.le_refl _) hb)

set_option maxHeartbeats 1600000 in
theorem squares_walk (a c : Option Addr) (n n' cap cap' : Nat) (xs ys : List Int) (w : World) (h : Reads .i32 w a n xs) (h' : Reads .i32 w c n' ys) :
    Calls Try.prog 6 #[.slice a n cap, .slice c n' cap'] w fun e w' => e = .returned (.bool true) ∧ Below w.heap.size w w' := by
  cases ho : distV 0 n n' xs ys with
  | none =>
    have Ho := Lib.hid ho
    clear ho
    go_enter Try.func6, Try.ntmps6
    go_wp2_with (fail)
    refine (alive1 w).mono ?_
    rintro e w1 ⟨rfl, hb1⟩
    go_wp2_with (fail)
    refine (dist_none 0 a c n n' cap cap' xs ys _ (by omega) (by omega) (h.below (Nat.le_refl _) hb1) (h'.below (Nat.le_refl _) hb1) Ho.out).mono ?_
    rintro e w2 ⟨rfl, hb2⟩
    have B2 := hb1.trans (hb2.mono hb1.size)
    clear hb1 hb2
    go_wp2
    go_ret
    exact ⟨rfl, B2⟩
  | some r =>
    obtain ⟨c1, c2, g1, g2, rfl, hx, hy, hr⟩ := distV_some (by omega) ho
    have er : r = sqSum xs ys := by omega
    have hl := h.len
    have hl' := h'.len
    have s0 := sqSum_bounds xs ys hx hy
    have s1 := mulSum_bounds xs xs hx hx
    have s2 := mulSum_bounds ys ys hy hy
    have s3 := mulSum_bounds xs ys hx hy
    have s4 := sqSum_mul xs ys (by omega)
    have s5 := sqSum_zero xs ys (by omega) hx hy
    have o1 : distV 1 n' n' xs xs = some (-mulSum xs xs) := by rw [distV, if_neg (by rw [c1]; omega)]; simp
    have o2 : distV 1 n' n' ys ys = some (-mulSum ys ys) := by rw [distV, if_neg (by rw [c2]; omega)]; simp
    have o3 : distV 1 n' n' xs ys = some (-mulSum xs ys) := by rw [distV, if_neg (by rw [c1, c2]; omega)]; simp
    rw [← er] at s0 s4 s5
    rw [hl] at s1 s3
    rw [hl'] at s2
    generalize hp : -mulSum xs xs = p at *
    generalize hq : -mulSum ys ys = q at *
    generalize ht : -mulSum xs ys = t at *
    obtain ⟨z, hz⟩ : ∃ z, decide (xs = ys) = z := ⟨_, rfl⟩
    have hrz : (r == 0) = z := by
      rw [← hz, Bool.eq_iff_iff]
      simpa using s5
    have Ho := Lib.hid ho
    have O1 := Lib.hid o1
    have O2 := Lib.hid o2
    have O3 := Lib.hid o3
    have HZ := Lib.hid hz
    have hr0 : 0 ≤ r := s0.1
    have p1 : -17592186044416 ≤ p ∧ p ≤ 17592186044416 := by omega
    have q1 : -17592186044416 ≤ q ∧ q ≤ 17592186044416 := by omega
    have t1 : -17592186044416 ≤ t ∧ t ≤ 17592186044416 := by omega
    have hsum : (r == 2 * t - p - q) = true := by simpa using s4
    clear ho o1 o2 o3 hz c1 c2 hr er hl hl' s0 s1 s2 s3 s4 s5 hp hq ht hx hy g1 g2
    obtain ⟨p1, p2⟩ := p1
    obtain ⟨q1, q2⟩ := q1
    obtain ⟨t1, t2⟩ := t1
    go_enter Try.func6, Try.ntmps6
    go_wp2_with (fail)
    refine (alive1 w).mono ?_
    rintro e w1 ⟨rfl, hb1⟩
    go_wp2_with (fail)
    refine (dist_some 0 a c n' n' cap cap' xs ys r _ (by omega) (by omega) (h.below (Nat.le_refl _) hb1) (h'.below (Nat.le_refl _) hb1) Ho.out).mono ?_
    rintro e w2 ⟨rfl, hb2⟩
    have B2 := hb1.trans (hb2.mono hb1.size)
    clear hb1 hb2
    go_wp2_with (fail)
    refine (dist_some 1 a a n' n' cap cap xs xs p _ (by omega) (by omega) (h.below (Nat.le_refl _) B2) (h.below (Nat.le_refl _) B2) O1.out).mono ?_
    rintro e w3 ⟨rfl, hb3⟩
    have B3 := B2.trans (hb3.mono B2.size)
    clear B2 hb3
    go_wp2_with (fail)
    refine (dist_some 1 c c n' n' cap' cap' ys ys q _ (by omega) (by omega) (h'.below (Nat.le_refl _) B3) (h'.below (Nat.le_refl _) B3) O2.out).mono ?_
    rintro e w4 ⟨rfl, hb4⟩
    have B4 := B3.trans (hb4.mono B3.size)
    clear B3 hb4
    go_wp2_with (fail)
    refine (dist_some 1 a c n' n' cap cap' xs ys t _ (by omega) (by omega) (h.below (Nat.le_refl _) B4) (h'.below (Nat.le_refl _) B4) O3.out).mono ?_
    rintro e w5 ⟨rfl, hb5⟩
    have B5 := B4.trans (hb5.mono B4.size)
    clear B4 hb5
    go_wp2_with (fail)
    refine (same_eq a c n' n' cap cap' xs ys w _ z h h' B5 HZ).mono ?_
    rintro e w6 ⟨rfl, hb6⟩
    have B6 := B5.trans (hb6.mono B5.size)
    clear B5 hb6
    go_wp2
    go_ret
    exact ⟨rfl, B6⟩

theorem squares_row : Rows.FixvecSquaresSaid :=
  OpenClaim.holds_of_wide 6 Try.f6 rfl rfl rfl rfl rfl rfl rfl ⟨rfl, rfl, rfl, rfl, rfl⟩ rfl rfl rfl rfl rfl (by kernel_rfl) Try.func6 (by kernel_rfl)
    (of_decide_eq_true (by kernel_rfl)) (by unfold Func.isWrapper; rw [if_neg (of_decide_eq_false (by kernel_rfl))]; exact ⟨rfl, rfl⟩)
    (fun os started H enc _ => lift (C := Try.checked) (s := Rows.fixvecSquaresSpec) (conds := Rows.fixvecSquaresRow.domain) os started H enc prog_own (by kernel_rfl) Try.func6 prog_laid rfl Try.underlying4 rfl
      (fun ds hl => by
        have hl : ds.length = 2 := hl
        match ds, hl with
        | [_, _], _ => rfl)
      (of_decide_eq_true (by kernel_rfl))
      (ChangeSpec.witness6 (enc := enc) (C := Try.checked) false ⟨#[], #[.slice none 0 0, .slice none 0 0], []⟩ 8 (by kernel_rfl) (by kernel_rfl) (by kernel_rfl) (by kernel_rfl))
      (fun W base args ds p g => by
        rw [Try.params6] at g
        obtain ⟨a, n, cap, xs, e1, h1, _⟩ := g.slice 0 rfl Try.underlying22 Try.underlying21 (by kernel_rfl) (by kernel_rfl)
        obtain ⟨c, n', cap', ys, e2, h2, _⟩ := g.slice 1 rfl Try.underlying22 Try.underlying21 (by kernel_rfl) (by kernel_rfl)
        rw [args2 g.count e1 e2]
        exact squares_walk a c n n' cap cap' xs ys W h1 h2))
end Go.Proofs.Ytoaccegmeflpnaa
