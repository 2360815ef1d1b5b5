/-
  What fixvec.Dist returns.
-/
import Derived.Test.YtadkfedglkhgjaaGreatFv
import Derived.Laws.EntriesVeiled
namespace Go.Proofs.YtadkfedglkhgjaaGreat
open Go.RowKit

theorem metrics_any (w : World) : Calls Tryz.prog 81 #[] w fun e w' =>
    e = .returned (.agg #[.func (Fn.func 119) #[] #[], .func (Fn.func 120) #[] #[]]) ∧
    w.alloc (.cells #[.func (Fn.func 119) #[] #[], .func (Fn.func 120) #[] #[]] 135) = w' := by
  go_enter Tryz.func81, Tryz.ntmps81
  go_wp2
  exact bodyPost_ret (v := .agg #[.func (Fn.func 119) #[] #[], .func (Fn.func 120) #[] #[]]) (by simp [results, Tryz.results81, go_sem]) rfl ⟨rfl, rfl⟩

/-- How far two vectors are apart by metric m: nothing, if that can't be told. -/
def distV (m : Int) (n n' : Nat) (xs ys : List Int) : Option Int :=
  if 2 ≤ m ∨ checkV n n xs ≠ 0 ∨ checkV n' n ys ≠ 0 then none else some (if m = 0 then sqSum xs ys else -mulSum xs ys)

theorem checkV_zero {n : Nat} {d : Int} {xs : List Int} (h : checkV n d xs = 0) : 1 ≤ d ∧ d ≤ 16 ∧ (n : Int) = d ∧ xs.all okPart = true := by
  unfold checkV at h
  by_cases h1 : d < 1 ∨ 16 < d ∨ (n : Int) ≠ d
  · rw [if_pos h1] at h; omega
  · rw [if_neg h1] at h
    cases h2 : xs.all okPart
    · rw [h2] at h; simp at h
    · exact ⟨by omega, by omega, by omega, rfl⟩

theorem check_eq (a : Option Addr) (n cap : Nat) (xs : List Int) (d r : Int) (w W : World) (h : Reads .i32 w a n xs) (hb : Below w.heap.size w W) (hr : Hid (checkV n d xs = r)) :
    Calls Tryz.prog 82 #[.slice a n cap, .int .i64 d] W fun e w' => e = .returned (.int .i64 r) ∧ W = w' := by
  rw [← hr.out]
  exact check_any a n cap xs d W (h.below (Nat.le_refl _) hb)

set_option maxHeartbeats 800000 in
theorem dist_none (m : Int) (a c : Option Addr) (n n' cap1 cap2 : Nat) (xs ys : List Int) (w : World) (hm0 : 0 ≤ m) (hm1 : m < 256) (h : Reads .i32 w a n xs) (h' : Reads .i32 w c n' ys)
    (hd : distV m n n' xs ys = none) :
    Calls Tryz.prog 43 #[.int .u8 m, .slice a n cap1, .slice c n' cap2] w fun e w' => e = .returned (.tuple #[.int .i64 0, .bool false]) ∧ Below w.heap.size w w' := by
  by_cases hm : 2 ≤ m
  · clear hd
    go_enter Tryz.func43, Tryz.ntmps43
    go_wp2_with (go_at_call 81; refine (metrics_any _).mono ?_; rintro e w' ⟨rfl, rfl⟩)
    go_ret2
    exact ⟨rfl, by go_grown⟩
  obtain ⟨r, hr⟩ : ∃ r, checkV n n xs = r := ⟨_, rfl⟩
  have Hr := Lib.hid hr
  by_cases hr0 : r = 0
  · obtain ⟨r', hr'⟩ : ∃ r', checkV n' n ys = r' := ⟨_, rfl⟩
    have Hr' := Lib.hid hr'
    have hr1 : r' ≠ 0 := by
      intro e
      rw [distV, if_neg (by rw [hr, hr', hr0, e]; omega)] at hd
      exact absurd hd (by simp)
    have hr2 : (r' != 0) = true := by simpa using hr1
    subst hr0
    clear hd hr hr' hr1
    go_enter Tryz.func43, Tryz.ntmps43
    go_wp2_with (fail)
    refine (metrics_any _).mono ?_
    rintro e w' ⟨rfl, rfl⟩
    go_wp2_with (fail)
    refine (check_eq a n cap1 xs n 0 w _ h (by go_grown) Hr).mono ?_
    rintro e w' ⟨rfl, rfl⟩
    go_wp2_with (fail)
    refine (check_eq c n' cap2 ys n r' w _ h' (by go_grown) Hr').mono ?_
    rintro e w' ⟨rfl, rfl⟩
    go_wp2
    go_ret2
    exact ⟨rfl, by go_grown⟩
  · have hr2 : (r != 0) = true := by simpa using hr0
    clear hd hr hr0
    go_enter Tryz.func43, Tryz.ntmps43
    go_wp2_with (fail)
    refine (metrics_any _).mono ?_
    rintro e w' ⟨rfl, rfl⟩
    go_wp2_with (fail)
    refine (check_eq a n cap1 xs n r w _ h (by go_grown) Hr).mono ?_
    rintro e w' ⟨rfl, rfl⟩
    go_wp2
    go_ret2
    exact ⟨rfl, by go_grown⟩

theorem distV_some {m : Int} {n n' : Nat} {xs ys : List Int} {r : Int} (hm0 : 0 ≤ m) (h : distV m n n' xs ys = some r) :
    checkV n n xs = 0 ∧ checkV n' n ys = 0 ∧ 1 ≤ n ∧ n ≤ 16 ∧ n' = n ∧ xs.all okPart = true ∧ ys.all okPart = true ∧ ((m = 0 ∧ r = sqSum xs ys) ∨ (m = 1 ∧ r = -mulSum xs ys)) := by
  unfold distV at h
  by_cases hc : 2 ≤ m ∨ checkV n n xs ≠ 0 ∨ checkV n' n ys ≠ 0
  · rw [if_pos hc] at h; exact absurd h (by simp)
  · rw [if_neg hc] at h
    have e1 : checkV n n xs = 0 := by omega
    have e2 : checkV n' n ys = 0 := by omega
    have z1 := checkV_zero e1
    have z2 := checkV_zero e2
    refine ⟨e1, e2, by omega, by omega, by omega, z1.2.2.2, z2.2.2.2, ?_⟩
    by_cases h0 : m = 0
    · rw [if_pos h0] at h
      exact .inl ⟨h0, by simpa using h.symm⟩
    · rw [if_neg h0] at h
      exact .inr ⟨by omega, by simpa using h.symm⟩

set_option maxHeartbeats 800000 in
theorem dist_some (m : Int) (a c : Option Addr) (n n' cap1 cap2 : Nat) (xs ys : List Int) (r : Int) (w : World) (hm0 : 0 ≤ m) (hm1 : m < 256) (h : Reads .i32 w a n xs) (h' : Reads .i32 w c n' ys)
    (hd : distV m n n' xs ys = some r) :
    Calls Tryz.prog 43 #[.int .u8 m, .slice a n cap1, .slice c n' cap2] w fun e w' => e = .returned (.tuple #[.int .i64 r, .bool true]) ∧ Below w.heap.size w w' := by
  obtain ⟨hr, hr', g1, g2, rfl, hx, hy, hm⟩ := distV_some hm0 hd
  have Hr := Lib.hid hr
  have Hr' := Lib.hid hr'
  clear hd hr hr'
  have HX := Lib.hid hx
  have HY := Lib.hid hy
  clear hx hy
  rcases hm with ⟨rfl, he⟩ | ⟨rfl, he⟩
  · have HE := Lib.hid he
    clear he
    go_enter Tryz.func43, Tryz.ntmps43
    go_wp2_with (fail)
    refine (metrics_any _).mono ?_
    rintro e w' ⟨rfl, rfl⟩
    go_wp2_with (fail)
    refine (check_eq a n' cap1 xs n' 0 w _ h (by go_grown) Hr).mono ?_
    rintro e w' ⟨rfl, rfl⟩
    go_wp2_with (fail)
    refine (check_eq c n' cap2 ys n' 0 w _ h' (by go_grown) Hr').mono ?_
    rintro e w' ⟨rfl, rfl⟩
    go_wp2_with (fail)
    refine (square_any a c n' cap1 cap2 xs ys _ (h.below (Nat.le_refl _) (by go_grown)) (h'.below (Nat.le_refl _) (by go_grown)) g1 g2 HX.out HY.out).mono ?_
    rw [← HE.out]
    rintro e w' ⟨rfl, rfl⟩
    go_wp2
    go_ret2
    exact ⟨rfl, by go_grown⟩
  · have HE := Lib.hid he
    clear he
    go_enter Tryz.func43, Tryz.ntmps43
    go_wp2_with (fail)
    refine (metrics_any _).mono ?_
    rintro e w' ⟨rfl, rfl⟩
    go_wp2_with (fail)
    refine (check_eq a n' cap1 xs n' 0 w _ h (by go_grown) Hr).mono ?_
    rintro e w' ⟨rfl, rfl⟩
    go_wp2_with (fail)
    refine (check_eq c n' cap2 ys n' 0 w _ h' (by go_grown) Hr').mono ?_
    rintro e w' ⟨rfl, rfl⟩
    go_wp2_with (fail)
    refine (minus_any a c n' cap1 cap2 xs ys _ (h.below (Nat.le_refl _) (by go_grown)) (h'.below (Nat.le_refl _) (by go_grown)) g1 g2 HX.out HY.out).mono ?_
    rw [← HE.out]
    rintro e w' ⟨rfl, rfl⟩
    go_wp2
    go_ret2
    exact ⟨rfl, by go_grown⟩
end Go.Proofs.YtadkfedglkhgjaaGreat
