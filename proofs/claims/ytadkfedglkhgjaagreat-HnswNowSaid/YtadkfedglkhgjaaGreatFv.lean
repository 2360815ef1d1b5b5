/-
  What the functions of package fixvec return, each by a walk over its text.
-/
import Derived.Test.YtadkfedglkhgjaaGreatProg
import Derived.Test.YtadkfedglkhgjaaGreatSl
import Derived.BigQuiet
import Derived.Deep.QuietTactic
import Derived.Handy
import Derived.Outline
namespace Go.Proofs.YtadkfedglkhgjaaGreat
open Go.RowKit

/-- A part that may be. -/
def okPart (x : Int) : Bool := decide (-1048576 ≤ x ∧ x ≤ 1048576)
/-- What Check answers, as a number. -/
def checkV (n : Nat) (d : Int) (xs : List Int) : Int := if d < 1 ∨ 16 < d ∨ (n : Int) ≠ d then 10 else if xs.all okPart then 0 else 11

theorem all_take_succ (xs : List Int) (k : Nat) (h : k < xs.length) : (xs.take (k + 1)).all okPart = ((xs.take k).all okPart && okPart (xs.getD k 0)) := by
  have e : xs.getD k 0 = xs[k] := by simp [List.getD, h]
  rw [List.take_succ_eq_append_getElem h, e]
  simp only [List.all_append, List.all_cons, List.all_nil, Bool.and_true]

theorem all_false_of (xs : List Int) (k : Nat) (h : k < xs.length) (hk : okPart (xs.getD k 0) = false) : xs.all okPart = false := by
  rw [List.all_eq_false]
  exact ⟨xs[k], List.getElem_mem h, by simpa [List.getD, h] using hk⟩

set_option maxHeartbeats 400000 in
theorem check_any (a : Option Addr) (n cap : Nat) (xs : List Int) (d : Int) (w : World) (h : Reads .i32 w a n xs) :
    Calls Tryz.prog 82 #[.slice a n cap, .int .i64 d] w fun e w' => e = .returned (.int .i64 (checkV n d xs)) ∧ w = w' := by
  obtain ⟨hl, hn, _, hwf, hc⟩ := h
  by_cases h1 : d < 1
  · go_enter Tryz.func82, Tryz.ntmps82
    go_wp2
    go_ret
    exact ⟨by simp [checkV, h1], rfl⟩
  by_cases h2 : 16 < d
  · go_enter Tryz.func82, Tryz.ntmps82
    go_wp2
    go_ret
    exact ⟨by simp [checkV, h2], rfl⟩
  by_cases h3 : (n : Int) = d
  · subst h3
    have hcv : checkV n n xs = if xs.all okPart then 0 else 11 := by simp [checkV, h1, h2]
    rcases hc with h0 | ⟨b, off, rfl, hlt, hc⟩
    · omega
    have HL := Lib.hid hl
    have HV := Lib.hid hcv
    have HC := Lib.hid hc
    clear hl hcv hc hwf
    go_enter Tryz.func82, Tryz.ntmps82
    go_wp2
    go_loop [21] (fun i => ∃ k : Nat, k ≤ n ∧ i = .int .i64 k ∧ (xs.take k).all okPart = true) (fun i => n - (intOf i).toNat)
    case atStart => exact ⟨0, Nat.zero_le _, rfl, by simp⟩
    case round =>
      obtain ⟨k, hk, rfl, hall⟩ := hrel
      have HA := Lib.hid hall
      clear hall
      by_cases hlt' : k < n
      · obtain ⟨p, hp⟩ : ∃ p, p = xs.getD k 0 := ⟨_, rfl⟩
        have hcell := HC.out k hlt'
        rw [← hp] at hcell
        have HP := Lib.hid hp
        clear hp
        by_cases hp1 : p < -1048576
        · go_wp2
          go_ret
          exact ⟨by rw [HV.out, all_false_of xs k (by rw [HL.out]; exact hlt') (by rw [← HP.out]; simp [okPart]; omega)]; rfl, rfl⟩
        by_cases hp2 : 1048576 < p
        · go_wp2
          go_ret
          exact ⟨by rw [HV.out, all_false_of xs k (by rw [HL.out]; exact hlt') (by rw [← HP.out]; simp [okPart]; omega)]; rfl, rfl⟩
        go_wp2
        go_round
        case rel => exact ⟨k + 1, by omega, by go_num, by rw [all_take_succ xs k (by rw [HL.out]; exact hlt'), HA.out, ← HP.out]; simp [okPart]; omega⟩
        case measure => simp [intOf]; omega
      · go_wp2
        go_ret
        refine ⟨?_, rfl⟩
        have e := HA.out
        rw [List.take_of_length_le (by rw [HL.out]; omega)] at e
        rw [HV.out, e]; rfl
  · go_enter Tryz.func82, Tryz.ntmps82
    go_wp2
    go_ret
    exact ⟨by simp [checkV, h3], rfl⟩

/-- The sum of the squares of the parts' differences. -/
def sqSum : List Int → List Int → Int
  | x :: xs, y :: ys => (x - y) * (x - y) + sqSum xs ys
  | _, _ => 0
/-- The sum of the parts' products. -/
def mulSum : List Int → List Int → Int
  | x :: xs, y :: ys => x * y + mulSum xs ys
  | _, _ => 0

theorem sqSum_take (xs ys : List Int) (k : Nat) (hx : k < xs.length) (hy : k < ys.length) :
    sqSum (xs.take (k + 1)) (ys.take (k + 1)) = sqSum (xs.take k) (ys.take k) + (xs.getD k 0 - ys.getD k 0) * (xs.getD k 0 - ys.getD k 0) := by
  induction k generalizing xs ys with
  | zero =>
    match xs, ys, hx, hy with
    | x :: xs, y :: ys, _, _ => simp [sqSum]
  | succ k ih =>
    match xs, ys, hx, hy with
    | x :: xs, y :: ys, hx, hy =>
      simp only [List.take_succ_cons, sqSum, List.getD_cons_succ]
      rw [ih xs ys (by simpa using hx) (by simpa using hy)]
      omega

theorem mulSum_take (xs ys : List Int) (k : Nat) (hx : k < xs.length) (hy : k < ys.length) :
    mulSum (xs.take (k + 1)) (ys.take (k + 1)) = mulSum (xs.take k) (ys.take k) + xs.getD k 0 * ys.getD k 0 := by
  induction k generalizing xs ys with
  | zero =>
    match xs, ys, hx, hy with
    | x :: xs, y :: ys, _, _ => simp [mulSum]
  | succ k ih =>
    match xs, ys, hx, hy with
    | x :: xs, y :: ys, hx, hy =>
      simp only [List.take_succ_cons, mulSum, List.getD_cons_succ]
      rw [ih xs ys (by simpa using hx) (by simpa using hy)]
      omega

theorem sq_bound (d : Int) (h1 : -2097152 ≤ d) (h2 : d ≤ 2097152) : 0 ≤ d * d ∧ d * d ≤ 4398046511104 := by
  have e1 : 0 ≤ (2097152 - d) * (2097152 + d) := Int.mul_nonneg (by omega) (by omega)
  have e2 : (2097152 - d) * (2097152 + d) = 4398046511104 - d * d := by
    rw [Int.sub_mul, Int.mul_add, Int.mul_add, Int.mul_comm d 2097152]; omega
  have e3 : 0 ≤ d * d := by
    rcases Int.le_total 0 d with h | h
    · exact Int.mul_nonneg h h
    · exact Int.mul_nonneg_of_nonpos_of_nonpos h h
  omega

theorem mul_bound (x y : Int) (h1 : -1048576 ≤ x) (h2 : x ≤ 1048576) (h3 : -1048576 ≤ y) (h4 : y ≤ 1048576) : -1099511627776 ≤ x * y ∧ x * y ≤ 1099511627776 := by
  have e1 : 0 ≤ (1048576 - x) * (1048576 + y) := Int.mul_nonneg (by omega) (by omega)
  have e2 : 0 ≤ (1048576 + x) * (1048576 - y) := Int.mul_nonneg (by omega) (by omega)
  have e3 : 0 ≤ (1048576 - x) * (1048576 - y) := Int.mul_nonneg (by omega) (by omega)
  have e4 : 0 ≤ (1048576 + x) * (1048576 + y) := Int.mul_nonneg (by omega) (by omega)
  rw [Int.sub_mul, Int.mul_add, Int.mul_add] at e1
  rw [Int.add_mul, Int.mul_sub, Int.mul_sub] at e2
  rw [Int.sub_mul, Int.mul_sub, Int.mul_sub] at e3
  rw [Int.add_mul, Int.mul_add, Int.mul_add] at e4
  omega

theorem part_of (xs : List Int) (k : Nat) (h : xs.all okPart = true) (hk : k < xs.length) : -1048576 ≤ xs.getD k 0 ∧ xs.getD k 0 ≤ 1048576 := by
  have e : xs.getD k 0 = xs[k] := by simp [List.getD, hk]
  rw [List.all_eq_true] at h
  have := h xs[k] (List.getElem_mem hk)
  rw [e]
  simpa [okPart] using this

set_option maxHeartbeats 400000 in
theorem square_any (a c : Option Addr) (n cap1 cap2 : Nat) (xs ys : List Int) (w : World) (h : Reads .i32 w a n xs) (h' : Reads .i32 w c n ys) (h1 : 1 ≤ n) (h16 : n ≤ 16)
    (hx : xs.all okPart = true) (hy : ys.all okPart = true) :
    Calls Tryz.prog 119 #[.slice a n cap1, .slice c n cap2] w fun e w' => e = .returned (.int .i64 (sqSum xs ys)) ∧ w = w' := by
  obtain ⟨hl, _, _, _, hc⟩ := h
  obtain ⟨hl', _, _, _, hc'⟩ := h'
  rcases hc with h0 | ⟨b, off, rfl, hlt, hc⟩
  · omega
  rcases hc' with h0 | ⟨b', off', rfl, hlt', hc'⟩
  · omega
  have HL := Lib.hid hl
  have HL' := Lib.hid hl'
  have HC := Lib.hid hc
  have HC' := Lib.hid hc'
  have HX := Lib.hid hx
  have HY := Lib.hid hy
  clear hl hl' hc hc' hx hy
  go_enter Tryz.func119, Tryz.ntmps119
  go_wp2
  go_loop [5, 11] (fun t i => ∃ (k : Nat) (s : Int), k ≤ n ∧ i = .int .i64 k ∧ t = .int .i64 s ∧ 0 ≤ s ∧ s ≤ 4398046511104 * k ∧ Hid (s = sqSum (xs.take k) (ys.take k))) (fun _ i => n - (intOf i).toNat)
  case atStart => exact ⟨0, 0, Nat.zero_le _, rfl, rfl, by omega, by omega, by simp [Hid, sqSum]⟩
  case round =>
    obtain ⟨k, s, hk, rfl, rfl, hs0, hs1, HS⟩ := hrel
    by_cases hk' : k < n
    · obtain ⟨p, hp⟩ : ∃ p, p = xs.getD k 0 := ⟨_, rfl⟩
      obtain ⟨q, hq⟩ : ∃ q, q = ys.getD k 0 := ⟨_, rfl⟩
      have hcell := HC.out k hk'
      have hcell' := HC'.out k hk'
      have b1 := part_of xs k HX.out (by rw [HL.out]; exact hk')
      have b2 := part_of ys k HY.out (by rw [HL'.out]; exact hk')
      rw [← hp] at hcell b1
      rw [← hq] at hcell' b2
      have b3 := sq_bound (p - q) (by omega) (by omega)
      have HP := Lib.hid hp
      have HQ := Lib.hid hq
      clear hp hq
      obtain ⟨b1, b1'⟩ := b1
      obtain ⟨b2, b2'⟩ := b2
      obtain ⟨b3, b3'⟩ := b3
      go_wp2
      go_round
      case rel => exact ⟨k + 1, s + (p - q) * (p - q), by omega, by go_num, by go_num, by omega, by omega, by unfold Hid; rw [sqSum_take xs ys k (by rw [HL.out]; exact hk') (by rw [HL'.out]; exact hk'), HS.out, ← HP.out, ← HQ.out]⟩
      case measure => simp [intOf]; omega
    · go_wp2
      go_ret
      have e := HS.out
      rw [List.take_of_length_le (by rw [HL.out]; omega), List.take_of_length_le (by rw [HL'.out]; omega)] at e
      exact ⟨ret_int e, rfl⟩

set_option maxHeartbeats 400000 in
theorem minus_any (a c : Option Addr) (n cap1 cap2 : Nat) (xs ys : List Int) (w : World) (h : Reads .i32 w a n xs) (h' : Reads .i32 w c n ys) (h1 : 1 ≤ n) (h16 : n ≤ 16)
    (hx : xs.all okPart = true) (hy : ys.all okPart = true) :
    Calls Tryz.prog 120 #[.slice a n cap1, .slice c n cap2] w fun e w' => e = .returned (.int .i64 (-mulSum xs ys)) ∧ w = w' := by
  obtain ⟨hl, _, _, _, hc⟩ := h
  obtain ⟨hl', _, _, _, hc'⟩ := h'
  rcases hc with h0 | ⟨b, off, rfl, hlt, hc⟩
  · omega
  rcases hc' with h0 | ⟨b', off', rfl, hlt', hc'⟩
  · omega
  have HL := Lib.hid hl
  have HL' := Lib.hid hl'
  have HC := Lib.hid hc
  have HC' := Lib.hid hc'
  have HX := Lib.hid hx
  have HY := Lib.hid hy
  clear hl hl' hc hc' hx hy
  go_enter Tryz.func120, Tryz.ntmps120
  go_wp2
  go_loop [5, 10] (fun t i => ∃ (k : Nat) (s : Int), k ≤ n ∧ i = .int .i64 k ∧ t = .int .i64 s ∧ -1099511627776 * (k : Int) ≤ s ∧ s ≤ 1099511627776 * k ∧ Hid (s = -mulSum (xs.take k) (ys.take k))) (fun _ i => n - (intOf i).toNat)
  case atStart => exact ⟨0, 0, Nat.zero_le _, rfl, rfl, by omega, by omega, by simp [Hid, mulSum]⟩
  case round =>
    obtain ⟨k, s, hk, rfl, rfl, hs0, hs1, HS⟩ := hrel
    by_cases hk' : k < n
    · obtain ⟨p, hp⟩ : ∃ p, p = xs.getD k 0 := ⟨_, rfl⟩
      obtain ⟨q, hq⟩ : ∃ q, q = ys.getD k 0 := ⟨_, rfl⟩
      have hcell := HC.out k hk'
      have hcell' := HC'.out k hk'
      have b1 := part_of xs k HX.out (by rw [HL.out]; exact hk')
      have b2 := part_of ys k HY.out (by rw [HL'.out]; exact hk')
      rw [← hp] at hcell b1
      rw [← hq] at hcell' b2
      have b3 := mul_bound p q (by omega) (by omega) (by omega) (by omega)
      have HP := Lib.hid hp
      have HQ := Lib.hid hq
      clear hp hq
      obtain ⟨b1, b1'⟩ := b1
      obtain ⟨b2, b2'⟩ := b2
      obtain ⟨b3, b3'⟩ := b3
      go_wp2
      go_round
      case rel => exact ⟨k + 1, s - p * q, by omega, by go_num, by go_num, by omega, by omega, by unfold Hid; rw [mulSum_take xs ys k (by rw [HL.out]; exact hk') (by rw [HL'.out]; exact hk'), HS.out, ← HP.out, ← HQ.out]; omega⟩
      case measure => simp [intOf]; omega
    · go_wp2
      go_ret
      have e := HS.out
      rw [List.take_of_length_le (by rw [HL.out]; omega), List.take_of_length_le (by rw [HL'.out]; omega)] at e
      exact ⟨ret_int e, rfl⟩
end Go.Proofs.YtadkfedglkhgjaaGreat
