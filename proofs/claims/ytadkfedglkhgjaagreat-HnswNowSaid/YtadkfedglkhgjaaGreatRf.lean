/-
  What the document's own answers for layer 1 return, each by a walk over its text.
-/
import Derived.Test.YtadkfedglkhgjaaGreatFd
import Derived.WalkSmall
namespace Go.Proofs.YtadkfedglkhgjaaGreat
open Go.RowKit

set_option maxHeartbeats 400000 in
theorem rcheck_any (a : Option Addr) (n cap : Nat) (xs : List Int) (d : Int) (w : World) (h : Reads .i32 w a n xs) :
    Calls Tryz.prog 93 #[.slice a n cap, .int .i64 d] w fun e w' => e = .returned (.int .i64 (checkV n d xs)) ∧ w = w' := by
  obtain ⟨hl, hn, _, hwf, hc⟩ := h
  by_cases h1 : d < 1
  · go_enter Tryz.func93, Tryz.ntmps93
    go_wp2
    go_ret
    exact ⟨by simp [checkV, h1], rfl⟩
  by_cases h2 : 16 < d
  · go_enter Tryz.func93, Tryz.ntmps93
    go_wp2
    go_ret
    exact ⟨by simp [checkV, h2], rfl⟩
  by_cases h3 : (n : Int) = d
  · subst h3
    have hcv : checkV n n xs = if xs.all okPart then 0 else 11 := by simp [checkV, h1, h2]
    rcases hc with h0 | ⟨b, off, rfl, hlt, hc⟩
    · omega
    have HL := Lib.hid hl
    have HV := Lib.hid hcv
    have HC := Lib.hid hc
    clear hl hcv hc hwf
    go_enter Tryz.func93, Tryz.ntmps93
    go_wp2
    go_loop [5] (fun i => ∃ k : Nat, k ≤ n ∧ i = .int .i64 k ∧ (xs.take k).all okPart = true) (fun i => n - (intOf i).toNat)
    case atStart => exact ⟨0, Nat.zero_le _, rfl, by simp⟩
    case round =>
      obtain ⟨k, hk, rfl, hall⟩ := hrel
      have HA := Lib.hid hall
      clear hall
      by_cases hlt' : k < n
      · obtain ⟨p, hp⟩ : ∃ p, p = xs.getD k 0 := ⟨_, rfl⟩
        have hcell := HC.out k hlt'
        rw [← hp] at hcell
        have HP := Lib.hid hp
        clear hp
        by_cases hp1 : p < -1048576
        · go_wp2
          go_ret
          exact ⟨by rw [HV.out, all_false_of xs k (by rw [HL.out]; exact hlt') (by rw [← HP.out]; simp [okPart]; omega)]; rfl, rfl⟩
        by_cases hp2 : 1048576 < p
        · go_wp2
          go_ret
          exact ⟨by rw [HV.out, all_false_of xs k (by rw [HL.out]; exact hlt') (by rw [← HP.out]; simp [okPart]; omega)]; rfl, rfl⟩
        go_wp2
        go_round
        case rel => exact ⟨k + 1, by omega, by go_num, by rw [all_take_succ xs k (by rw [HL.out]; exact hlt'), HA.out, ← HP.out]; simp [okPart]; omega⟩
        case measure => simp [intOf]; omega
      · go_wp2
        go_ret
        refine ⟨?_, rfl⟩
        have e := HA.out
        rw [List.take_of_length_le (by rw [HL.out]; omega)] at e
        rw [HV.out, e]; rfl
  · go_enter Tryz.func93, Tryz.ntmps93
    go_wp2
    go_ret
    exact ⟨by simp [checkV, h3], rfl⟩

theorem eq_take_succ (xs ys : List Int) (k : Nat) (hx : k < xs.length) (hy : k < ys.length) (h : xs.take k = ys.take k) (hk : xs.getD k 0 = ys.getD k 0) : xs.take (k + 1) = ys.take (k + 1) := by
  have e1 : xs.getD k 0 = xs[k] := by simp [List.getD, hx]
  have e2 : ys.getD k 0 = ys[k] := by simp [List.getD, hy]
  rw [List.take_succ_eq_append_getElem hx, List.take_succ_eq_append_getElem hy, h, ← e1, ← e2, hk]

set_option maxHeartbeats 400000 in
theorem samev_any (a c : Option Addr) (n n' cap cap' : Nat) (xs ys : List Int) (w : World) (h : Reads .i32 w a n xs) (h' : Reads .i32 w c n' ys) :
    Calls Tryz.prog 109 #[.slice a n cap, .slice c n' cap'] w fun e w' => e = .returned (.bool (decide (xs = ys))) ∧ Below w.heap.size w w' := by
  obtain ⟨hl, hn, _, hwf, hc⟩ := h
  obtain ⟨hl', hn', _, hwf', hc'⟩ := h'
  by_cases he : n = n'
  · subst he
    have HL := Lib.hid hl
    have HL' := Lib.hid hl'
    have HC := Lib.hid hc
    have HC' := Lib.hid hc'
    clear hl hl' hc hc' hwf hwf'
    rcases HC.out with h0 | ⟨b, off, rfl, hlt, hc⟩
    · subst h0
      have e1 : xs = [] := List.eq_nil_of_length_eq_zero HL.out
      have e2 : ys = [] := List.eq_nil_of_length_eq_zero HL'.out
      subst e1 e2
      clear HC HC' HL HL'
      go_enter Tryz.func109, Tryz.ntmps109
      go_wp2
      go_rounds 1
      go_ret
      exact ⟨rfl, Below.refl _ _⟩
    rcases HC'.out with h0 | ⟨b', off', rfl, hlt', hc'⟩
    · subst h0
      have e1 : xs = [] := List.eq_nil_of_length_eq_zero HL.out
      have e2 : ys = [] := List.eq_nil_of_length_eq_zero HL'.out
      subst e1 e2
      clear HC HC' HL HL' hc
      go_enter Tryz.func109, Tryz.ntmps109
      go_wp2
      go_rounds 1
      go_ret
      exact ⟨rfl, Below.refl _ _⟩
    have HD := Lib.hid hc
    have HD' := Lib.hid hc'
    clear HC HC' hc hc'
    go_enter Tryz.func109, Tryz.ntmps109
    go_wp2
    go_loopw [5] (fun i wr => ∃ k : Nat, k ≤ n ∧ i = .int .i64 k ∧ Hid (xs.take k = ys.take k) ∧ Below w.heap.size w wr) (fun i _ => n - (intOf i).toNat)
    case atStart => exact ⟨0, Nat.zero_le _, rfl, by simp [Hid], Below.refl _ _⟩
    case round =>
      obtain ⟨k, hk, rfl, HT, hB⟩ := hrel
      by_cases hk' : k < n
      · obtain ⟨p, hp⟩ : ∃ p, p = xs.getD k 0 := ⟨_, rfl⟩
        obtain ⟨q, hq⟩ : ∃ q, q = ys.getD k 0 := ⟨_, rfl⟩
        have hcell := (hB.cell (p := ⟨b, off + k, none⟩) hlt).trans (HD.out k hk')
        have hcell' := (hB.cell (p := ⟨b', off' + k, none⟩) hlt').trans (HD'.out k hk')
        rw [← hp] at hcell
        rw [← hq] at hcell'
        have HP := Lib.hid hp
        have HQ := Lib.hid hq
        have HB := Lib.hid hB
        clear hp hq hB
        by_cases hpq : p = q
        · subst hpq
          go_wp2
          go_quiet (fail)
          go_wp2
          go_roundw
          case rel => exact ⟨k + 1, by omega, by go_num, eq_take_succ xs ys k (by rw [HL.out]; exact hk') (by rw [HL'.out]; exact hk') HT.out (by rw [← HP.out, ← HQ.out]), below_drewN HB.out _⟩
          case measure => simp [intOf]; omega
        · have hne : (p != q) = true := by simpa using hpq
          go_wp2
          go_quiet (fail)
          go_wp2
          go_ret
          refine ⟨ret_bool ?_, below_drewN HB.out _⟩
          symm
          apply decide_eq_false
          intro e
          rw [e] at HP
          exact hpq (HP.out.trans HQ.out.symm)
      · go_wp2
        go_ret
        refine ⟨ret_bool ?_, hB⟩
        have e := HT.out
        rw [List.take_of_length_le (by rw [HL.out]; omega), List.take_of_length_le (by rw [HL'.out]; omega)] at e
        exact (decide_eq_true e).symm
  · go_enter Tryz.func109, Tryz.ntmps109
    go_wp2
    go_ret
    exact ⟨ret_bool (by symm; apply decide_eq_false; intro e; rw [e] at hl; omega), Below.refl _ _⟩

theorem rcheck_eq (a : Option Addr) (n cap : Nat) (xs : List Int) (d r : Int) (w W : World) (h : Reads .i32 w a n xs) (hb : Below w.heap.size w W) (hr : Hid (checkV n d xs = r)) :
    Calls Tryz.prog 93 #[.slice a n cap, .int .i64 d] W fun e w' => e = .returned (.int .i64 r) ∧ W = w' := by
  rw [← hr.out]
  exact rcheck_any a n cap xs d W (h.below (Nat.le_refl _) hb)

theorem sq_expand (p q : Int) : (p - q) * (p - q) = p * p - 2 * p * q + q * q := by
  rw [Int.sub_mul, Int.mul_sub, Int.mul_sub, Int.mul_assoc 2 p q, Int.mul_comm q p]
  omega

theorem mul2_bound (x y : Int) (h1 : -1048576 ≤ x) (h2 : x ≤ 1048576) (h3 : -1048576 ≤ y) (h4 : y ≤ 1048576) : -2199023255552 ≤ 2 * x * y ∧ 2 * x * y ≤ 2199023255552 := by
  have := mul_bound x y h1 h2 h3 h4
  rw [Int.mul_assoc]
  omega

set_option maxHeartbeats 800000 in
theorem rdist_none (m : Int) (a c : Option Addr) (n n' cap1 cap2 : Nat) (xs ys : List Int) (w : World) (hm0 : 0 ≤ m) (hm1 : m < 256) (h : Reads .i32 w a n xs) (h' : Reads .i32 w c n' ys)
    (hd : distV m n n' xs ys = none) :
    Calls Tryz.prog 48 #[.int .i64 m, .slice a n cap1, .slice c n' cap2] w fun e w' => e = .returned (.tuple #[.int .i64 0, .bool false]) ∧ w = w' := by
  by_cases hm : 2 ≤ m
  · clear hd
    go_enter Tryz.func48, Tryz.ntmps48
    go_wp2_with (fail)
    go_ret2
    exact ⟨rfl, rfl⟩
  obtain ⟨r, hr⟩ : ∃ r, checkV n n xs = r := ⟨_, rfl⟩
  have Hr := Lib.hid hr
  by_cases hr0 : r = 0
  · obtain ⟨r', hr'⟩ : ∃ r', checkV n' n ys = r' := ⟨_, rfl⟩
    have Hr' := Lib.hid hr'
    have hr1 : r' ≠ 0 := by
      intro e
      rw [distV, if_neg (by rw [hr, hr', hr0, e]; omega)] at hd
      exact absurd hd (by simp)
    have hr2 : (r' != 0) = true := by simpa using hr1
    subst hr0
    clear hd hr hr' hr1
    go_enter Tryz.func48, Tryz.ntmps48
    go_wp2_with (fail)
    refine (rcheck_eq a n cap1 xs n 0 w _ h (Below.refl _ _) Hr).mono ?_
    rintro e w' ⟨rfl, rfl⟩
    go_wp2_with (fail)
    refine (rcheck_eq c n' cap2 ys n r' w _ h' (Below.refl _ _) Hr').mono ?_
    rintro e w' ⟨rfl, rfl⟩
    go_wp2
    go_ret2
    exact ⟨rfl, rfl⟩
  · have hr2 : (r != 0) = true := by simpa using hr0
    clear hd hr hr0
    go_enter Tryz.func48, Tryz.ntmps48
    go_wp2_with (fail)
    refine (rcheck_eq a n cap1 xs n r w _ h (Below.refl _ _) Hr).mono ?_
    rintro e w' ⟨rfl, rfl⟩
    go_wp2
    go_ret2
    exact ⟨rfl, rfl⟩

set_option maxHeartbeats 800000 in
theorem rdist_some (m : Int) (a c : Option Addr) (n n' cap1 cap2 : Nat) (xs ys : List Int) (r : Int) (w : World) (hm0 : 0 ≤ m) (hm1 : m < 256) (h : Reads .i32 w a n xs) (h' : Reads .i32 w c n' ys)
    (hd : distV m n n' xs ys = some r) :
    Calls Tryz.prog 48 #[.int .i64 m, .slice a n cap1, .slice c n' cap2] w fun e w' => e = .returned (.tuple #[.int .i64 r, .bool true]) ∧ Below w.heap.size w w' := by
  obtain ⟨hr, hr', g1, g2, rfl, hx, hy, hm⟩ := distV_some hm0 hd
  have Hr := Lib.hid hr
  have Hr' := Lib.hid hr'
  clear hd hr hr'
  have HX := Lib.hid hx
  have HY := Lib.hid hy
  clear hx hy
  obtain ⟨hl, hn, _, hwf, hc⟩ := id h
  obtain ⟨hl', hn', _, hwf', hc'⟩ := id h'
  rcases hc with h0 | ⟨b, off, rfl, hlt, hc⟩
  · omega
  rcases hc' with h0 | ⟨b', off', rfl, hlt', hc'⟩
  · omega
  have HL := Lib.hid hl
  have HL' := Lib.hid hl'
  have HC := Lib.hid hc
  have HC' := Lib.hid hc'
  clear hl hl' hc hc' hwf hwf' hn hn'
  rcases hm with ⟨rfl, he⟩ | ⟨rfl, he⟩
  · have HE := Lib.hid he
    clear he
    go_enter Tryz.func48, Tryz.ntmps48
    go_wp2_with (fail)
    refine (rcheck_eq _ n' cap1 xs n' 0 w _ h (Below.refl _ _) Hr).mono ?_
    rintro e w' ⟨rfl, rfl⟩
    go_wp2_with (fail)
    refine (rcheck_eq _ n' cap2 ys n' 0 w _ h' (Below.refl _ _) Hr').mono ?_
    rintro e w' ⟨rfl, rfl⟩
    clear h h'
    go_wp2
    go_loopw [8, 9] (fun t i wr => ∃ (k : Nat) (s : Int), k ≤ n' ∧ i = .int .i64 k ∧ t = .int .i64 s ∧ 0 ≤ s ∧ s ≤ 4398046511104 * k ∧ Hid (s = sqSum (xs.take k) (ys.take k)) ∧ Below w.heap.size w wr) (fun _ i _ => n' - (intOf i).toNat)
    case atStart => exact ⟨0, 0, Nat.zero_le _, rfl, rfl, by omega, by omega, by simp [Hid, sqSum], Below.refl _ _⟩
    case round =>
      obtain ⟨k, s, hk, rfl, rfl, hs0, hs1, HS, hB⟩ := hrel
      by_cases hk' : k < n'
      · obtain ⟨p, hp⟩ : ∃ p, p = xs.getD k 0 := ⟨_, rfl⟩
        obtain ⟨q, hq⟩ : ∃ q, q = ys.getD k 0 := ⟨_, rfl⟩
        have hcell := (hB.cell (p := ⟨b, off + k, none⟩) hlt).trans (HC.out k hk')
        have hcell' := (hB.cell (p := ⟨b', off' + k, none⟩) hlt').trans (HC'.out k hk')
        have b1 := part_of xs k HX.out (by rw [HL.out]; exact hk')
        have b2 := part_of ys k HY.out (by rw [HL'.out]; exact hk')
        rw [← hp] at hcell b1
        rw [← hq] at hcell' b2
        have HP := Lib.hid hp
        have HQ := Lib.hid hq
        have HB := Lib.hid hB
        clear hp hq hB
        obtain ⟨b1, b1'⟩ := b1
        obtain ⟨b2, b2'⟩ := b2
        obtain ⟨b3, b3'⟩ := mul_bound p p b1 b1' b1 b1'
        obtain ⟨b4, b4'⟩ := mul_bound q q b2 b2' b2 b2'
        obtain ⟨b5, b5'⟩ := mul2_bound p q b1 b1' b2 b2'
        go_wp2
        go_quiet (fail)
        go_wp2
        have b6 := sq_bound (p - q) (by omega) (by omega)
        have b7 := sq_expand p q
        rw [b7] at b6
        go_roundw
        case rel => exact ⟨k + 1, s + p * p - 2 * p * q + q * q, by omega, by go_num, rfl, by omega, by omega, by unfold Hid; rw [sqSum_take xs ys k (by rw [HL.out]; exact hk') (by rw [HL'.out]; exact hk'), ← HS.out, ← HP.out, ← HQ.out, b7]; omega, below_drewN HB.out _⟩
        case measure => simp [intOf]; omega
      · go_wp2
        go_ret2
        have e := HS.out
        rw [List.take_of_length_le (by rw [HL.out]; omega), List.take_of_length_le (by rw [HL'.out]; omega), ← HE.out] at e
        subst e
        exact ⟨rfl, hB⟩
  · have HE := Lib.hid he
    clear he
    go_enter Tryz.func48, Tryz.ntmps48
    go_wp2_with (fail)
    refine (rcheck_eq _ n' cap1 xs n' 0 w _ h (Below.refl _ _) Hr).mono ?_
    rintro e w' ⟨rfl, rfl⟩
    go_wp2_with (fail)
    refine (rcheck_eq _ n' cap2 ys n' 0 w _ h' (Below.refl _ _) Hr').mono ?_
    rintro e w' ⟨rfl, rfl⟩
    clear h h'
    go_wp2
    go_loopw [8, 9] (fun t i wr => ∃ (k : Nat) (s : Int), k ≤ n' ∧ i = .int .i64 k ∧ t = .int .i64 s ∧ -1099511627776 * (k : Int) ≤ s ∧ s ≤ 1099511627776 * k ∧ Hid (s = -mulSum (xs.take k) (ys.take k)) ∧ Below w.heap.size w wr) (fun _ i _ => n' - (intOf i).toNat)
    case atStart => exact ⟨0, 0, Nat.zero_le _, rfl, rfl, by omega, by omega, by simp [Hid, mulSum], Below.refl _ _⟩
    case round =>
      obtain ⟨k, s, hk, rfl, rfl, hs0, hs1, HS, hB⟩ := hrel
      by_cases hk' : k < n'
      · obtain ⟨p, hp⟩ : ∃ p, p = xs.getD k 0 := ⟨_, rfl⟩
        obtain ⟨q, hq⟩ : ∃ q, q = ys.getD k 0 := ⟨_, rfl⟩
        have hcell := (hB.cell (p := ⟨b, off + k, none⟩) hlt).trans (HC.out k hk')
        have hcell' := (hB.cell (p := ⟨b', off' + k, none⟩) hlt').trans (HC'.out k hk')
        have b1 := part_of xs k HX.out (by rw [HL.out]; exact hk')
        have b2 := part_of ys k HY.out (by rw [HL'.out]; exact hk')
        rw [← hp] at hcell b1
        rw [← hq] at hcell' b2
        have HP := Lib.hid hp
        have HQ := Lib.hid hq
        have HB := Lib.hid hB
        clear hp hq hB
        obtain ⟨b1, b1'⟩ := b1
        obtain ⟨b2, b2'⟩ := b2
        obtain ⟨b5, b5'⟩ := mul_bound p q b1 b1' b2 b2'
        go_wp2
        go_quiet (fail)
        go_wp2
        go_roundw
        case rel => exact ⟨k + 1, s - p * q, by omega, by go_num, rfl, by omega, by omega, by unfold Hid; rw [mulSum_take xs ys k (by rw [HL.out]; exact hk') (by rw [HL'.out]; exact hk'), HS.out, ← HP.out, ← HQ.out]; omega, below_drewN HB.out _⟩
        case measure => simp [intOf]; omega
      · go_wp2
        go_ret2
        have e := HS.out
        rw [List.take_of_length_le (by rw [HL.out]; omega), List.take_of_length_le (by rw [HL'.out]; omega), ← HE.out] at e
        subst e
        exact ⟨rfl, hB⟩
end Go.Proofs.YtadkfedglkhgjaaGreat
