/-
  The program's PutInt, and the numbers that whole numbers are written as, by walks over their texts.
-/
import Derived.Test.YtdlpifcfgfhagaaVa
import Derived.Lib.Zigzag
namespace Go.Proofs.Ytdlpifcfgfhagaa
open Go.RowKit

theorem i64_not_neg (n : Int) (h0 : -9223372036854775808 ≤ n) (h1 : n < 0) : bits .xor .i64 (-1) n = -n - 1 := by
  obtain ⟨k, rfl⟩ : ∃ k : Nat, n = (k : Int) - 18446744073709551616 := ⟨(n + 18446744073709551616).toNat, by omega⟩
  show IntKind.i64.wrap ((BitVec.ofInt 64 (-1) ^^^ BitVec.ofInt 64 ((k : Int) - 18446744073709551616)).toNat : Int) = _
  have e1 : (BitVec.ofInt 64 (-1)).toNat = 2 ^ 64 - 1 := by decide
  have e2 : (BitVec.ofInt 64 ((k : Int) - 18446744073709551616)).toNat = k := by
    rw [BitVec.toNat_ofInt]
    have : ((2 ^ 64 : Nat) : Int) = 18446744073709551616 := by decide
    rw [this]
    omega
  rw [BitVec.toNat_xor, e1, e2, Lib.xor_ones64 k (by omega), IntKind.wrap_i64]
  omega
theorem fold_neg (n : Int) (h0 : -9223372036854775808 ≤ n) (h1 : n < 0) :
    bits .or .u64 (IntKind.u64.wrap (IntKind.u64.wrap (bits .xor .i64 (-1) n) * 2)) 1 = ((vfold n : Nat) : Int) := by
  have e : IntKind.u64.wrap (IntKind.u64.wrap (-n - 1) * 2) = -2 * n - 2 := by
    rw [IntKind.wrap_u64, IntKind.wrap_u64]
    omega
  rw [i64_not_neg n h0 h1, e, bits_join .u64 64 (by decide) wraps_u64 1 (-2 * n - 2) 1 (by omega) (by omega) (by omega) (by decide) (by decide) (by decide)]
  unfold vfold
  rw [if_neg (by omega)]
  omega
theorem fold_pos (n : Int) (h1 : 0 ≤ n) : n * 2 = ((vfold n : Nat) : Int) := by
  unfold vfold
  rw [if_pos h1]
  omega
theorem open_odd (u : Nat) (h : u < 18446744073709551616) (h1 : (bits .and .u64 (u : Int) 1 == 1) = true) : bits .xor .i64 (-1) ((u : Int) / 2) = vopen u := by
  rw [Lib.u64_and1 _ (by omega) (by omega)] at h1
  have h1 := eq_of_beq h1
  have e : ((u : Int) / 2) = ((u / 2 : Nat) : Int) := by omega
  rw [e, Lib.i64_not _ (by omega)]
  unfold vopen
  rw [if_neg (by omega)]
theorem open_even (u : Nat) (h : u < 18446744073709551616) (h1 : (bits .and .u64 (u : Int) 1 == 1) = false) : (u : Int) / 2 = vopen u := by
  rw [Lib.u64_and1 _ (by omega) (by omega)] at h1
  have h1 := ne_of_beq_false h1
  unfold vopen
  rw [if_pos (by omega)]
  omega

set_option maxRecDepth 100000 in
theorem folded_any (n : Int) (w : World) (h0 : -9223372036854775808 ≤ n) (h1 : n ≤ 9223372036854775807) :
    Calls Try.prog 86 #[.int .i64 n] w fun e w' => e = .returned (.int .u64 (vfold n)) ∧ w = w' := by
  by_cases hn : n < 0
  · have HF := Lib.hid (fold_neg n h0 hn)
    go_enter Try.func86, Try.ntmps86
    go_wp2
    go_ret
    exact ⟨ret_int HF.out, rfl⟩
  · have HF := Lib.hid (fold_pos n (by omega))
    go_enter Try.func86, Try.ntmps86
    go_wp2
    go_ret
    exact ⟨ret_int HF.out, rfl⟩

set_option maxRecDepth 100000 in
theorem unfolded_any (u : Nat) (w : World) (hu : u < 18446744073709551616) :
    Calls Try.prog 85 #[.int .u64 u] w fun e w' => e = .returned (.int .i64 (vopen u)) ∧ w = w' := by
  go_enter Try.func85, Try.ntmps85
  go_wp2
  · have h1 : (bits .and .u64 (u : Int) 1 == 1) = true := by assumption
    go_ret
    exact ⟨ret_int (open_odd u hu h1), rfl⟩
  · have h1 : (bits .and .u64 (u : Int) 1 == 1) = false := by assumption
    go_ret
    exact ⟨ret_int (open_even u hu h1), rfl⟩

theorem putint_any (n : Int) (w : World) (h0 : -9223372036854775808 ≤ n) (h1 : n ≤ 9223372036854775807) :
    Calls Try.prog 84 #[.int .i64 n] w fun e w' => PutsV (vput (vfold n)) w e w' := by
  have HF := Lib.hid (vfold_lt h0 h1)
  have H0 := Lib.hid h0
  have H1 := Lib.hid h1
  clear h0 h1
  go_enter Try.func84, Try.ntmps84
  go_wp2_with (fail)
  refine (folded_any n w H0.out H1.out).mono ?_
  rintro e w' ⟨rfl, rfl⟩
  go_wp2_with (fail)
  refine (put_any (vfold n) w HF.out).mono ?_
  rintro e w2 ⟨v, rfl, ho, hb⟩
  have HO := Lib.hid ho
  have HB := Lib.hid hb
  clear ho hb
  go_wp2
  go_ret
  exact ⟨v, rfl, HO.out, HB.out⟩

end Go.Proofs.Ytdlpifcfgfhagaa
