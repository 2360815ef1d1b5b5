/-
  What each row asks of the program, and numbers that come in.
-/
import Derived.Test.YtdgiellnklcioaaRows
import Derived.Test.YtdgiellnklcioaaFr
import Derived.Lib.EndianBits
namespace Go.Proofs.Ytdgiellnklcioaa
open Go.ChangeShapes Go.WideShapes Go.ChangeAt Go.RowKit

theorem wrap_bounds (n : Int) : -9223372036854775808 ≤ IntKind.i64.wrap n ∧ IntKind.i64.wrap n ≤ 9223372036854775807 := by
  rw [IntKind.wrap_i64]
  omega

theorem prog_own : ownKnob Try.prog.godebug = none := by kernel_rfl
theorem prog_laid : laidOutB Try.prog = true := by kernel_rfl


section
variable {H : Type} {enc : TypeId × Value → H} {P : Program} {W : World} {base : Nat} {ts : Array TypeId} {args : Array Value} {ds : List (DataW H)} {p : List MemPlace}
theorem Given.u64 (g : Given enc P W base ts args ds p) (j : Nat) {t : TypeId} (ht : ts[j]? = some t) (hu : P.underlying t = some (.int .u64)) :
    ∃ n : Nat, args[j]? = some (.int .u64 n) ∧ n < 18446744073709551616 := by
  obtain ⟨x, e, hw⟩ := g.int j ht hu
  simp [Lit.wf, IntKind.min, IntKind.max, IntKind.signed, IntKind.bits] at hw
  obtain ⟨n, rfl⟩ := Int.eq_ofNat_of_zero_le (a := x) (by omega)
  exact ⟨n, e, by omega⟩
theorem Given.u32 (g : Given enc P W base ts args ds p) (j : Nat) {t : TypeId} (ht : ts[j]? = some t) (hu : P.underlying t = some (.int .u32)) :
    ∃ n : Nat, args[j]? = some (.int .u32 n) ∧ n < 4294967296 := by
  obtain ⟨x, e, hw⟩ := g.int j ht hu
  simp [Lit.wf, IntKind.min, IntKind.max, IntKind.signed, IntKind.bits] at hw
  obtain ⟨n, rfl⟩ := Int.eq_ofNat_of_zero_le (a := x) (by omega)
  exact ⟨n, e, by omega⟩
theorem Given.u8 (g : Given enc P W base ts args ds p) (j : Nat) {t : TypeId} (ht : ts[j]? = some t) (hu : P.underlying t = some (.int .u8)) :
    ∃ n : Nat, args[j]? = some (.int .u8 n) ∧ n < 256 := by
  obtain ⟨x, e, hw⟩ := g.int j ht hu
  simp [Lit.wf, IntKind.min, IntKind.max, IntKind.signed, IntKind.bits] at hw
  obtain ⟨n, rfl⟩ := Int.eq_ofNat_of_zero_le (a := x) (by omega)
  exact ⟨n, e, by omega⟩
theorem Given.i64 (g : Given enc P W base ts args ds p) (j : Nat) {t : TypeId} (ht : ts[j]? = some t) (hu : P.underlying t = some (.int .i64)) :
    ∃ n : Int, args[j]? = some (.int .i64 n) ∧ -9223372036854775808 ≤ n ∧ n ≤ 9223372036854775807 := by
  obtain ⟨x, e, hw⟩ := g.int j ht hu
  simp [Lit.wf, IntKind.min, IntKind.max, IntKind.signed, IntKind.bits] at hw
  exact ⟨x, e, by omega, by omega⟩
end
end Go.Proofs.Ytdgiellnklcioaa
