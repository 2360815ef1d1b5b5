/-
  The document's PutInt, by walks over its text.
-/
import Derived.Test.YtemnmjfeljipjaaGreatVb
namespace Go.Proofs.YtemnmjfeljipjaaGreat
open Go.RowKit

theorem rput_eq (x : Int) (m : Nat) (w : World) (hx : x = (m : Int)) (hm : m < 18446744073709551616) :
    Calls Tryz.prog 34 #[.int .u64 x] w fun e w' => PutsV (vput m) w e w' := by
  rw [hx]
  exact rput_any m w hm

set_option maxRecDepth 100000 in
set_option maxHeartbeats 3200000 in
theorem rputint_neg (q : Nat) (w : World) (h0 : (q : Int) ≤ 9223372036854775807) :
    Calls Tryz.prog 94 #[.int .i64 (-(q : Int) - 1)] w fun e w' => PutsV (vput (2 * q + 1)) w e w' := by
  have HF := Lib.hid (show 2 * q + 1 < 18446744073709551616 by omega)
  have a1 : IntKind.i64.wrap (-(q : Int) - 1 + 1) = -(q : Int) := by rw [IntKind.wrap_i64]; omega
  have a2 : IntKind.i64.wrap (-(-(q : Int))) = (q : Int) := by rw [IntKind.wrap_i64]; omega
  go_enter Tryz.func94, Tryz.ntmps94
  go_wp2_with (fail)
  refine (rput_eq _ (2 * q + 1) w (by omega) HF.out).mono ?_
  rintro e w2 ⟨v, rfl, ho, hb⟩
  have HO := Lib.hid ho
  have HB := Lib.hid hb
  clear ho hb
  go_wp2
  go_ret
  exact ⟨v, rfl, HO.out, HB.out⟩

set_option maxRecDepth 100000 in
set_option maxHeartbeats 3200000 in
theorem rputint_any (n : Int) (w : World) (h0 : -9223372036854775808 ≤ n) (h1 : n ≤ 9223372036854775807) :
    Calls Tryz.prog 94 #[.int .i64 n] w fun e w' => PutsV (vput (vfold n)) w e w' := by
  by_cases hn : n < 0
  · obtain ⟨q, rfl⟩ : ∃ q : Nat, n = -(q : Int) - 1 := ⟨(-n - 1).toNat, by omega⟩
    have e : vfold (-(q : Int) - 1) = 2 * q + 1 := by unfold vfold; rw [if_neg (by omega)]; omega
    rw [e]
    exact rputint_neg q w (by omega)
  · have HF := Lib.hid (vfold_lt h0 h1)
    have HE' := Lib.hid (show (2 : Int) * n = (vfold n : Int) by unfold vfold; rw [if_pos (by omega)]; omega)
    go_enter Tryz.func94, Tryz.ntmps94
    go_wp2_with (fail)
    refine (rput_eq _ (vfold n) w HE'.out HF.out).mono ?_
    rintro e w2 ⟨v, rfl, ho, hb⟩
    have HO := Lib.hid ho
    have HB := Lib.hid hb
    clear ho hb
    go_wp2
    go_ret
    exact ⟨v, rfl, HO.out, HB.out⟩
end Go.Proofs.YtemnmjfeljipjaaGreat
