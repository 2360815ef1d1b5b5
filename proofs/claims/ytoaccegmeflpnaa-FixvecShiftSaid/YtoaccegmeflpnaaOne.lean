/-
  FixvecChecks holds: for every vector and every number of parts the program's Check and the document's tell the same, and what came in reads as before.
-/
import Derived.Test.YtoaccegmeflpnaaRows
import Derived.Test.YtoaccegmeflpnaaFr
import Derived.Test.YtoaccegmeflpnaaAl
import Derived.Test.YtoaccegmeflpnaaRf
namespace Go.Proofs.Ytoaccegmeflpnaa
open Go.ChangeShapes Go.WideShapes Go.ChangeAt Go.RowKit

theorem prog_own : ownKnob Try.prog.godebug = none := by kernel_rfl
theorem prog_laid : laidOutB Try.prog = true := by kernel_rfl

set_option maxHeartbeats 800000 in
theorem checks_walk (a : Option Addr) (n cap : Nat) (xs : List Int) (d : Int) (w : World) (h : Reads .i32 w a n xs) :
    Calls Try.prog 3 #[.slice a n cap, .int .i64 d] w fun e w' => e = .returned (.bool true) ∧ Below w.heap.size w w' := by
  obtain ⟨r, hr⟩ : ∃ r, checkV n d xs = r := ⟨_, rfl⟩
  have Hr := Lib.hid hr
  clear hr
  go_enter Try.func3, Try.ntmps3
  go_wp2_with (fail)
  refine (alive1 w).mono ?_
  rintro e w1 ⟨rfl, hb⟩
  go_wp2_with (fail)
  refine (check_eq a n cap xs d r w _ h hb Hr).mono ?_
  rintro e w' ⟨rfl, rfl⟩
  go_wp2_with (fail)
  refine (rcheck_eq a n cap xs d r w _ h hb Hr).mono ?_
  rintro e w' ⟨rfl, rfl⟩
  go_wp2
  go_ret
  exact ⟨rfl, hb⟩

theorem checks_row : Rows.FixvecChecksSaid :=
  OpenClaim.holds_of_wide 3 Try.f3 rfl rfl rfl rfl rfl rfl rfl ⟨rfl, rfl, rfl, rfl, rfl⟩ rfl rfl rfl rfl rfl (by kernel_rfl) Try.func3 (by kernel_rfl)
    (of_decide_eq_true (by kernel_rfl)) (by unfold Func.isWrapper; rw [if_neg (of_decide_eq_false (by kernel_rfl))]; exact ⟨rfl, rfl⟩)
    (fun os started H enc _ => lift (C := Try.checked) (s := Rows.fixvecChecksSpec) (conds := Rows.fixvecChecksRow.domain) os started H enc prog_own (by kernel_rfl) Try.func3 prog_laid rfl Try.underlying4 rfl
      (fun ds hl => by
        have hl : ds.length = 2 := hl
        match ds, hl with
        | [_, _], _ => rfl)
      (of_decide_eq_true (by kernel_rfl))
      (ChangeSpec.witness6 (enc := enc) (C := Try.checked) false ⟨#[], #[.slice none 0 0, .int .i64 0], []⟩ 8 (by kernel_rfl) (by kernel_rfl) (by kernel_rfl) (by kernel_rfl))
      (fun W base args ds p g => by
        rw [Try.params3] at g
        obtain ⟨a, n, cap, xs, e0, h0, _⟩ := g.slice 0 rfl Try.underlying22 Try.underlying21 (by kernel_rfl) (by kernel_rfl)
        obtain ⟨d, e1, _⟩ := g.int 1 rfl Try.underlying3
        rw [args2 g.count e0 e1]
        exact checks_walk a n cap xs d W h0))
end Go.Proofs.Ytoaccegmeflpnaa
