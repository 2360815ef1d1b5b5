/-
  VarintGets holds: for every slice of bytes the program and the document tell the same number, as a number and as a whole one, the same count and the same error.
-/
import Derived.Test.YtaadbnaofafgkaaRows
import Derived.Test.YtaadbnaofafgkaaVn
namespace Go.Proofs.Ytaadbnaofafgkaa
open Go.ChangeShapes Go.WideShapes Go.ChangeAt Go.RowKit

theorem getint_eq (a : Option Addr) (n c : Nat) (bs : List Nat) (w : World) (r1 r2 r3 : Nat) (x : Int) (h : BReads w a n c bs) (hr : vget 0 0 bs = (r1, r2, r3)) (hx : vopen r1 = x) :
    Calls Try.prog 17 #[.slice a n c] w fun e w' => e = .returned (.tuple #[.int .i64 x, .int .i64 r2, .int .i64 r3]) ∧ w = w' := by
  have := getint_any a n c bs w h
  rw [hr] at this
  rw [← hx]
  exact this
theorem rgetint_eq (a : Option Addr) (n c : Nat) (bs : List Nat) (w : World) (r1 r2 r3 : Nat) (x : Int) (h : BReads w a n c bs) (hr : vget 0 0 bs = (r1, r2, r3)) (hx : vopen r1 = x) :
    Calls Try.prog 18 #[.slice a n c] w fun e w' => e = .returned (.tuple #[.int .i64 x, .int .i64 r2, .int .i64 r3]) ∧ Below w.heap.size w w' := by
  have := rgetint_any a n c bs w h
  unfold GotIV at this
  rw [hr] at this
  rw [← hx]
  exact this

set_option maxRecDepth 100000 in
set_option maxHeartbeats 3200000 in
theorem gets_walk (a : Option Addr) (n c : Nat) (bs : List Nat) (w : World) (h : BReads w a n c bs) :
    Calls Try.prog 4 #[.slice a n c] w fun e w' => e = .returned (.bool true) ∧ Below w.heap.size w w' := by
  obtain ⟨r1, r2, r3, hr⟩ : ∃ r1 r2 r3, vget 0 0 bs = (r1, r2, r3) := ⟨_, _, _, rfl⟩
  obtain ⟨x, hx⟩ : ∃ x, vopen r1 = x := ⟨_, rfl⟩
  have HE := Lib.hid hr
  have HX := Lib.hid hx
  have HR := Lib.hid h
  clear hr hx h
  go_enter Try.func4, Try.ntmps4
  go_wp2_with (fail)
  refine (alive4 w).mono ?_
  rintro e w1 ⟨rfl, hb1⟩
  have B1 := Lib.hid hb1
  clear hb1
  go_wp2_with (fail)
  refine (get_eq a n c bs w1 r1 r2 r3 (HR.out.on B1.out) HE.out).mono ?_
  rintro e w' ⟨rfl, rfl⟩
  go_wp2_with (fail)
  refine (rget_eq a n c bs w1 r1 r2 r3 (HR.out.on B1.out) HE.out).mono ?_
  rintro e w2 ⟨rfl, hb2⟩
  have B2 := Lib.hid (below_on B1.out hb2)
  clear hb2
  go_wp2_with (fail)
  refine (getint_eq a n c bs w2 r1 r2 r3 x (HR.out.on B2.out) HE.out HX.out).mono ?_
  rintro e w' ⟨rfl, rfl⟩
  go_wp2_with (fail)
  refine (rgetint_eq a n c bs w2 r1 r2 r3 x (HR.out.on B2.out) HE.out HX.out).mono ?_
  rintro e w3 ⟨rfl, hb3⟩
  have B3 := Lib.hid (below_on B2.out hb3)
  clear hb3
  go_wp2
  go_ret
  exact ⟨rfl, B3.out⟩

theorem gets_row : Rows.VarintGetsSaid :=
  OpenClaim.holds_of_wide 4 Try.f4 rfl rfl rfl rfl rfl rfl rfl ⟨rfl, rfl, rfl, rfl, rfl⟩ rfl rfl rfl rfl rfl (by kernel_rfl) Try.func4 (by kernel_rfl)
    (of_decide_eq_true (by kernel_rfl)) (by unfold Func.isWrapper; rw [if_neg (of_decide_eq_false (by kernel_rfl))]; exact ⟨rfl, rfl⟩)
    (fun os started H enc _ => lift (C := Try.checked) (s := Rows.varintGetsSpec) (conds := Rows.varintGetsRow.domain) os started H enc prog_own (by kernel_rfl) Try.func4 prog_laid rfl Try.underlying4 rfl
      (fun ds hl => by
        have hl : ds.length = 1 := hl
        match ds, hl with
        | [_], _ => rfl)
      (of_decide_eq_true (by kernel_rfl))
      (ChangeSpec.witness6 (enc := enc) (C := Try.checked) false ⟨#[], #[.slice none 0 0], []⟩ 8 (by kernel_rfl) (by kernel_rfl) (by kernel_rfl) (by kernel_rfl))
      (fun W base args ds p g => by
        rw [Try.params4] at g
        obtain ⟨a, n, c, bs, e0, h0, _⟩ := g.bytes 0 rfl Try.underlying24 Try.underlying5 (by kernel_rfl) (by kernel_rfl)
        rw [args1 g.count e0]
        exact gets_walk a n c bs W h0))
end Go.Proofs.Ytaadbnaofafgkaa
