/-
  The program's GetInt, by a walk over its text.
-/
import Derived.Test.YtdlpifcfgfhagaaVd
import Derived.Test.YtdlpifcfgfhagaaVc
import Derived.Test.YtdlpifcfgfhagaaVe
namespace Go.Proofs.Ytdlpifcfgfhagaa
open Go.RowKit

theorem get_eq (a : Option Addr) (n c : Nat) (bs : List Nat) (w : World) (r1 r2 r3 : Nat) (h : BReads w a n c bs) (hr : vget 0 0 bs = (r1, r2, r3)) :
    Calls Try.prog 68 #[.slice a n c] w fun e w' => e = .returned (.tuple #[.int .u64 r1, .int .i64 r2, .int .i64 r3]) ∧ w = w' := by
  have := get_any a n c bs w h
  rw [hr] at this
  exact this
set_option maxRecDepth 100000 in
set_option maxHeartbeats 1600000 in
theorem getint_any (a : Option Addr) (n c : Nat) (bs : List Nat) (w : World) (h : BReads w a n c bs) :
    Calls Try.prog 82 #[.slice a n c] w fun e w' => e = .returned (gotIV (vget 0 0 bs)) ∧ w = w' := by
  have HR := Lib.hid h
  have HU := Lib.hid (vget_lt bs)
  clear h
  rcases vget_err bs 0 0 with ⟨h0, _⟩ | h0 | h0
  · obtain ⟨r1, r2, r3, hr⟩ : ∃ r1 r2 r3, vget 0 0 bs = (r1, r2, r3) := ⟨_, _, _, rfl⟩
    rw [hr] at h0
    obtain rfl : r3 = 0 := h0
    have HE := Lib.hid hr
    rw [hr] at HU
    clear hr
    go_enter Try.func82, Try.ntmps82
    go_wp2_with (fail)
    refine (get_eq a n c bs w r1 r2 0 HR.out HE.out).mono ?_
    rintro e w' ⟨rfl, rfl⟩
    go_wp2_with (fail)
    refine (unfolded_any r1 w HU.out).mono ?_
    rintro e w' ⟨rfl, rfl⟩
    go_wp2
    go_ret3
    exact ⟨by rw [HE.out]; rfl, rfl⟩
  all_goals
    have HE := Lib.hid h0
    clear h0
    go_enter Try.func82, Try.ntmps82
    go_wp2_with (fail)
    refine (get_eq a n c bs w 0 0 _ HR.out HE.out).mono ?_
    rintro e w' ⟨rfl, rfl⟩
    go_wp2
    go_ret3
    exact ⟨by rw [HE.out]; rfl, rfl⟩

end Go.Proofs.Ytdlpifcfgfhagaa
