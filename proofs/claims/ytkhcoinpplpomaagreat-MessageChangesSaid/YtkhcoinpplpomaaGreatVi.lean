/-
  The document's GetInt, by a walk over its text.
-/
import Derived.Test.YtkhcoinpplpomaaGreatVf
namespace Go.Proofs.YtkhcoinpplpomaaGreat
open Go.RowKit

theorem rget_eq (a : Option Addr) (n c : Nat) (bs : List Nat) (w : World) (r1 r2 r3 : Nat) (h : BReads w a n c bs) (hr : vget 0 0 bs = (r1, r2, r3)) :
    Calls Tryz.prog 91 #[.slice a n c] w fun e w' => e = .returned (.tuple #[.int .u64 r1, .int .i64 r2, .int .i64 r3]) ∧ Below w.heap.size w w' := by
  have := rget_any a n c bs w h
  unfold GotV at this
  rw [hr] at this
  exact this

set_option maxRecDepth 100000 in
set_option maxHeartbeats 1600000 in
theorem rgetint_any (a : Option Addr) (n c : Nat) (bs : List Nat) (w : World) (h : BReads w a n c bs) :
    Calls Tryz.prog 116 #[.slice a n c] w fun e w' => GotIV bs w e w' := by
  have HR := Lib.hid h
  have HU := Lib.hid (vget_lt bs)
  clear h
  obtain ⟨r1, r2, r3, hr⟩ : ∃ r1 r2 r3, vget 0 0 bs = (r1, r2, r3) := ⟨_, _, _, rfl⟩
  have HE := Lib.hid hr
  rw [hr] at HU
  clear hr
  obtain ⟨m, hm⟩ : ∃ m, r1 / 2 = m := ⟨_, rfl⟩
  have hmb : m ≤ 9223372036854775807 := by have := HU.out; simp only at this; omega
  rcases open_bounds r1 HU.out with ⟨h2, h3⟩ | ⟨h2, h3⟩
  all_goals
    rw [hm] at h3
    have H3 := Lib.hid h3
    have hrem : ((r1 : Int) % 2) = ((r1 % 2 : Nat) : Int) := by omega
    rw [h2] at hrem
    have hquo : (r1 : Int) / 2 = (m : Int) := by omega
    have HMB := Lib.hid hmb
    have hmi : (m : Int) ≤ 9223372036854775807 := by omega
    clear h2 h3 hm hmb
    go_enter Tryz.func116, Tryz.ntmps116
    go_wp2_with (fail)
    refine (rget_eq a n c bs w r1 r2 r3 HR.out HE.out).mono ?_
    rintro e w' ⟨rfl, hb⟩
    have HB := Lib.hid hb
    clear hb
    go_wp2
    go_ret3
    exact ⟨by rw [HE.out, gotIV, H3.out]; rfl, HB.out⟩
end Go.Proofs.YtkhcoinpplpomaaGreat
