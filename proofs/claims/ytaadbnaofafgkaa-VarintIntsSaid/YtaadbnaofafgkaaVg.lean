/-
  The program's GetInt and the document's, by walks over their texts.
-/
import Derived.Test.YtaadbnaofafgkaaVf
namespace Go.Proofs.Ytaadbnaofafgkaa
open Go.RowKit

/-- What GetInt tells, as a value. -/
def gotIV (r : Nat × Nat × Nat) : Value := .tuple #[.int .i64 (vopen r.1), .int .i64 r.2.1, .int .i64 r.2.2]
def GotIV (bs : List Nat) (w : World) (e : Ending) (w' : World) : Prop := e = .returned (gotIV (vget 0 0 bs)) ∧ Below w.heap.size w w'

/-- An error comes with 0 and 0. -/
theorem vget_err : ∀ (l : List Nat) (i A : Nat), ((vget i A l).2.2 = 0 ∧ (vget i A l).2.1 ≤ i + l.length) ∨ vget i A l = (0, 0, 40) ∨ vget i A l = (0, 0, 41)
  | [], i, A => by simp [vget]
  | p :: r, i, A => by
    simp only [vget]
    split
    · simp
    · split
      · have := vget_err r (i + 1) (A + p % 128 * 128 ^ i)
        simp only [List.length_cons]
        rcases this with ⟨h1, h2⟩ | h | h
        · exact .inl ⟨h1, by omega⟩
        · exact .inr (.inl h)
        · exact .inr (.inr h)
      · split
        · simp
        · simp

theorem get_eq (a : Option Addr) (n c : Nat) (bs : List Nat) (w : World) (r1 r2 r3 : Nat) (h : BReads w a n c bs) (hr : vget 0 0 bs = (r1, r2, r3)) :
    Calls Try.prog 15 #[.slice a n c] w fun e w' => e = .returned (.tuple #[.int .u64 r1, .int .i64 r2, .int .i64 r3]) ∧ w = w' := by
  have := get_any a n c bs w h
  rw [hr] at this
  exact this
theorem rget_eq (a : Option Addr) (n c : Nat) (bs : List Nat) (w : World) (r1 r2 r3 : Nat) (h : BReads w a n c bs) (hr : vget 0 0 bs = (r1, r2, r3)) :
    Calls Try.prog 16 #[.slice a n c] w fun e w' => e = .returned (.tuple #[.int .u64 r1, .int .i64 r2, .int .i64 r3]) ∧ Below w.heap.size w w' := by
  have := rget_any a n c bs w h
  unfold GotV at this
  rw [hr] at this
  exact this

set_option maxRecDepth 100000 in
set_option maxHeartbeats 1600000 in
theorem getint_any (a : Option Addr) (n c : Nat) (bs : List Nat) (w : World) (h : BReads w a n c bs) :
    Calls Try.prog 17 #[.slice a n c] w fun e w' => e = .returned (gotIV (vget 0 0 bs)) ∧ w = w' := by
  have HR := Lib.hid h
  have HU := Lib.hid (vget_lt bs)
  clear h
  rcases vget_err bs 0 0 with ⟨h0, _⟩ | h0 | h0
  · obtain ⟨r1, r2, r3, hr⟩ : ∃ r1 r2 r3, vget 0 0 bs = (r1, r2, r3) := ⟨_, _, _, rfl⟩
    rw [hr] at h0
    obtain rfl : r3 = 0 := h0
    have HE := Lib.hid hr
    rw [hr] at HU
    clear hr
    go_enter Try.func17, Try.ntmps17
    go_wp2_with (fail)
    refine (get_eq a n c bs w r1 r2 0 HR.out HE.out).mono ?_
    rintro e w' ⟨rfl, rfl⟩
    go_wp2_with (fail)
    refine (unfolded_any r1 w HU.out).mono ?_
    rintro e w' ⟨rfl, rfl⟩
    go_wp2
    go_ret3
    exact ⟨by rw [HE.out]; rfl, rfl⟩
  all_goals
    have HE := Lib.hid h0
    clear h0
    go_enter Try.func17, Try.ntmps17
    go_wp2_with (fail)
    refine (get_eq a n c bs w 0 0 _ HR.out HE.out).mono ?_
    rintro e w' ⟨rfl, rfl⟩
    go_wp2
    go_ret3
    exact ⟨by rw [HE.out]; rfl, rfl⟩

theorem open_bounds (r : Nat) (h : r < 18446744073709551616) : (r % 2 = 0 ∧ vopen r = ((r / 2 : Nat) : Int)) ∨ (r % 2 = 1 ∧ vopen r = -((r / 2 : Nat) : Int) - 1) := by
  unfold vopen
  split <;> omega

set_option maxRecDepth 100000 in
set_option maxHeartbeats 1600000 in
theorem rgetint_any (a : Option Addr) (n c : Nat) (bs : List Nat) (w : World) (h : BReads w a n c bs) :
    Calls Try.prog 18 #[.slice a n c] w fun e w' => GotIV bs w e w' := by
  have HR := Lib.hid h
  have HU := Lib.hid (vget_lt bs)
  clear h
  obtain ⟨r1, r2, r3, hr⟩ : ∃ r1 r2 r3, vget 0 0 bs = (r1, r2, r3) := ⟨_, _, _, rfl⟩
  have HE := Lib.hid hr
  rw [hr] at HU
  clear hr
  obtain ⟨m, hm⟩ : ∃ m, r1 / 2 = m := ⟨_, rfl⟩
  have hmb : m ≤ 9223372036854775807 := by have := HU.out; simp only at this; omega
  rcases open_bounds r1 HU.out with ⟨h2, h3⟩ | ⟨h2, h3⟩
  all_goals
    rw [hm] at h3
    have H3 := Lib.hid h3
    have hrem : ((r1 : Int) % 2) = ((r1 % 2 : Nat) : Int) := by omega
    rw [h2] at hrem
    have hquo : (r1 : Int) / 2 = (m : Int) := by omega
    have HMB := Lib.hid hmb
    have hmi : (m : Int) ≤ 9223372036854775807 := by omega
    clear h2 h3 hm hmb
    go_enter Try.func18, Try.ntmps18
    go_wp2_with (fail)
    refine (rget_eq a n c bs w r1 r2 r3 HR.out HE.out).mono ?_
    rintro e w' ⟨rfl, hb⟩
    have HB := Lib.hid hb
    clear hb
    go_wp2
    go_ret3
    exact ⟨by rw [HE.out, gotIV, H3.out]; rfl, HB.out⟩
end Go.Proofs.Ytaadbnaofafgkaa
