/-
  What the calls of layer 4 tell, as values; the bytes' type. No function of the program stands here.
-/
import Derived.Test.YtdgiellnklcioaaRows
import Derived.Test.YtdgiellnklcioaaVs
import Derived.Test.YtdgiellnklcioaaVm
import Derived.Lib.Varint
import Derived.WalkSmall
import Derived.Deep.QuietTactic
namespace Go.Proofs.Ytdgiellnklcioaa
open Go.RowKit

theorem byte_info : (Try.prog.info? 5).map (fun i => (i.zero, i.size, i.bytes)) = some (some (.int .u8 0), 1, 1) := by kernel_rfl

/-- What Put tells: the number's bytes, the caller's own. -/
def PutsV (bs : List Nat) (w : World) (e : Ending) (w' : World) : Prop :=
  ∃ v, e = .returned v ∧ OwnV w' w.heap.size 5 v bs ∧ Below w.heap.size w w'

/-- What Get tells, as a value. -/
def gotV (r : Nat × Nat × Nat) : Value := .tuple #[.int .u64 r.1, .int .i64 r.2.1, .int .i64 r.2.2]

theorem drop_at (bs : List Nat) (k : Nat) (h : k < bs.length) : bs.drop k = byteAt bs k :: bs.drop (k + 1) := by
  rw [List.drop_eq_getElem_cons h]
  simp [byteAt, List.getD, h]

def GotV (bs : List Nat) (w : World) (e : Ending) (w' : World) : Prop := e = .returned (gotV (vget 0 0 bs)) ∧ Below w.heap.size w w'

/-- What GetInt tells, as a value. -/
def gotIV (r : Nat × Nat × Nat) : Value := .tuple #[.int .i64 (vopen r.1), .int .i64 r.2.1, .int .i64 r.2.2]
def GotIV (bs : List Nat) (w : World) (e : Ending) (w' : World) : Prop := e = .returned (gotIV (vget 0 0 bs)) ∧ Below w.heap.size w w'

/-- An error comes with 0 and 0. -/
theorem vget_err : ∀ (l : List Nat) (i A : Nat), ((vget i A l).2.2 = 0 ∧ (vget i A l).2.1 ≤ i + l.length) ∨ vget i A l = (0, 0, 40) ∨ vget i A l = (0, 0, 41)
  | [], i, A => by simp [vget]
  | p :: r, i, A => by
    simp only [vget]
    split
    · simp
    · split
      · have := vget_err r (i + 1) (A + p % 128 * 128 ^ i)
        simp only [List.length_cons]
        rcases this with ⟨h1, h2⟩ | h | h
        · exact .inl ⟨h1, by omega⟩
        · exact .inr (.inl h)
        · exact .inr (.inr h)
      · split
        · simp
        · simp

theorem open_bounds (r : Nat) (h : r < 18446744073709551616) : (r % 2 = 0 ∧ vopen r = ((r / 2 : Nat) : Int)) ∨ (r % 2 = 1 ∧ vopen r = -((r / 2 : Nat) : Int) - 1) := by
  unfold vopen
  split <;> omega

end Go.Proofs.Ytdgiellnklcioaa
