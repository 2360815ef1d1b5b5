/-
  Messages, and lists of changes, that come in as arguments.
-/
import Derived.Test.YtemnmjfeljipjaaGreatMk
import Derived.Test.YtemnmjfeljipjaaGreatProg
import Derived.KernelRfl
namespace Go.Proofs.YtemnmjfeljipjaaGreat
open Go.RowKit Go.ChangeShapes Go.WideShapes Go.ChangeAt

set_option maxRecDepth 100000 in
theorem fit_msg : (shMsg.fit Tryz.prog).1 37 = true := by kernel_rfl
set_option maxRecDepth 100000 in
theorem fit_changes : (shChanges.fit Tryz.prog).1 28 = true := by kernel_rfl

section
variable {H : Type} {enc : TypeId × Value → H} {W : World} {base : Nat} {ts : Array TypeId} {args : Array Value} {ds : List (DataW H)} {p : List MemPlace}
/-- A message that comes in. -/
theorem Given.msg (g : Given enc Tryz.prog W base ts args ds p) (j : Nat) (ht : ts[j]? = some 37) : ∃ m : MsgL, args[j]? = some (.agg m.cells.toArray) ∧ m.In (· < W.heap.size) W := by
  obtain ⟨cs, x, e1, hx⟩ := g.shs j ht shMsg fit_msg Tryz.underlying37
  obtain ⟨m, hm, hi⟩ := rd_msg hx
  exact ⟨m, by rw [e1, ← hm], hi.lt⟩
/-- A list of changes that comes in. -/
theorem Given.changes (g : Given enc Tryz.prog W base ts args ds p) (j : Nat) (ht : ts[j]? = some 28) : ∃ (a : Option Addr) (n c : Nat) (xs : List shChange.T), args[j]? = some (.slice a n c) ∧ Rd (· < W.heap.size) W shChanges [.slice a n c] xs := by
  obtain ⟨v, x, e1, hx⟩ := g.sh1 j ht shChanges fit_changes (.inl ⟨_, Tryz.underlying28⟩)
  obtain ⟨a, n, c, hcs, _, _, h⟩ := Rd.slice_is (e := shChange) hx
  simp only [List.cons.injEq, and_true] at hcs
  subst hcs
  exact ⟨a, n, c, x, e1, h.mono fun _ _ hk => hk⟩
end
end Go.Proofs.YtemnmjfeljipjaaGreat
