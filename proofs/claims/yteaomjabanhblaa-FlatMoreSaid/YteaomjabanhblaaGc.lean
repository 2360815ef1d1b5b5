/-
  The library's Contains at this program, by the library's own contract.
-/
import Derived.Test.YteaomjabanhblaaGb
import Derived.Shelf.Slices.Turned
namespace Go.Proofs.Yteaomjabanhblaa
open Go.RowKit Go.Shelf Go.Sort

def lays110Ren : Go.Shelf.Ren := ⟨fun | 110 => 48 | 109 => 60 | n => n, fun | 31 => 24 | 9 => 9 | 4 => 4 | 3 => 3 | 0 => 0 | n => n, fun | n => n⟩
theorem lays110 : Go.Proofs.Lays.n110 Try.prog lays110Ren := {
  mixed := by kernel_rfl
  f109 := Try.func60.trans (congrArg some (by kernel_rfl))
  f110 := Try.func48.trans (congrArg some (by kernel_rfl))
  t0 := Try.underlying0
  a0 := Try.isAgg0
  z0 := Try.sizeOf0
  v0 := Try.zeroValue0
  t3 := Try.underlying3
  a3 := Try.isAgg3
  z3 := Try.sizeOf3
  v3 := Try.zeroValue3
  t4 := Try.underlying4
  a4 := Try.isAgg4
  z4 := Try.sizeOf4
  v4 := Try.zeroValue4
  t9 := Try.underlying9
  a9 := Try.isAgg9
  z9 := Try.sizeOf9
  v9 := Try.zeroValue9
  t31 := Try.underlying24
  a31 := Try.isAgg24
  z31 := Try.sizeOf24
  v31 := Try.zeroValue24 }

theorem contains_reads (a : Option Addr) (n c : Nat) (ss : List ByteArray) (x : ByteArray) (w : World) (h : SReads w a n c ss) :
    Calls Try.prog 48 #[.slice a n c, .string x] w fun e w' => e = .returned (.bool (Lib.containsS ss x)) ∧ w' = w := by
  have hl := h.len
  have hs := h.small
  rcases h.cells with h0 | ⟨b, off, rfl, _, hc⟩
  · subst h0
    have : ss = [] := List.eq_nil_of_length_eq_zero hl
    subst this
    exact Any.slices_Contains_string_empty lays110 a c x w
  · have := Any.slices_Contains_string lays110 b off n c ss x w (by omega) (by omega) (fun j hj => hc j (by omega))
    rwa [List.take_of_length_le (by omega)] at this

end Go.Proofs.Yteaomjabanhblaa
