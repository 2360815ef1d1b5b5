/-
  The library's Contains at this program, by the library's own contract.
-/
import Derived.Test.YtadkfedglkhgjaaGreatGb
import Derived.Shelf.Slices.Turned
namespace Go.Proofs.YtadkfedglkhgjaaGreat
open Go.RowKit Go.Shelf Go.Sort

def lays110Ren : Go.Shelf.Ren := ⟨fun | 110 => 84 | 109 => 121 | n => n, fun | 31 => 29 | 9 => 9 | 4 => 4 | 3 => 3 | 0 => 0 | n => n, fun | n => n⟩
theorem lays110 : Go.Proofs.Lays.n110 Tryz.prog lays110Ren := {
  mixed := by kernel_rfl
  f109 := Tryz.func121.trans (congrArg some (by kernel_rfl))
  f110 := Tryz.func84.trans (congrArg some (by kernel_rfl))
  t0 := Tryz.underlying0
  a0 := Tryz.isAgg0
  z0 := Tryz.sizeOf0
  v0 := Tryz.zeroValue0
  t3 := Tryz.underlying3
  a3 := Tryz.isAgg3
  z3 := Tryz.sizeOf3
  v3 := Tryz.zeroValue3
  t4 := Tryz.underlying4
  a4 := Tryz.isAgg4
  z4 := Tryz.sizeOf4
  v4 := Tryz.zeroValue4
  t9 := Tryz.underlying9
  a9 := Tryz.isAgg9
  z9 := Tryz.sizeOf9
  v9 := Tryz.zeroValue9
  t31 := Tryz.underlying29
  a31 := Tryz.isAgg29
  z31 := Tryz.sizeOf29
  v31 := Tryz.zeroValue29 }

theorem contains_reads (a : Option Addr) (n c : Nat) (ss : List ByteArray) (x : ByteArray) (w : World) (h : SReads w a n c ss) :
    Calls Tryz.prog 84 #[.slice a n c, .string x] w fun e w' => e = .returned (.bool (Lib.containsS ss x)) ∧ w' = w := by
  have hl := h.len
  have hs := h.small
  rcases h.cells with h0 | ⟨b, off, rfl, _, hc⟩
  · subst h0
    have : ss = [] := List.eq_nil_of_length_eq_zero hl
    subst this
    exact Any.slices_Contains_string_empty lays110 a c x w
  · have := Any.slices_Contains_string lays110 b off n c ss x w (by omega) (by omega) (fun j hj => hc j (by omega))
    rwa [List.take_of_length_le (by omega)] at this

end Go.Proofs.YtadkfedglkhgjaaGreat
