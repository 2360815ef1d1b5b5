/-
  Worst of a selector by the list that it keeps.
-/
import Derived.Test.YtadkfedglkhgjaaGreatTr
import Derived.Test.YtadkfedglkhgjaaGreatTn
namespace Go.Proofs.YtadkfedglkhgjaaGreat
open Go.RowKit

section
variable {w w' : World} {F G : List Nat} {b room : Nat} {s : List Hit}
end

theorem sel_worst (F : List Nat) (b room : Nat) (s : List Hit) (w : World) (h : SelF w F b room s) (f : Bool) (hf : Hid (decide (s.length = room) = f)) (y : Hit) (hy : Hid (lastL s = y)) :
    Calls Tryz.prog 76 #[.pointer (some ⟨b, 0, none⟩)] w fun e w' => e = .returned (.tuple #[.agg #[.int .i64 y.1, .int .u32 y.2], .bool f]) ∧ Below w.heap.size w w' := by
  obtain ⟨c, v, xs, hb, hr, _⟩ := h
  exact worst_any b c room v xs w hb f (by rw [hr.len]; exact hf) y (by rw [hr.last]; exact hy)

end Go.Proofs.YtadkfedglkhgjaaGreat
