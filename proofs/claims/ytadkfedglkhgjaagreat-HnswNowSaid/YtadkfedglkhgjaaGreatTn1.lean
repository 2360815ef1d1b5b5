/-
  What lies below a world's heap is seen as before.
-/
import Derived.Test.YtadkfedglkhgjaaGreatTM1
import Derived.Deep.DeepCutAuto
namespace Go.Proofs.YtadkfedglkhgjaaGreat
open Go.RowKit

theorem seen {W w1 : World} (hb : Below W.heap.size W w1) : (∀ b o, b < W.heap.size → w1.cell? ⟨b, o, none⟩ = W.cell? ⟨b, o, none⟩) ∧ (∀ b o, b < W.heap.size → w1.frozen? ⟨b, o, none⟩ = W.frozen? ⟨b, o, none⟩) ∧ W.heap.size ≤ w1.heap.size :=
  ⟨fun b o h => hb.cell (p := ⟨b, o, none⟩) h, fun b o h => hb.frozen (p := ⟨b, o, none⟩) h, hb.size⟩

end Go.Proofs.YtadkfedglkhgjaaGreat
