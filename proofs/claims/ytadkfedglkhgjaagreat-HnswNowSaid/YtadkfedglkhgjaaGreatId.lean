/-
  The document's Small tells some Bool. By a walk over its text.
-/
import Derived.Test.YtadkfedglkhgjaaGreatIM2
import Derived.Test.YtadkfedglkhgjaaGreatSv1
import Derived.Test.YtadkfedglkhgjaaGreatMp
import Derived.Great.BuildSlice
namespace Go.Proofs.YtadkfedglkhgjaaGreat
open Go.RowKit

theorem one_change {w : World} {b id : Nat} {c1 c2 : Value} {vec : List Int} {tags : List ByteArray} {t : TypeId} (hb : Blk w b t [.bool false, .int .u32 (id : Int), c1, c2]) (hid : id < 4294967296) (h1 : Rd (fun _ => True) w shVec [c1] vec) (h2 : Rd (fun _ => True) w shTags [c2] tags) :
    Rd (fun _ => True) w shChanges [.slice (some ⟨b, 0, none⟩) 1 1] [(false, ((id : Int), vec, tags, ()), ())] := by
  refine Rd.slice_mk ⟨some ⟨b, 0, none⟩, 1, 1, rfl, rfl, by decide, by decide, by decide, fun h => (by cases h), .inr ⟨b, 0, rfl, trivial, hb.lt, fun i x hx => ?_⟩⟩
  cases i with
  | zero =>
    have hx0 : x = (false, ((id : Int), vec, tags, ()), ()) := (Option.some.inj hx).symm
    subst hx0
    refine ⟨[.bool false, .int .u32 (id : Int), c1, c2], rfl, fun j _ => ?_, Rd.pair_mk (c1 := [.bool false]) (c2 := [.int .u32 (id : Int), c1, c2]) rfl (Rd.bool_mk rfl) (Rd.pair_mk (c1 := [.int .u32 (id : Int), c1, c2]) (c2 := []) rfl (rd_item_mk hid h1 h2) (Rd.unit_mk rfl))⟩
    rw [show 0 + 0 * shChange.cells + j = j by simp]
    exact hb.cell j
  | succ i => exact nomatch (show (none : Option shChange.T) = some x from hx)
set_option maxRecDepth 100000 in
set_option maxHeartbeats 1600000 in
theorem small_any (B : Nat) (x : ItL) (w : World) (h : x.In (· < B) w) (hB : B ≤ w.heap.size) :
    Calls Tryz.prog 31 #[.agg x.cells.toArray] w fun e w' => SomeG e ∧ Below w.heap.size w w' := by
  have hal := (Below.refl w.heap.size w).alloc (Nat.le_refl _) (.cells #[.int .u32 (x.id : Int), .slice x.pv.1 x.pv.2.1 x.pv.2.2, .slice x.pt.1 x.pt.2.1 x.pt.2.2] 31)
  have hb2 := hal.alloc (by simp) (.cells #[.bool false, .int .u32 (x.id : Int), .slice x.pv.1 x.pv.2.1 x.pv.2.2, .slice x.pt.1 x.pt.2.1 x.pt.2.2] 111)
  have hx2 := h.under (hb2.mono hB)
  have hblk := Blk.new (w.alloc (.cells #[.int .u32 (x.id : Int), .slice x.pv.1 x.pv.2.1 x.pv.2.2, .slice x.pt.1 x.pt.2.1 x.pt.2.2] 31)) 111 #[.bool false, .int .u32 (x.id : Int), .slice x.pv.1 x.pv.2.1 x.pv.2.2, .slice x.pt.1 x.pt.2.1 x.pt.2.2]
  rw [show (w.alloc (.cells #[.int .u32 (x.id : Int), .slice x.pv.1 x.pv.2.1 x.pv.2.2, .slice x.pt.1 x.pt.2.1 x.pt.2.2] 31)).heap.size = w.heap.size + 1 by simp] at hblk
  have RD := Lib.hid (one_change hblk hx2.hid (hx2.hvec.mono (fun _ _ _ => trivial)) (hx2.htags.mono (fun _ _ _ => trivial)))
  have B2 := Lib.hid hb2
  show Calls _ _ #[.agg #[.int .u32 (x.id : Int), .slice x.pv.1 x.pv.2.1 x.pv.2.2, .slice x.pt.1 x.pt.2.1 x.pt.2.2]] _ _
  clear h hB hal hb2 hx2 hblk
  go_enter Tryz.func31, Tryz.ntmps31
  go_wp2_with (fail)
  refine (greatChanges _ 1 1 _ _ RD.out).mono ?_
  rintro e w3 ⟨⟨gr, rfl⟩, hw3⟩
  have hw3' := hw3.symm
  subst hw3'
  clear hw3
  go_wp2
  go_ret
  exact ⟨⟨_, rfl⟩, B2.out⟩
end Go.Proofs.YtadkfedglkhgjaaGreat
