/-
  LinksOwn holds: what is told, and what is handed in, may be written over, whatever comes in.
-/
import Derived.Test.YtdocoioenkajeaaRows
import Derived.Test.YtdocoioenkajeaaIM9
import Derived.Test.YtdocoioenkajeaaPr
namespace Go.Proofs.Ytdocoioenkajeaa
open Go.ChangeShapes Go.WideShapes Go.ChangeAt Go.RowKit

set_option maxRecDepth 100000 in
theorem fit_item11 : (shItem.fit Try.prog).1 36 = true := by kernel_rfl
section
variable {H : Type} {enc : TypeId × Value → H} {W : World} {base : Nat} {ts : Array TypeId} {args : Array Value} {ds : List (DataW H)} {p : List MemPlace}
/-- An item that comes in. -/
theorem Given.item11 (g : Given enc Try.prog W base ts args ds p) (j : Nat) (ht : ts[j]? = some 36) : ∃ x : ItL, args[j]? = some (.agg x.cells.toArray) ∧ x.In (· < W.heap.size) W := by
  obtain ⟨cs, x, e1, hx⟩ := g.shs j ht shItem fit_item11 Try.underlying36
  obtain ⟨id, vec, tags, a1, n1, k1, a2, n2, k2, rfl, hcs, hid, r1, r2, _, _, _, _⟩ := rd_item hx
  refine ⟨⟨id, (a1, n1, k1), (a2, n2, k2), vec, tags⟩, ?_, ⟨by show id < 4294967296; omega, r1.mono (fun _ _ hk => hk), r2.mono (fun _ _ hk => hk)⟩⟩
  rw [e1]
  show some (Value.agg cs) = some (.agg ([.int .u32 (id : Int), .slice a1 n1 k1, .slice a2 n2 k2] : List Value).toArray)
  rw [← hcs]
end
theorem linksOwn_row : Rows.LinksOwnSaid :=
  OpenClaim.holds_of_wide 8 Try.f8 rfl rfl rfl rfl rfl rfl rfl ⟨rfl, rfl, rfl, rfl, rfl⟩ rfl rfl rfl rfl rfl (by kernel_rfl) Try.func8 (by kernel_rfl)
    (of_decide_eq_true (by kernel_rfl)) (by unfold Func.isWrapper; rw [if_neg (of_decide_eq_false (by kernel_rfl))]; exact ⟨rfl, rfl⟩)
    (fun os started H enc _ => lift (C := Try.checked) (s := Rows.linksOwnSpec) (conds := Rows.linksOwnRow.domain) os started H enc prog_own (by kernel_rfl) Try.func8 prog_laid rfl Try.underlying4 rfl
      (fun ds hl => by
        have hl : ds.length = 2 := hl
        match ds, hl with
        | [_, _], _ => rfl)
      (of_decide_eq_true (by kernel_rfl))
      (ChangeSpec.witness6 (enc := enc) (C := Try.checked) false ⟨#[], #[.agg #[.int .u32 0, .slice none 0 0, .slice none 0 0], .int .i64 0], []⟩ 8 (by kernel_rfl) (by kernel_rfl) (by kernel_rfl) (by kernel_rfl))
      (fun W base args ds p g => by
        rw [Try.params8] at g
        obtain ⟨x, e0, hx⟩ := g.item11 0 rfl
        obtain ⟨kk, e1, _⟩ := g.i64 1 rfl Try.underlying3
        rw [args2 g.count e0 e1]
        exact own11_walk x kk W hx))
end Go.Proofs.Ytdocoioenkajeaa
