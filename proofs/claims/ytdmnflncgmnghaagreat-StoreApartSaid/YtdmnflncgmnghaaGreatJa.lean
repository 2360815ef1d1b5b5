/-
  The document's past: All, by a walk over its text.
-/
import Derived.Test.YtdmnflncgmnghaaGreatJl
import Derived.Deep.DeepMust
namespace Go.Proofs.YtdmnflncgmnghaaGreat
open Go.RowKit

/-- An item's letters. -/
structure ItL where
  id : Nat
  pv : Option Addr × Nat × Nat
  pt : Option Addr × Nat × Nat
  vec : List Int
  tags : List ByteArray
def ItL.cells (x : ItL) : List Value := [.int .u32 (x.id : Int), .slice x.pv.1 x.pv.2.1 x.pv.2.2, .slice x.pt.1 x.pt.2.1 x.pt.2.2]
def ItL.toI (x : ItL) : ItemV := ⟨x.id, x.vec, toTags x.tags⟩
structure ItL.In (ok : Nat → Prop) (w : World) (x : ItL) : Prop where
  hid : x.id < 4294967296
  hvec : Rd ok w shVec [.slice x.pv.1 x.pv.2.1 x.pv.2.2] x.vec
  htags : Rd ok w shTags [.slice x.pt.1 x.pt.2.1 x.pt.2.2] x.tags
def RowL.it (r : RowL) : ItL := ⟨r.id, r.pv, r.pt, r.vec, r.tags⟩
theorem RowL.In.it {ok : Nat → Prop} {w : World} {r : RowL} (h : r.In ok w) : r.it.In ok w := ⟨h.hid, h.hvec, h.htags⟩
theorem ItL.In.under {B : Nat} {w w' : World} {x : ItL} (h : x.In (· < B) w) (hb : Below B w w') : x.In (· < B) w' :=
  ⟨h.hid, h.hvec.under hb, h.htags.under hb⟩
theorem item_info3 : (Tryz.prog.info? 73).map (fun i => (i.zero, i.size, i.bytes)) = some (some (.agg #[.int .u32 0, .slice none 0 0, .slice none 0 0]), 3, 56) := by kernel_rfl
/-- A list of items in a row of the call's own. -/
def ItsAt (lo : Nat) (w : World) (v : Value) (xs : List ItL) : Prop := RowC lo w 73 3 v (xs.map ItL.cells)
theorem ItsAt.form {lo : Nat} {w : World} {v : Value} {xs : List ItL} (h : ItsAt lo w v xs) : ∃ a c, v = .slice a xs.length c ∧ xs.length ≤ c := by
  obtain ⟨a, c, e, h2⟩ := RowC.form h
  rw [List.length_map] at e h2
  exact ⟨a, c, e, h2⟩
theorem ItsAt.at {lo : Nat} {w : World} {v : Value} {xs : List ItL} (h : ItsAt lo w v xs) (i : Nat) (hi : i < xs.length) : ∃ (x : ItL) (g c : Nat), xs[i]? = some x ∧ v = .slice (some ⟨g, 0, none⟩) xs.length c ∧ g < w.heap.size ∧
    w.cell? ⟨g, i * 3, none⟩ = some (.int .u32 (x.id : Int)) ∧ w.cell? ⟨g, i * 3 + 1, none⟩ = some (.slice x.pv.1 x.pv.2.1 x.pv.2.2) ∧ w.cell? ⟨g, i * 3 + 2, none⟩ = some (.slice x.pt.1 x.pt.2.1 x.pt.2.2) := by
  obtain ⟨x, hx⟩ : ∃ x, xs[i]? = some x := ⟨_, List.getElem?_eq_getElem hi⟩
  obtain ⟨g, c, e, _, hlt, hrg⟩ := RowC.at h i x.cells (by rw [List.getElem?_map, hx]; rfl)
  rw [List.length_map] at e
  exact ⟨x, g, c, hx, e, hlt, hrg 0 _ rfl, hrg 1 _ rfl, hrg 2 _ rfl⟩
theorem ItsAt.on {lo : Nat} {w w' : World} {v : Value} {xs : List ItL} (h : ItsAt lo w v xs) (hb : Below w.heap.size w w') : ItsAt lo w' v xs := RowC.on h hb
/-- What All leaves: items in order, in a row of the call's own; their lists where the rows' are. -/
def AllPost (B : Nat) (r : List ItemV × Nat) (w : World) (e : Ending) (w' : World) : Prop := Below w.heap.size w w' ∧
  ∃ (v : Value) (xs : List ItL), e = .returned (.tuple #[v, .int .i64 (r.2 : Int)]) ∧ ItsAt w.heap.size w' v xs ∧ (∀ x ∈ xs, x.In (· < B) w') ∧ xs.map ItL.toI = r.1
/-- The state of All's loop. -/
structure AllS (B : Nat) (L : List RowL) (v i : Nat) (s6 : Value) (w wr : World) (xs : List ItL) : Prop where
  row : ItsAt w.heap.size wr s6 xs
  below : Below w.heap.size w wr
  told : xs.map ItL.toI = allI (rowsV L) v i
  inn : ∀ x ∈ xs, x.In (· < B) w
  len : xs.length ≤ i
theorem allI_next {L : List RowL} {v i : Nat} {r : RowL} (h : L[i]? = some r) : allI (rowsV L) v (i + 1) = if atP (rowsV L) r.id v = i ∧ r.gone = false then insI r.item (allI (rowsV L) v i) else allI (rowsV L) v i := by
  have hr : (rowsV L)[i]? = some r.toR := by rw [rowsV, List.getElem?_map, h]; rfl
  rw [allI, hr]
  rfl

theorem RowC.mono {lo lo' : Nat} {w : World} {t : TypeId} {k : Nat} {v : Value} {css : List (List Value)} (h : RowC lo w t k v css) (hl : lo' ≤ lo) : RowC lo' w t k v css := by
  refine ⟨h.1, h.2.1, ?_⟩
  rcases h.2.2 with h2 | ⟨g, cap, cur, h1, h2, h3⟩
  · exact .inl h2
  · exact .inr ⟨g, cap, cur, h1, Nat.le_trans hl h2, h3⟩
theorem AllS.next {B v i : Nat} {L : List RowL} {s6 s' : Value} {w wr wz : World} {xs ys : List ItL} {r : RowL} (h : AllS B L v i s6 w wr xs) (hr : r.In (· < B) w) (hn : allI (rowsV L) v (i + 1) = insI r.item (allI (rowsV L) v i)) {lo : Nat} (hlo : w.heap.size ≤ lo) (hi : ItsAt lo wz s' ys) (hb : Below w.heap.size w wz) (hy : ys = insG ItL.id r.it xs) : AllS B L v (i + 1) s' w wz ys := by
  subst hy
  refine ⟨RowC.mono hi hlo, hb, ?_, fun x hx => ?_, ?_⟩
  · rw [hn, ← h.told]
    exact insG_map ItL.id ItemV.id ItL.toI (fun _ => rfl) r.it xs
  · rcases insG_mem _ _ _ _ hx with rfl | hx
    · exact hr.it
    · exact h.inn x hx
  · rw [insG_len]
    have := h.len
    omega
theorem take_snoc {α : Type} {l : List α} {j : Nat} {y : α} (h : l[j]? = some y) : l.take (j + 1) = l.take j ++ [y] := by
  rw [List.take_add_one, h]
  rfl

end Go.Proofs.YtdmnflncgmnghaaGreat
