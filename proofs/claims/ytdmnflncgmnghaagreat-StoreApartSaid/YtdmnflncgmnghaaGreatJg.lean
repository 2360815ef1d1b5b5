/-
  The document's past: Get, by a walk over its text.
-/
import Derived.Test.YtdmnflncgmnghaaGreatJr
namespace Go.Proofs.YtdmnflncgmnghaaGreat
open Go.RowKit

theorem PastR.kept {w w' : World} {B lo g last floor : Nat} {u k : Value} {L : List RowL} {ks : List Nat} {F : List Nat} (h : PastR w B lo g u k L last floor ks) (hk : Kept F w w') (hF : ∀ x ∈ F, x ≠ g ∧ u.ownBlock ≠ some x ∧ k.ownBlock ≠ some x ∧ B ≤ x) : PastR w' B lo g u k L last floor ks where
  blk := hk.blk h.blk (fun hh => (hF g hh).1 rfl)
  rows := h.rows.kept hk (fun x hx hh => (hF x hh).2.1 hx)
  each := fun r hr => (h.each r hr).stay hk.size (fun x hx hlt => hk.block x hlt (fun hh => by have := (hF x hh).2.2.2; omega)) (fun _ h _ => h)
  vers := h.vers.kept hk (fun x hx hh => (hF x hh).2.2.1 hx)
  hlast := h.hlast
  hfloor := h.hfloor
  hkept := h.hkept
  hL := h.hL
  hK := h.hK
  glo := h.glo
  hB := h.hB
theorem PastR.on {w w' : World} {B lo g last floor : Nat} {u k : Value} {L : List RowL} {ks : List Nat} (h : PastR w B lo g u k L last floor ks) (hb : Below w.heap.size w w') : PastR w' B lo g u k L last floor ks := h.kept (F := []) (Kept.of_below hb (Nat.le_refl _)) (by simp)
theorem results_row_tmp8 {P : Program} {fn : Func} {p q : Tmp} {ty : TypeId} (h : fn.results = #[.cell p ty, .tmp q]) (tmps : Array Value) (w : World) (g : Nat) (t : TypeId) (cs : Array Value) (fr : Nat × Nat) (d : TypeDesc)
    (hp : tmps.getD p undef = .pointer (some ⟨g, 0, none⟩)) (hg : w.heap[g]? = some (.cells cs t fr))
    (hu : P.underlying ty = some d) (hd : (match d with | .struct _ | .array _ _ => true | _ => false) = true) (hi : (P.info? ty).map (·.size) = some cs.size) (v : Value) (hv : tmps.getD q undef = v) :
    (results fn tmps).run P w = .ok (.tuple #[.agg cs, v]) w := by
  have hp' : tmps[p]?.getD undef = .pointer (some ⟨g, 0, none⟩) := by simpa using hp
  have hv' : tmps[q]?.getD undef = v := by simpa using hv
  simp [results, h, hp', hv', asAddr, run_loadVar_row w g t ty cs fr d hg hu hd hi]
/-- What is told of an item: its cells, and what they say. -/
def ItemPost (B : Nat) (r : ItemV × Nat) (w : World) (e : Ending) (w' : World) : Prop := Below w.heap.size w w' ∧
  ∃ (c0 c1 c2 : Value) (x : shItem.T), e = .returned (.tuple #[.agg #[c0, c1, c2], .int .i64 (r.2 : Int)]) ∧ Rd (· < B) w' shItem [c0, c1, c2] x ∧ toItem x = r.1
theorem rd_item_mk {ok : Nat → Prop} {w : World} {id : Nat} {c1 c2 : Value} {vec : List Int} {tags : List ByteArray} (hid : id < 4294967296) (h1 : Rd ok w shVec [c1] vec) (h2 : Rd ok w shTags [c2] tags) : Rd ok w shItem [.int .u32 (id : Int), c1, c2] ((id : Int), vec, tags, ()) :=
  Rd.pair_mk (c1 := [.int .u32 (id : Int)]) (c2 := [c1, c2]) rfl (Rd.int_mk rfl (by simp [Lit.wf, IntKind.min, IntKind.max, IntKind.signed, IntKind.bits]; omega)) (Rd.pair_mk (c1 := [c1]) (c2 := [c2]) rfl h1 (Rd.pair_mk (c1 := [c2]) (c2 := []) rfl h2 (Rd.unit_mk rfl)))
theorem thereP_none {L : List RowV} {id v : Nat} (h : atP L id v < 0) : thereP L id v = none := by
  unfold thereP
  rw [if_pos h]
theorem thereP_gone {L : List RowV} {id v i : Nat} {r : RowV} (h : atP L id v = i) (hr : L[i]? = some r) (hg : r.gone = true) : thereP L id v = none := by
  unfold thereP
  rw [if_neg (by omega), h, Int.toNat_natCast, hr]
  simp [hg]
theorem thereP_some {L : List RowV} {id v i : Nat} {r : RowV} (h : atP L id v = i) (hr : L[i]? = some r) (hg : r.gone = false) : thereP L id v = some r := by
  unfold thereP
  rw [if_neg (by omega), h, Int.toNat_natCast, hr]
  simp [hg]
theorem three_set {w w1 : World} {g : Nat} {t : TypeId} {z0 z1 z2 : Value} (c0 c1 c2 : Value) (h : Blk w1 g t [z0, z1, z2]) (hb : Below w.heap.size w w1) (hg : w.heap.size ≤ g) :
    (((w1.setCell ⟨g, 0, none⟩ c0).setCell ⟨g, 1, none⟩ c1).setCell ⟨g, 2, none⟩ c2).heap[g]? = some (.cells #[c0, c1, c2] t (0, 0)) ∧ Below w.heap.size w (((w1.setCell ⟨g, 0, none⟩ c0).setCell ⟨g, 1, none⟩ c1).setCell ⟨g, 2, none⟩ c2) :=
  ⟨((h.set 0 c0).set 1 c1).set 2 c2, ((hb.setCell (p := ⟨g, 0, none⟩) hg _).setCell (p := ⟨g, 1, none⟩) hg _).setCell (p := ⟨g, 2, none⟩) hg _⟩
theorem item_info8 : (Tryz.prog.info? 73).map (·.size) = some 3 := by kernel_rfl
theorem zero_item8 : ∀ w : World, (zeroValue 73).run Tryz.prog w = .ok (.agg #[.int .u32 0, .slice none 0 0, .slice none 0 0]) w := by
  intro w
  kernel_rfl
theorem rd_zero8 (ok : Nat → Prop) (w : World) : Rd ok w shItem [.int .u32 0, .slice none 0 0, .slice none 0 0] ((0 : Int), ([] : List Int), ([] : List ByteArray), ()) :=
  rd_item_mk (id := 0) (by decide) (Rd.slice_mk ⟨none, 0, 0, rfl, rfl, by decide, by decide, by decide, fun _ => ⟨rfl, rfl⟩, .inl rfl⟩) (Rd.slice_mk ⟨none, 0, 0, rfl, rfl, by decide, by decide, by decide, fun _ => ⟨rfl, rfl⟩, .inl rfl⟩)

end Go.Proofs.YtdmnflncgmnghaaGreat
