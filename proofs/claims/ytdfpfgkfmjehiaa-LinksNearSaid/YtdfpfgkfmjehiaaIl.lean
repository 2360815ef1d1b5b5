/-
  A node that is told, as the laws look at it.
-/
import Derived.Test.YtdfpfgkfmjehiaaIk
namespace Go.Proofs.Ytdfpfgkfmjehiaa
open Go.ChangeShapes Go.WideShapes Go.ChangeAt Go.RowKit

/-- A node's cells, with letters. -/
def NodeL.six (y : NodeL) (ap : Option Addr) (cp : Nat) : List Value := [.int .u32 (y.it.id : Int), .slice y.it.pv.1 y.it.pv.2.1 y.it.pv.2.2, .slice y.it.pt.1 y.it.pt.2.1 y.it.pt.2.2, .int .u64 (y.frm : Int), .int .u64 (y.til : Int), .slice ap y.links.length cp]
section
variable {w w' : World} {lo g : Nat} {F : List Nat} {gv : GraphV} {y : NodeL}
theorem nodeOr_at {i : Nat} (hi : i < gv.L.length) : gv.thereB (i : Int) = true ∧ gv.L[i]? = some (gv.nodeOr (i : Int)) := by
  have h1 : gv.thereB (i : Int) = true := by
    unfold GraphV.thereB
    exact decide_eq_true ⟨by omega, by omega⟩
  refine ⟨h1, ?_⟩
  unfold GraphV.nodeOr
  rw [if_pos h1, Int.toNat_natCast, List.getElem?_eq_getElem hi]
  rfl
/-- What is known of a node that was told: it is the call's own. -/
structure Told (gv : GraphV) (i : Int) (lo : Nat) (w : World) (y : NodeL) (ap : Option Addr) (cp : Nat) : Prop where
  own : y.Own lo w
  toV : y.toV = gv.nodeOr i
  cells : y.cells = y.six ap cp
theorem node_is (h : GraphIs w lo g F gv) (i : Int) : Calls Try.prog 11 #[.pointer (some ⟨g, 0, none⟩), .int .i64 i] w fun e w' => ∃ (y : NodeL) (ap : Option Addr) (cp : Nat), e = .returned (.tuple #[.agg (y.six ap cp).toArray, .bool (gv.thereB i)]) ∧ Told gv i w.heap.size w' y ap cp ∧ Below w.heap.size w w' := by
  refine (node_any w lo g F gv h i).mono ?_
  rintro e w' ⟨y, rfl, h1, h2, h3⟩
  obtain ⟨ap, cp, -, h4⟩ := h1.cells6
  rw [h1.lens] at h4
  have e : y.cells = y.six ap cp := h4
  exact ⟨y, ap, cp, by rw [e], ⟨h1, h2, e⟩, h3⟩
theorem Told.on {i : Int} {ap : Option Addr} {cp : Nat} (h : Told gv i lo w y ap cp) (hb : Below w.heap.size w w') : Told gv i lo w' y ap cp := ⟨h.own.on hb, h.toV, h.cells⟩
/-- A list of a node that was told. -/
theorem Told.list {i : Int} {ap : Option Addr} {cp k : Nat} (h : Told gv i lo w y ap cp) (hk : k < y.links.length) : ∃ (b : Nat) (ka : Option Addr) (kn kc : Nat), ap = some ⟨b, 0, none⟩ ∧ b < w.heap.size ∧ w.cell? ⟨b, k, none⟩ = some (.slice ka kn kc) ∧ Hid (IntsAt lo w (.slice ka kn kc) (y.links.getD k [])) ∧ kn ≤ kc ∧ kn = (y.links.getD k []).length := by
  have hlr := h.own.lrow
  have hpl : y.pl = .slice ap y.links.length cp := by
    have h1 := h.cells
    unfold NodeL.cells NodeL.six at h1
    simpa using h1
  rcases own_cells1 hlr with ⟨e, e2⟩ | ⟨b, c2, e, _, _, hlt, hcell⟩
  · have := h.own.lens
    rw [e2] at this
    simp at this
    omega
  · rw [hpl] at e
    simp only [Value.slice.injEq] at e
    obtain ⟨v, hv⟩ : ∃ v, y.ls[k]? = some v := ⟨_, List.getElem?_eq_getElem (by rw [h.own.lens]; exact hk)⟩
    have hl : y.links[k]? = some (y.links.getD k []) := by
      rw [List.getElem?_eq_getElem hk, List.getD_eq_getElem?_getD, List.getElem?_eq_getElem hk]
      rfl
    have hi := h.own.list k v _ hv hl
    obtain ⟨ka, kc, rfl, hle⟩ := IntsAt.form hi
    exact ⟨b, ka, _, kc, e.1, hlt, by rw [hcell k (by rw [h.own.lens]; exact hk)]; exact hv, hi, hle, rfl⟩
/-- A told node reads. -/
theorem Told.reads {i : Int} {ap : Option Addr} {cp : Nat} (h : Told gv i lo w y ap cp) (hr : gv.Right) (hl : gv.L.length ≤ 100000) : NodeR w y := by
  have hk : ∀ l ∈ y.links, l.length ≤ 1000000 ∧ ∀ j ∈ l, j ≤ 1000000 := fun l hm => by
    have h1 : y.links = (gv.nodeOr i).links := by rw [← h.toV]; rfl
    unfold GraphV.nodeOr at h1
    split at h1
    · next ht =>
      unfold GraphV.thereB at ht
      have ht := of_decide_eq_true ht
      obtain ⟨j, rfl⟩ : ∃ j : Nat, i = (j : Int) := ⟨i.toNat, by omega⟩
      rw [Int.toNat_natCast, List.getElem?_eq_getElem (by omega)] at h1
      obtain ⟨k, hk⟩ := List.getElem?_of_mem hm
      have e : gv.links j k = l := by
        rw [GraphV.links_some (List.getElem?_eq_getElem (by omega : j < gv.L.length)), List.getD_eq_getElem?_getD]
        have h1' : y.links = gv.L[j].links := h1
        rw [← h1', hk]
        rfl
      have h6 := nodup_le gv.L.length l (by rw [← e]; exact hr.each j k) fun y hy => links_lt hr (i := j) (k := k) (by rw [e]; exact hy)
      refine ⟨by omega, fun j2 hj => ?_⟩
      have := links_lt hr (i := j) (k := k) (by rw [e]; exact hj)
      omega
    · rw [h1] at hm
      simp [zeroNV] at hm
  have hlen : y.links.length ≤ 1000000 := by
    have h1 : y.links = (gv.nodeOr i).links := by rw [← h.toV]; rfl
    unfold GraphV.nodeOr at h1
    split at h1
    · next ht =>
      unfold GraphV.thereB at ht
      have ht := of_decide_eq_true ht
      rw [List.getElem?_eq_getElem (by omega)] at h1
      have h2 := hr.most _ (List.getElem_mem (show i.toNat < gv.L.length by omega))
      have h1' : y.links = gv.L[i.toNat].links := h1
      rw [h1']
      omega
    · rw [h1]
      simp [zeroNV]
  exact h.own.reads hlen hk
end
theorem args6_11 {args : Array Value} {a b c d e f : Value} (h : args.size = 6) (h0 : args[0]? = some a) (h1 : args[1]? = some b) (h2 : args[2]? = some c) (h3 : args[3]? = some d) (h4 : args[4]? = some e) (h5 : args[5]? = some f) : args = #[a, b, c, d, e, f] := by
  apply Array.ext_getElem?
  intro i
  match i with
  | 0 => simpa using h0
  | 1 => simpa using h1
  | 2 => simpa using h2
  | 3 => simpa using h3
  | 4 => simpa using h4
  | 5 => simpa using h5
  | i + 6 => simp [h]
end Go.Proofs.Ytdfpfgkfmjehiaa
