/-
  Maps by numbers in plain words: a set, a function; what is looked up, what is stored; the firsts of a list by their ids. General but for the two maps' types.
-/
import Derived.Test.YtdmnflncgmnghaaGreatCt
import Derived.Maps.OwnIn
import Derived.Maps.OwnSet
import Derived.Maps.Views
namespace Go.Proofs.YtdmnflncgmnghaaGreat
open Go.RowKit

/-- Block b is a set of these ids. -/
def SetAt (w : World) (b : Nat) (ids : List Nat) : Prop := ∃ D : DataW Unit, w.ownsMap Tryz.prog 38 unitElem b ids.length D ∧ Maps.IsMap D ∧ ∀ id : Nat, Maps.has D (.int .u32 (id : Int)) = ids.contains id
/-- Block b is a map of the function f, of n entries at most. -/
def MapAt (w : World) (b n : Nat) (f : Nat → Option Nat) : Prop := ∃ D : DataW Unit, w.ownsMap Tryz.prog 38 (plainElem Tryz.prog 27) b n D ∧ Maps.IsMap D ∧ ∀ id : Nat, (f id = none ∧ Maps.has D (.int .u32 (id : Int)) = false) ∨ (∃ v : Nat, f id = some v ∧ Maps.has D (.int .u32 (id : Int)) = true ∧ ∀ z, D.atKey (.int .u32 (id : Int)) z = .lit (.int .u64 (v : Int)))
theorem keyLit (k : IntKind) (n : Int) : WideAt.IsKeyLit (.int k n) := by trivial
theorem isMap_put {D : DataW Unit} (h : Maps.IsMap D) (k : Lit) (d : DataW Unit) : Maps.IsMap (D.put k d) := h.put k d
theorem SetAt.made (w : World) : SetAt (w.alloc (.map #[] 0)) w.heap.size [] := ⟨.map [], World.ownsMap_made w _ _ _, Maps.isMap_empty, fun _ => rfl⟩
theorem MapAt.made (w : World) : MapAt (w.alloc (.map #[] 0)) w.heap.size 0 (fun _ => none) := ⟨.map [], World.ownsMap_made w _ _ _, Maps.isMap_empty, fun _ => .inl ⟨rfl, rfl⟩⟩
theorem SetAt.kept {w w' : World} {b : Nat} {ids : List Nat} {row : Option Nat} (h : SetAt w b ids) (hg : w.grownBy w' row) (hne : row ≠ some b) : SetAt w' b ids := by
  obtain ⟨D, h1, h2, h3⟩ := h
  exact ⟨D, h1.kept hg (fun e => hne e.symm), h2, h3⟩
theorem MapAt.kept {w w' : World} {b n : Nat} {f : Nat → Option Nat} {row : Option Nat} (h : MapAt w b n f) (hg : w.grownBy w' row) (hne : row ≠ some b) : MapAt w' b n f := by
  obtain ⟨D, h1, h2, h3⟩ := h
  exact ⟨D, h1.kept hg (fun e => hne e.symm), h2, h3⟩
theorem SetAt.lt {w : World} {b : Nat} {ids : List Nat} (h : SetAt w b ids) : b < w.heap.size := by
  obtain ⟨D, h1, _⟩ := h
  exact h1.lt
theorem MapAt.lt {w : World} {b n : Nat} {f : Nat → Option Nat} (h : MapAt w b n f) : b < w.heap.size := by
  obtain ⟨D, h1, _⟩ := h
  exact h1.lt
/-- A set's block is no row of cells. -/
theorem SetAt.obj {w : World} {b : Nat} {ids : List Nat} (h : SetAt w b ids) : ∃ es c, w.heap[b]? = some (.map es c) := by
  obtain ⟨D, ⟨es, c, hh, _⟩, _⟩ := h
  exact ⟨es, c, hh⟩
theorem MapAt.obj {w : World} {b n : Nat} {f : Nat → Option Nat} (h : MapAt w b n f) : ∃ es c, w.heap[b]? = some (.map es c) := by
  obtain ⟨D, ⟨es, c, hh, _⟩, _⟩ := h
  exact ⟨es, c, hh⟩
theorem SetAt.far {w w' : World} {b : Nat} {ids : List Nat} (h : SetAt w b ids) (hb : w'.heap[b]? = w.heap[b]?) : SetAt w' b ids := by
  obtain ⟨D, ⟨es, c, hh, hf, hs, hD⟩, h2, h3⟩ := h
  exact ⟨D, ⟨es, c, hb.trans hh, hf, hs, hD⟩, h2, h3⟩
theorem MapAt.far {w w' : World} {b n : Nat} {f : Nat → Option Nat} (h : MapAt w b n f) (hb : w'.heap[b]? = w.heap[b]?) : MapAt w' b n f := by
  obtain ⟨D, ⟨es, c, hh, hf, hs, hD⟩, h2, h3⟩ := h
  exact ⟨D, ⟨es, c, hb.trans hh, hf, hs, hD⟩, h2, h3⟩
theorem u32_lit {id : Nat} (h : id < 4294967296) : (Lit.int .u32 (id : Int)).wf = true := by
  simp [Lit.wf, IntKind.min, IntKind.max, IntKind.signed, IntKind.bits]
  omega
theorem u64_lit {id : Nat} (h : id < 18446744073709551616) : (Lit.int .u64 (id : Int)).wf = true := by
  simp [Lit.wf, IntKind.min, IntKind.max, IntKind.signed, IntKind.bits]
  omega
theorem set_step {D : DataW Unit} {ids : List Nat} {id : Nat} (hm : Maps.IsMap D) (h : ∀ j : Nat, Maps.has D (.int .u32 (j : Int)) = ids.contains j) (j : Nat) : Maps.has (D.put (.int .u32 (id : Int)) (.agg [])) (.int .u32 (j : Int)) = (ids ++ [id]).contains j := by
  by_cases hj : j = id
  · subst hj
    rw [Maps.has_put_same hm (keyLit _ _)]
    simp
  · rw [Maps.has_put_other (by simp; omega), h j]
    simp [hj]
section
variable {F : Fence} {nF : Nat} {ops : Array Oper} {rest : List Oper} {o : Oper} {a : Act} {Q : Exit → Act → World → Prop}
/-- 'v, ok := m[k]' of a set, within a fence. -/
theorem set_lookIn (w : World) (hg : o.guard = none) (m x : Operand) (t : TypeId) (hop : o.op = Op.lookup t m x true) (e : TypeId) (ht : Tryz.prog.underlying t = some (.map 38 e)) (hz : (zeroValue e).run Tryz.prog w = .ok (.agg #[]) w) (b : Nat) (ids : List Nat) (h : SetAt w b ids)
    (hm : a.eval m = .map (some b)) (id : Nat) (hid : id < 4294967296) (hx : a.eval x = .int .u32 (id : Int))
    (hK : wpListIn F nF Tryz.prog ops Q rest (a.put o.dst (.tuple #[.agg #[], .bool (ids.contains id)])) w) : wpListIn F nF Tryz.prog ops Q (o :: rest) a w := by
  obtain ⟨D, h1, h2, h3⟩ := h
  refine wpListIn_lookup_own_unit w hg m x t hop 38 e (Maps.int_keyed Tryz.underlying38) ht hz b _ D hm h1 _ _ hx (Maps.keyOf_int_mk Tryz.underlying38 (u32_lit hid)) ?_
  rw [h3 id]
  exact hK
/-- 'm[k] = struct{}{}' of a set, within a fence. -/
theorem set_putIn (w : World) (hg : o.guard = none) (m x v : Operand) (t : TypeId) (hop : o.op = Op.mapUpdate t m x v) (e : TypeId) (ht : Tryz.prog.underlying t = some (.map 38 e)) (b : Nat) (ids : List Nat) (h : SetAt w b ids) (hn : ids.length ≤ 1000000)
    (hm : a.eval m = .map (some b)) (id : Nat) (hid : id < 4294967296) (hx : a.eval x = .int .u32 (id : Int)) (hv : a.eval v = .agg #[])
    (hK : ∀ w', SetAt w' b (ids ++ [id]) → w.grownBy w' (some b) → wpListIn F nF Tryz.prog ops Q rest (a.put o.dst undef) w') : wpListIn F nF Tryz.prog ops Q (o :: rest) a w := by
  obtain ⟨D, h1, h2, h3⟩ := h
  refine wpListIn_mapUpdate_own w hg m x v t hop 38 e (Maps.int_keyed Tryz.underlying38) ht unitElem b _ D hm h1 (by unfold maxLen; omega) _ _ _ hx hv (Maps.keyOf_int_mk Tryz.underlying38 (u32_lit hid)) (.agg []) [] unitElem_mk ?_
  intro w' h4 h5
  refine hK w' ⟨_, ?_, isMap_put h2 _ _, set_step h2 h3⟩ h5
  rw [List.length_append]
  exact h4
end
end Go.Proofs.YtdmnflncgmnghaaGreat
