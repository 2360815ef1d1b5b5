/-
  Maps as lists of entries, whatever program holds them (the head of the text of layer 9, apart since round 12).
-/
import Derived.Test.YtdgiellnklcioaaBk
import Derived.Maps.OwnIn
import Derived.Maps.OwnSet
import Derived.Maps.Views
import Derived.Maps.RangeWalk
import Derived.WalkKit
import Derived.Laws.LoneSync
import Derived.RangeFuncNested
import Derived.RangeFuncBound
import Derived.RangeFuncCalls
import Derived.RangeFuncLeaves
import Derived.Shelf.Abstract
import Derived.Shelf.RegionOpen
import Derived.OwnWalkIn
import Derived.TacticsInMore
import Derived.LoopNIn
import Derived.LoopIn
import Derived.Maps.AppendAt
import Derived.Sort.MapsRangeIn
import Derived.Deep.DeepCutAuto
import Derived.Lib.Hide
namespace Go.Proofs.Ytdgiellnklcioaa
open Go.RowKit Go.Maps Go.Shelf

/-- An element as it stands. -/
def rawElem (v : Value) : Option (DataW Value × List MemPlace) := some (.held v, [])
def heldE (E : List (Lit × Value)) : List (Lit × DataW Value) := E.map fun p => (p.1, .held p.2)
/-- Block b is a map of these entries, in whatever order, its keys of type k. -/
structure MapE (w : World) (P : Program) (k : TypeId) (b : Nat) (E : List (Lit × Value)) : Prop where
  owns : ∃ es, w.ownsMap P k rawElem b E.length (.map es) ∧ es.Perm (heldE E)
  apart : E.Pairwise fun p q => p.1 ≠ q.1
  keys : ∀ p ∈ E, WideAt.IsKeyLit p.1
def dropE (E : List (Lit × Value)) (kl : Lit) : List (Lit × Value) := E.filter fun p => !p.1.sameKey kl
def putE (E : List (Lit × Value)) (kl : Lit) (v : Value) : List (Lit × Value) := dropE E kl ++ [(kl, v)]
theorem heldE_len (E : List (Lit × Value)) : (heldE E).length = E.length := by simp [heldE]
theorem heldE_drop (E : List (Lit × Value)) (kl : Lit) : heldE (dropE E kl) = (heldE E).filter fun p => !p.1.sameKey kl := by
  unfold heldE dropE
  rw [List.filter_map]
  rfl
theorem heldE_apart {E : List (Lit × Value)} (h : E.Pairwise fun p q => p.1 ≠ q.1) : (heldE E).Pairwise fun p q => p.1 ≠ q.1 := by
  unfold heldE
  rw [List.pairwise_map]
  exact h
theorem perm_apart {α : Type} {l m : List (Lit × α)} (hp : l.Perm m) (h : m.Pairwise fun p q => p.1 ≠ q.1) : l.Pairwise fun p q => p.1 ≠ q.1 :=
  (hp.pairwise_iff (fun h e => h e.symm)).2 h
theorem insert_perm (x : Lit × DataW Value) : ∀ l, (DataW.insert x l).Perm (x :: l) := by
  intro l
  induction l with
  | nil => exact List.Perm.refl _
  | cons y r ih =>
    unfold DataW.insert
    split
    · exact List.Perm.refl _
    · exact (ih.cons y).trans (List.Perm.swap x y r)
theorem owns_exact {w : World} {P : Program} {k b n : Nat} {es : List (Lit × DataW Value)} (h : w.ownsMap P k rawElem b n (.map es)) : w.ownsMap P k rawElem b es.length (.map es) := by
  obtain ⟨m, c, hb, F, hs, hD⟩ := h
  refine ⟨m, c, hb, F, ?_, hD⟩
  cases hD
  rw [length_sorted]
  simp
section
variable {w w' : World} {P : Program} {k b : Nat} {E : List (Lit × Value)} {es : List (Lit × DataW Value)} {kl : Lit} {v : Value}
theorem held_mem (hp : es.Perm (heldE E)) {p : Lit × DataW Value} : p ∈ es ↔ ∃ q ∈ E, p = (q.1, .held q.2) := by
  rw [hp.mem_iff]
  unfold heldE
  rw [List.mem_map]
  exact ⟨fun ⟨q, h, e⟩ => ⟨q, h, e.symm⟩, fun ⟨q, h, e⟩ => ⟨q, h, e.symm⟩⟩
theorem held_at (hp : es.Perm (heldE E)) (ha : E.Pairwise fun p q => p.1 ≠ q.1) (hk : WideAt.IsKeyLit kl) (hv : (kl, v) ∈ E) (z : DataW Value) : (DataW.map es).atKey kl z = .held v :=
  WideAt.atKey_mem z hk (perm_apart hp (heldE_apart ha)) ((held_mem hp).2 ⟨_, hv, rfl⟩)
theorem held_has (hp : es.Perm (heldE E)) (hk : WideAt.IsKeyLit kl) (hv : (kl, v) ∈ E) : has (DataW.map es) kl = true := by
  rw [has_eq, List.any_eq_true]
  exact ⟨_, (held_mem hp).2 ⟨_, hv, rfl⟩, WideAt.sameKey_self hk⟩
theorem held_hasnt (hp : es.Perm (heldE E)) (hn : ∀ p ∈ E, p.1 ≠ kl) : has (DataW.map es) kl = false := by
  rw [has_eq, List.any_eq_false]
  intro p hp'
  obtain ⟨q, hq, rfl⟩ := (held_mem hp).1 hp'
  rw [sameKey_ne (hn q hq)]
  simp
theorem MapE.made (w : World) (P : Program) (k : TypeId) : MapE (w.alloc (.map #[] 0)) P k w.heap.size [] := ⟨⟨[], World.ownsMap_made w P k _, List.Perm.nil⟩, List.Pairwise.nil, by simp⟩
theorem MapE.lt (h : MapE w P k b E) : b < w.heap.size := by
  obtain ⟨⟨es, h1, _⟩, _⟩ := h
  exact h1.lt
theorem MapE.obj (h : MapE w P k b E) : ∃ es c, w.heap[b]? = some (.map es c) := by
  obtain ⟨⟨_, ⟨es, c, hh, _⟩, _⟩, _⟩ := h
  exact ⟨es, c, hh⟩
theorem MapE.far (h : MapE w P k b E) (hb : w'.heap[b]? = w.heap[b]?) : MapE w' P k b E := by
  obtain ⟨⟨D, ⟨es, c, hh, hf, hs, hD⟩, h2⟩, h3, h4⟩ := h
  exact ⟨⟨D, ⟨es, c, hb.trans hh, hf, hs, hD⟩, h2⟩, h3, h4⟩
theorem MapE.kept {F : List Nat} (h : MapE w P k b E) (hk : Kept F w w') (hF : b ∉ F) : MapE w' P k b E := h.far (hk.block b h.lt hF)
theorem MapE.on (h : MapE w P k b E) (hb : Below w.heap.size w w') : MapE w' P k b E := h.far (hb.block b h.lt)
theorem MapE.drew (h : MapE w P k b E) : MapE w.drew P k b E := h.far rfl
theorem MapE.perm {E' : List (Lit × Value)} (h : MapE w P k b E) (hp : E.Perm E') : MapE w P k b E' := by
  obtain ⟨⟨es, h1, h2⟩, h3, h4⟩ := h
  refine ⟨⟨es, by rw [← hp.length_eq]; exact h1, h2.trans (hp.map _)⟩, perm_apart hp.symm h3, fun p hp' => h4 p (hp.mem_iff.2 hp')⟩
theorem MapE.ne_blk {g : Nat} {t : TypeId} {cs : List Value} (h : MapE w P k b E) (hg : Blk w g t cs) : b ≠ g := by
  rintro rfl
  obtain ⟨es, c, hh⟩ := h.obj
  unfold Blk at hg
  rw [hh] at hg
  cases hg
theorem kept_turned (hg : w.mapTurned w' b) : Kept [b] w w' := (Kept.refl [b] w).grown hg.grown (fun k e => .inl (by cases e; simp))
theorem kept_grown (hg : w.grownBy w' (some b)) : Kept [b] w w' := (Kept.refl [b] w).grown hg (fun k e => .inl (by cases e; simp))
theorem putE_apart (h : E.Pairwise fun p q => p.1 ≠ q.1) (hk : WideAt.IsKeyLit kl) : (putE E kl v).Pairwise fun p q => p.1 ≠ q.1 := by
  unfold putE
  refine List.pairwise_append.2 ⟨h.filter _, by simp, fun p hp q hq => ?_⟩
  rw [List.mem_singleton.1 hq]
  intro e
  have h1 := (List.mem_filter.1 hp).2
  simp only at e
  rw [e, WideAt.sameKey_self hk] at h1
  cases h1
theorem MapE.put (h : MapE w P k b E) (hk : WideAt.IsKeyLit kl) {n : Nat} (h' : w'.ownsMap P k rawElem b n ((DataW.map es).put kl (.held v))) (hp : es.Perm (heldE E)) : MapE w' P k b (putE E kl v) := by
  have h1 : w'.ownsMap P k rawElem b n (.map (DataW.insert (kl, .held v) (es.filter fun p => !p.1.sameKey kl))) := h'
  have hP : (DataW.insert (kl, .held v) (es.filter fun p => !p.1.sameKey kl)).Perm (heldE (putE E kl v)) := by
    refine (insert_perm _ _).trans (((hp.filter _).cons _).trans ?_)
    rw [← heldE_drop]
    unfold putE
    have e : heldE (dropE E kl ++ [(kl, v)]) = heldE (dropE E kl) ++ [(kl, .held v)] := by simp [heldE]
    rw [e]
    exact (List.perm_append_singleton _ _).symm
  refine ⟨⟨_, ?_, hP⟩, putE_apart h.apart hk, fun p hp' => ?_⟩
  · have h2 := owns_exact h1
    rw [hP.length_eq, heldE_len] at h2
    exact h2
  · rcases List.mem_append.1 hp' with h2 | h2
    · exact h.keys p (List.mem_filter.1 h2).1
    · rw [List.mem_singleton.1 h2]
      exact hk
theorem MapE.drop (h : MapE w P k b E) {n : Nat} (h' : w'.ownsMap P k rawElem b n ((DataW.map es).del kl)) (hp : es.Perm (heldE E)) : MapE w' P k b (dropE E kl) := by
  have h1 : w'.ownsMap P k rawElem b n (.map (es.filter fun p => !p.1.sameKey kl)) := h'
  have hP : (es.filter fun p => !p.1.sameKey kl).Perm (heldE (dropE E kl)) := by
    rw [heldE_drop]
    exact hp.filter _
  refine ⟨⟨_, ?_, hP⟩, h.apart.filter _, fun p hp' => h.keys p (List.mem_filter.1 hp').1⟩
  have h2 := owns_exact h1
  rw [hP.length_eq, heldE_len] at h2
  exact h2
end
section
variable {P : Program} (w : World) {ops : Array Oper} {rest : List Oper} {o : Oper} {a : Act} {Q : Exit → Act → World → Prop}
/-- 'v, ok := m[k]', the key is there. -/
theorem map_ok_found (hg : o.guard = none) (m x : Operand) (t : TypeId) (hop : o.op = Op.lookup t m x true) (k e : TypeId) (K : Keyed P k) (ht : P.underlying t = some (.map k e)) {z : Value} (hz : (zeroValue e).run P w = .ok z w) (b : Nat) (E : List (Lit × Value))
    (hm : a.eval m = .map (some b)) (h : MapE w P k b E) (key : Value) (kl : Lit) (hx : a.eval x = key) (hkey : keyOf P k key = some kl) (hk : WideAt.IsKeyLit kl) (v : Value) (hv : (kl, v) ∈ E)
    (hK : wpList P ops Q rest (a.put o.dst (.tuple #[v, .bool true])) w) : wpList P ops Q (o :: rest) a w := by
  obtain ⟨⟨es, h1, h2⟩, h3, h4⟩ := h
  refine wpList_lookup_own_ok w hg m x t hop k e K ht rawElem hz (.held z) [] rfl b _ _ hm h1 key kl hx hkey ?_
  intro v' ps hv'
  rw [held_at h2 h3 hk hv] at hv'
  cases hv'
  rw [held_has h2 hk hv]
  exact hK
/-- .. it isn't. -/
theorem map_ok_none (hg : o.guard = none) (m x : Operand) (t : TypeId) (hop : o.op = Op.lookup t m x true) (k e : TypeId) (K : Keyed P k) (ht : P.underlying t = some (.map k e)) {z : Value} (hz : (zeroValue e).run P w = .ok z w) (b : Nat) (E : List (Lit × Value))
    (hm : a.eval m = .map (some b)) (h : MapE w P k b E) (key : Value) (kl : Lit) (hx : a.eval x = key) (hkey : keyOf P k key = some kl) (hn : ∀ p ∈ E, p.1 ≠ kl)
    (hK : wpList P ops Q rest (a.put o.dst (.tuple #[z, .bool false])) w) : wpList P ops Q (o :: rest) a w := by
  obtain ⟨⟨es, h1, h2⟩, h3, h4⟩ := h
  refine wpList_lookup_own_ok w hg m x t hop k e K ht rawElem hz (.held z) [] rfl b _ _ hm h1 key kl hx hkey ?_
  intro v' ps hv'
  rw [atKey_of_not_has (held_hasnt h2 hn)] at hv'
  cases hv'
  rw [held_hasnt h2 hn]
  exact hK
/-- 'm[k]', the key is there. -/
theorem map_found (hg : o.guard = none) (m x : Operand) (t : TypeId) (hop : o.op = Op.lookup t m x false) (k e : TypeId) (K : Keyed P k) (ht : P.underlying t = some (.map k e)) {z : Value} (hz : (zeroValue e).run P w = .ok z w) (b : Nat) (E : List (Lit × Value))
    (hm : a.eval m = .map (some b)) (h : MapE w P k b E) (key : Value) (kl : Lit) (hx : a.eval x = key) (hkey : keyOf P k key = some kl) (hk : WideAt.IsKeyLit kl) (v : Value) (hv : (kl, v) ∈ E)
    (hK : wpList P ops Q rest (a.put o.dst v) w) : wpList P ops Q (o :: rest) a w := by
  obtain ⟨⟨es, h1, h2⟩, h3, h4⟩ := h
  refine wpList_plain hg fun K' hK' => ?_
  obtain ⟨v', ps, hrun, hv'⟩ := h1.lookup K ht hz (show rawElem z = some (.held z, []) from rfl) hkey
  rw [held_at h2 h3 hk hv] at hv'
  cases hv'
  unfold Oper.wp
  simp [execOp, hop, hm, hx, hrun, Result.andThen]
  exact hK' _ _ hK
/-- .. it isn't. -/
theorem map_none (hg : o.guard = none) (m x : Operand) (t : TypeId) (hop : o.op = Op.lookup t m x false) (k e : TypeId) (K : Keyed P k) (ht : P.underlying t = some (.map k e)) {z : Value} (hz : (zeroValue e).run P w = .ok z w) (b : Nat) (E : List (Lit × Value))
    (hm : a.eval m = .map (some b)) (h : MapE w P k b E) (key : Value) (kl : Lit) (hx : a.eval x = key) (hkey : keyOf P k key = some kl) (hn : ∀ p ∈ E, p.1 ≠ kl)
    (hK : wpList P ops Q rest (a.put o.dst z) w) : wpList P ops Q (o :: rest) a w := by
  obtain ⟨⟨es, h1, h2⟩, h3, h4⟩ := h
  refine wpList_plain hg fun K' hK' => ?_
  obtain ⟨v', ps, hrun, hv'⟩ := h1.lookup K ht hz (show rawElem z = some (.held z, []) from rfl) hkey
  rw [atKey_of_not_has (held_hasnt h2 hn)] at hv'
  cases hv'
  unfold Oper.wp
  simp [execOp, hop, hm, hx, hrun, Result.andThen]
  exact hK' _ _ hK
/-- 'm[k] = v'. -/
theorem map_put (hg : o.guard = none) (m x y : Operand) (t : TypeId) (hop : o.op = Op.mapUpdate t m x y) (k e : TypeId) (K : Keyed P k) (ht : P.underlying t = some (.map k e)) (b : Nat) (E : List (Lit × Value)) (hl : E.length ≤ 1000000)
    (hm : a.eval m = .map (some b)) (h : MapE w P k b E) (key v : Value) (kl : Lit) (hx : a.eval x = key) (hy : a.eval y = v) (hkey : keyOf P k key = some kl) (hk : WideAt.IsKeyLit kl)
    (hK : ∀ w', MapE w' P k b (putE E kl v) → Kept [b] w w' → wpList P ops Q rest (a.put o.dst undef) w') : wpList P ops Q (o :: rest) a w := by
  have h0 := h
  obtain ⟨⟨es, h1, h2⟩, h3, h4⟩ := h
  refine wpList_mapUpdate_own w hg m x y t hop k e K ht rawElem b _ _ hm h1 (by unfold maxLen; omega) key v kl hx hy hkey (.held v) [] rfl ?_
  intro w' h5 h6
  exact hK w' (h0.put hk h5 h2) (kept_grown h6)
/-- 'delete(m, k)'. -/
theorem map_del (hg : o.guard = none) (m x : Operand) (t k : TypeId) (hop : o.op = Op.call { callee := Callee.builtin Builtin.delete, args := #[m, x], argTypes := #[t, k] }) (e : TypeId) (K : Keyed P k) (ht : P.underlying t = some (.map k e)) (b : Nat) (E : List (Lit × Value))
    (hm : a.eval m = .map (some b)) (h : MapE w P k b E) (key : Value) (kl : Lit) (hx : a.eval x = key) (hkey : keyOf P k key = some kl)
    (hK : ∀ w', MapE w' P k b (dropE E kl) → Kept [b] w w' → wpList P ops Q rest (a.put o.dst (.tuple #[])) w') : wpList P ops Q (o :: rest) a w := by
  have h0 := h
  obtain ⟨⟨es, h1, h2⟩, h3, h4⟩ := h
  refine wpList_delete_own w hg m x t k hop e K ht rawElem b _ _ hm h1 key kl hx hkey ?_
  intro w' h5 h6
  exact hK w' (h0.drop h5 h2) (kept_turned h6)
/-- 'len(m)'. -/
theorem map_len (hg : o.guard = none) (m : Operand) (t : TypeId) (hop : o.op = Op.call { callee := Callee.builtin Builtin.len, args := #[m], argTypes := #[t] }) (k e : TypeId) (ht : P.underlying t = some (.map k e)) (b : Nat) (E : List (Lit × Value)) (n : Nat) (hn : E.length = n)
    (hm : a.eval m = .map (some b)) (h : MapE w P k b E) (hK : wpList P ops Q rest (a.put o.dst (.int .i64 (n : Int))) w) : wpList P ops Q (o :: rest) a w := by
  obtain ⟨⟨es, h1, h2⟩, h3, h4⟩ := h
  refine wpList_len_own w hg m t hop k e ht rawElem b _ _ hm h1 ?_
  rw [show Maps.size (DataW.map es) = n from by rw [size_eq, h2.length_eq, heldE_len, hn]]
  exact hK
end

end Go.Proofs.Ytdgiellnklcioaa
