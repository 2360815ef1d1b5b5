/-
  The program's collection: maps as lists of entries, counters, the keys of a map in order; what is held; hold, release, sweep, now.
-/
import Derived.Test.YtdmnflncgmnghaaGreatBk
import Derived.Maps.OwnIn
import Derived.Maps.OwnSet
import Derived.Maps.Views
import Derived.Maps.RangeWalk
import Derived.Test.YtdmnflncgmnghaaGreatProg
import Derived.WalkKit
import Derived.Laws.LoneSync
import Derived.RangeFuncNested
import Derived.RangeFuncBound
import Derived.RangeFuncCalls
import Derived.RangeFuncLeaves
import Derived.Shelf.Abstract
import Derived.Shelf.RegionOpen
import Derived.OwnWalkIn
import Derived.TacticsInMore
import Derived.LoopNIn
import Derived.LoopIn
import Derived.Maps.AppendAt
import Derived.Sort.MapsRangeIn
import Derived.Test.YtdmnflncgmnghaaGreatDs
import Derived.Test.YtdmnflncgmnghaaGreatPr
import Derived.Deep.DeepCutAuto
import Derived.Lib.Hide
import Derived.Test.YtdmnflncgmnghaaGreatCw
import Derived.Test.YtdmnflncgmnghaaGreatJp
namespace Go.Proofs.YtdmnflncgmnghaaGreat
open Go.RowKit Go.Maps Go.Shelf

/-- An element as it stands. -/
def rawElem (v : Value) : Option (DataW Value × List MemPlace) := some (.held v, [])
def heldE (E : List (Lit × Value)) : List (Lit × DataW Value) := E.map fun p => (p.1, .held p.2)
/-- Block b is a map of these entries, in whatever order, its keys of type k. -/
structure MapE (w : World) (P : Program) (k : TypeId) (b : Nat) (E : List (Lit × Value)) : Prop where
  owns : ∃ es, w.ownsMap P k rawElem b E.length (.map es) ∧ es.Perm (heldE E)
  apart : E.Pairwise fun p q => p.1 ≠ q.1
  keys : ∀ p ∈ E, WideAt.IsKeyLit p.1
def dropE (E : List (Lit × Value)) (kl : Lit) : List (Lit × Value) := E.filter fun p => !p.1.sameKey kl
def putE (E : List (Lit × Value)) (kl : Lit) (v : Value) : List (Lit × Value) := dropE E kl ++ [(kl, v)]
theorem heldE_len (E : List (Lit × Value)) : (heldE E).length = E.length := by simp [heldE]
theorem heldE_drop (E : List (Lit × Value)) (kl : Lit) : heldE (dropE E kl) = (heldE E).filter fun p => !p.1.sameKey kl := by
  unfold heldE dropE
  rw [List.filter_map]
  rfl
theorem heldE_apart {E : List (Lit × Value)} (h : E.Pairwise fun p q => p.1 ≠ q.1) : (heldE E).Pairwise fun p q => p.1 ≠ q.1 := by
  unfold heldE
  rw [List.pairwise_map]
  exact h
theorem perm_apart {α : Type} {l m : List (Lit × α)} (hp : l.Perm m) (h : m.Pairwise fun p q => p.1 ≠ q.1) : l.Pairwise fun p q => p.1 ≠ q.1 :=
  (hp.pairwise_iff (fun h e => h e.symm)).2 h
theorem insert_perm (x : Lit × DataW Value) : ∀ l, (DataW.insert x l).Perm (x :: l) := by
  intro l
  induction l with
  | nil => exact List.Perm.refl _
  | cons y r ih =>
    unfold DataW.insert
    split
    · exact List.Perm.refl _
    · exact (ih.cons y).trans (List.Perm.swap x y r)
theorem owns_exact {w : World} {P : Program} {k b n : Nat} {es : List (Lit × DataW Value)} (h : w.ownsMap P k rawElem b n (.map es)) : w.ownsMap P k rawElem b es.length (.map es) := by
  obtain ⟨m, c, hb, F, hs, hD⟩ := h
  refine ⟨m, c, hb, F, ?_, hD⟩
  cases hD
  rw [length_sorted]
  simp
section
variable {w w' : World} {P : Program} {k b : Nat} {E : List (Lit × Value)} {es : List (Lit × DataW Value)} {kl : Lit} {v : Value}
theorem held_mem (hp : es.Perm (heldE E)) {p : Lit × DataW Value} : p ∈ es ↔ ∃ q ∈ E, p = (q.1, .held q.2) := by
  rw [hp.mem_iff]
  unfold heldE
  rw [List.mem_map]
  exact ⟨fun ⟨q, h, e⟩ => ⟨q, h, e.symm⟩, fun ⟨q, h, e⟩ => ⟨q, h, e.symm⟩⟩
theorem held_at (hp : es.Perm (heldE E)) (ha : E.Pairwise fun p q => p.1 ≠ q.1) (hk : WideAt.IsKeyLit kl) (hv : (kl, v) ∈ E) (z : DataW Value) : (DataW.map es).atKey kl z = .held v :=
  WideAt.atKey_mem z hk (perm_apart hp (heldE_apart ha)) ((held_mem hp).2 ⟨_, hv, rfl⟩)
theorem held_has (hp : es.Perm (heldE E)) (hk : WideAt.IsKeyLit kl) (hv : (kl, v) ∈ E) : has (DataW.map es) kl = true := by
  rw [has_eq, List.any_eq_true]
  exact ⟨_, (held_mem hp).2 ⟨_, hv, rfl⟩, WideAt.sameKey_self hk⟩
theorem held_hasnt (hp : es.Perm (heldE E)) (hn : ∀ p ∈ E, p.1 ≠ kl) : has (DataW.map es) kl = false := by
  rw [has_eq, List.any_eq_false]
  intro p hp'
  obtain ⟨q, hq, rfl⟩ := (held_mem hp).1 hp'
  rw [sameKey_ne (hn q hq)]
  simp
theorem MapE.made (w : World) (P : Program) (k : TypeId) : MapE (w.alloc (.map #[] 0)) P k w.heap.size [] := ⟨⟨[], World.ownsMap_made w P k _, List.Perm.nil⟩, List.Pairwise.nil, by simp⟩
theorem MapE.lt (h : MapE w P k b E) : b < w.heap.size := by
  obtain ⟨⟨es, h1, _⟩, _⟩ := h
  exact h1.lt
theorem MapE.obj (h : MapE w P k b E) : ∃ es c, w.heap[b]? = some (.map es c) := by
  obtain ⟨⟨_, ⟨es, c, hh, _⟩, _⟩, _⟩ := h
  exact ⟨es, c, hh⟩
theorem MapE.far (h : MapE w P k b E) (hb : w'.heap[b]? = w.heap[b]?) : MapE w' P k b E := by
  obtain ⟨⟨D, ⟨es, c, hh, hf, hs, hD⟩, h2⟩, h3, h4⟩ := h
  exact ⟨⟨D, ⟨es, c, hb.trans hh, hf, hs, hD⟩, h2⟩, h3, h4⟩
theorem MapE.kept {F : List Nat} (h : MapE w P k b E) (hk : Kept F w w') (hF : b ∉ F) : MapE w' P k b E := h.far (hk.block b h.lt hF)
theorem MapE.on (h : MapE w P k b E) (hb : Below w.heap.size w w') : MapE w' P k b E := h.far (hb.block b h.lt)
theorem MapE.drew (h : MapE w P k b E) : MapE w.drew P k b E := h.far rfl
theorem MapE.perm {E' : List (Lit × Value)} (h : MapE w P k b E) (hp : E.Perm E') : MapE w P k b E' := by
  obtain ⟨⟨es, h1, h2⟩, h3, h4⟩ := h
  refine ⟨⟨es, by rw [← hp.length_eq]; exact h1, h2.trans (hp.map _)⟩, perm_apart hp.symm h3, fun p hp' => h4 p (hp.mem_iff.2 hp')⟩
theorem MapE.ne_blk {g : Nat} {t : TypeId} {cs : List Value} (h : MapE w P k b E) (hg : Blk w g t cs) : b ≠ g := by
  rintro rfl
  obtain ⟨es, c, hh⟩ := h.obj
  unfold Blk at hg
  rw [hh] at hg
  cases hg
theorem kept_turned (hg : w.mapTurned w' b) : Kept [b] w w' := (Kept.refl [b] w).grown hg.grown (fun k e => .inl (by cases e; simp))
theorem kept_grown (hg : w.grownBy w' (some b)) : Kept [b] w w' := (Kept.refl [b] w).grown hg (fun k e => .inl (by cases e; simp))
theorem putE_apart (h : E.Pairwise fun p q => p.1 ≠ q.1) (hk : WideAt.IsKeyLit kl) : (putE E kl v).Pairwise fun p q => p.1 ≠ q.1 := by
  unfold putE
  refine List.pairwise_append.2 ⟨h.filter _, by simp, fun p hp q hq => ?_⟩
  rw [List.mem_singleton.1 hq]
  intro e
  have h1 := (List.mem_filter.1 hp).2
  simp only at e
  rw [e, WideAt.sameKey_self hk] at h1
  cases h1
theorem MapE.put (h : MapE w P k b E) (hk : WideAt.IsKeyLit kl) {n : Nat} (h' : w'.ownsMap P k rawElem b n ((DataW.map es).put kl (.held v))) (hp : es.Perm (heldE E)) : MapE w' P k b (putE E kl v) := by
  have h1 : w'.ownsMap P k rawElem b n (.map (DataW.insert (kl, .held v) (es.filter fun p => !p.1.sameKey kl))) := h'
  have hP : (DataW.insert (kl, .held v) (es.filter fun p => !p.1.sameKey kl)).Perm (heldE (putE E kl v)) := by
    refine (insert_perm _ _).trans (((hp.filter _).cons _).trans ?_)
    rw [← heldE_drop]
    unfold putE
    have e : heldE (dropE E kl ++ [(kl, v)]) = heldE (dropE E kl) ++ [(kl, .held v)] := by simp [heldE]
    rw [e]
    exact (List.perm_append_singleton _ _).symm
  refine ⟨⟨_, ?_, hP⟩, putE_apart h.apart hk, fun p hp' => ?_⟩
  · have h2 := owns_exact h1
    rw [hP.length_eq, heldE_len] at h2
    exact h2
  · rcases List.mem_append.1 hp' with h2 | h2
    · exact h.keys p (List.mem_filter.1 h2).1
    · rw [List.mem_singleton.1 h2]
      exact hk
theorem MapE.drop (h : MapE w P k b E) {n : Nat} (h' : w'.ownsMap P k rawElem b n ((DataW.map es).del kl)) (hp : es.Perm (heldE E)) : MapE w' P k b (dropE E kl) := by
  have h1 : w'.ownsMap P k rawElem b n (.map (es.filter fun p => !p.1.sameKey kl)) := h'
  have hP : (es.filter fun p => !p.1.sameKey kl).Perm (heldE (dropE E kl)) := by
    rw [heldE_drop]
    exact hp.filter _
  refine ⟨⟨_, ?_, hP⟩, h.apart.filter _, fun p hp' => h.keys p (List.mem_filter.1 hp').1⟩
  have h2 := owns_exact h1
  rw [hP.length_eq, heldE_len] at h2
  exact h2
end
section
variable {P : Program} (w : World) {ops : Array Oper} {rest : List Oper} {o : Oper} {a : Act} {Q : Exit → Act → World → Prop}
/-- 'v, ok := m[k]', the key is there. -/
theorem map_ok_found (hg : o.guard = none) (m x : Operand) (t : TypeId) (hop : o.op = Op.lookup t m x true) (k e : TypeId) (K : Keyed P k) (ht : P.underlying t = some (.map k e)) {z : Value} (hz : (zeroValue e).run P w = .ok z w) (b : Nat) (E : List (Lit × Value))
    (hm : a.eval m = .map (some b)) (h : MapE w P k b E) (key : Value) (kl : Lit) (hx : a.eval x = key) (hkey : keyOf P k key = some kl) (hk : WideAt.IsKeyLit kl) (v : Value) (hv : (kl, v) ∈ E)
    (hK : wpList P ops Q rest (a.put o.dst (.tuple #[v, .bool true])) w) : wpList P ops Q (o :: rest) a w := by
  obtain ⟨⟨es, h1, h2⟩, h3, h4⟩ := h
  refine wpList_lookup_own_ok w hg m x t hop k e K ht rawElem hz (.held z) [] rfl b _ _ hm h1 key kl hx hkey ?_
  intro v' ps hv'
  rw [held_at h2 h3 hk hv] at hv'
  cases hv'
  rw [held_has h2 hk hv]
  exact hK
/-- .. it isn't. -/
theorem map_ok_none (hg : o.guard = none) (m x : Operand) (t : TypeId) (hop : o.op = Op.lookup t m x true) (k e : TypeId) (K : Keyed P k) (ht : P.underlying t = some (.map k e)) {z : Value} (hz : (zeroValue e).run P w = .ok z w) (b : Nat) (E : List (Lit × Value))
    (hm : a.eval m = .map (some b)) (h : MapE w P k b E) (key : Value) (kl : Lit) (hx : a.eval x = key) (hkey : keyOf P k key = some kl) (hn : ∀ p ∈ E, p.1 ≠ kl)
    (hK : wpList P ops Q rest (a.put o.dst (.tuple #[z, .bool false])) w) : wpList P ops Q (o :: rest) a w := by
  obtain ⟨⟨es, h1, h2⟩, h3, h4⟩ := h
  refine wpList_lookup_own_ok w hg m x t hop k e K ht rawElem hz (.held z) [] rfl b _ _ hm h1 key kl hx hkey ?_
  intro v' ps hv'
  rw [atKey_of_not_has (held_hasnt h2 hn)] at hv'
  cases hv'
  rw [held_hasnt h2 hn]
  exact hK
/-- 'm[k]', the key is there. -/
theorem map_found (hg : o.guard = none) (m x : Operand) (t : TypeId) (hop : o.op = Op.lookup t m x false) (k e : TypeId) (K : Keyed P k) (ht : P.underlying t = some (.map k e)) {z : Value} (hz : (zeroValue e).run P w = .ok z w) (b : Nat) (E : List (Lit × Value))
    (hm : a.eval m = .map (some b)) (h : MapE w P k b E) (key : Value) (kl : Lit) (hx : a.eval x = key) (hkey : keyOf P k key = some kl) (hk : WideAt.IsKeyLit kl) (v : Value) (hv : (kl, v) ∈ E)
    (hK : wpList P ops Q rest (a.put o.dst v) w) : wpList P ops Q (o :: rest) a w := by
  obtain ⟨⟨es, h1, h2⟩, h3, h4⟩ := h
  refine wpList_plain hg fun K' hK' => ?_
  obtain ⟨v', ps, hrun, hv'⟩ := h1.lookup K ht hz (show rawElem z = some (.held z, []) from rfl) hkey
  rw [held_at h2 h3 hk hv] at hv'
  cases hv'
  unfold Oper.wp
  simp [execOp, hop, hm, hx, hrun, Result.andThen]
  exact hK' _ _ hK
/-- .. it isn't. -/
theorem map_none (hg : o.guard = none) (m x : Operand) (t : TypeId) (hop : o.op = Op.lookup t m x false) (k e : TypeId) (K : Keyed P k) (ht : P.underlying t = some (.map k e)) {z : Value} (hz : (zeroValue e).run P w = .ok z w) (b : Nat) (E : List (Lit × Value))
    (hm : a.eval m = .map (some b)) (h : MapE w P k b E) (key : Value) (kl : Lit) (hx : a.eval x = key) (hkey : keyOf P k key = some kl) (hn : ∀ p ∈ E, p.1 ≠ kl)
    (hK : wpList P ops Q rest (a.put o.dst z) w) : wpList P ops Q (o :: rest) a w := by
  obtain ⟨⟨es, h1, h2⟩, h3, h4⟩ := h
  refine wpList_plain hg fun K' hK' => ?_
  obtain ⟨v', ps, hrun, hv'⟩ := h1.lookup K ht hz (show rawElem z = some (.held z, []) from rfl) hkey
  rw [atKey_of_not_has (held_hasnt h2 hn)] at hv'
  cases hv'
  unfold Oper.wp
  simp [execOp, hop, hm, hx, hrun, Result.andThen]
  exact hK' _ _ hK
/-- 'm[k] = v'. -/
theorem map_put (hg : o.guard = none) (m x y : Operand) (t : TypeId) (hop : o.op = Op.mapUpdate t m x y) (k e : TypeId) (K : Keyed P k) (ht : P.underlying t = some (.map k e)) (b : Nat) (E : List (Lit × Value)) (hl : E.length ≤ 1000000)
    (hm : a.eval m = .map (some b)) (h : MapE w P k b E) (key v : Value) (kl : Lit) (hx : a.eval x = key) (hy : a.eval y = v) (hkey : keyOf P k key = some kl) (hk : WideAt.IsKeyLit kl)
    (hK : ∀ w', MapE w' P k b (putE E kl v) → Kept [b] w w' → wpList P ops Q rest (a.put o.dst undef) w') : wpList P ops Q (o :: rest) a w := by
  have h0 := h
  obtain ⟨⟨es, h1, h2⟩, h3, h4⟩ := h
  refine wpList_mapUpdate_own w hg m x y t hop k e K ht rawElem b _ _ hm h1 (by unfold maxLen; omega) key v kl hx hy hkey (.held v) [] rfl ?_
  intro w' h5 h6
  exact hK w' (h0.put hk h5 h2) (kept_grown h6)
/-- 'delete(m, k)'. -/
theorem map_del (hg : o.guard = none) (m x : Operand) (t k : TypeId) (hop : o.op = Op.call { callee := Callee.builtin Builtin.delete, args := #[m, x], argTypes := #[t, k] }) (e : TypeId) (K : Keyed P k) (ht : P.underlying t = some (.map k e)) (b : Nat) (E : List (Lit × Value))
    (hm : a.eval m = .map (some b)) (h : MapE w P k b E) (key : Value) (kl : Lit) (hx : a.eval x = key) (hkey : keyOf P k key = some kl)
    (hK : ∀ w', MapE w' P k b (dropE E kl) → Kept [b] w w' → wpList P ops Q rest (a.put o.dst (.tuple #[])) w') : wpList P ops Q (o :: rest) a w := by
  have h0 := h
  obtain ⟨⟨es, h1, h2⟩, h3, h4⟩ := h
  refine wpList_delete_own w hg m x t k hop e K ht rawElem b _ _ hm h1 key kl hx hkey ?_
  intro w' h5 h6
  exact hK w' (h0.drop h5 h2) (kept_turned h6)
/-- 'len(m)'. -/
theorem map_len (hg : o.guard = none) (m : Operand) (t : TypeId) (hop : o.op = Op.call { callee := Callee.builtin Builtin.len, args := #[m], argTypes := #[t] }) (k e : TypeId) (ht : P.underlying t = some (.map k e)) (b : Nat) (E : List (Lit × Value)) (n : Nat) (hn : E.length = n)
    (hm : a.eval m = .map (some b)) (h : MapE w P k b E) (hK : wpList P ops Q rest (a.put o.dst (.int .i64 (n : Int))) w) : wpList P ops Q (o :: rest) a w := by
  obtain ⟨⟨es, h1, h2⟩, h3, h4⟩ := h
  refine wpList_len_own w hg m t hop k e ht rawElem b _ _ hm h1 ?_
  rw [show Maps.size (DataW.map es) = n from by rw [size_eq, h2.length_eq, heldE_len, hn]]
  exact hK
end

set_option maxRecDepth 100000 in
set_option maxHeartbeats 1600000 in
theorem load_u64 (w : World) (g off : Nat) (x : Int) (h : w.cell? ⟨g, off, none⟩ = some (.int .u64 x)) :
    Calls Tryz.prog 39 #[.pointer (some ⟨g, off, none⟩)] w fun e w' => e = .returned (.int .u64 x) ∧ w' = w := by
  have hl := run_call_load (P := Tryz.prog) Tryz.func64 (by kernel_rfl) (by kernel_rfl) (by kernel_rfl) .u64 (by kernel_rfl) h
  go_enter Tryz.func39, Tryz.ntmps39
  go_wp2
  go_ret
  exact ⟨rfl, rfl⟩
set_option maxRecDepth 100000 in
set_option maxHeartbeats 1600000 in
theorem add_u64 (w : World) (g off : Nat) (x d y : Int) (h : w.cell? ⟨g, off, none⟩ = some (.int .u64 x)) (hf : w.frozen? ⟨g, off, none⟩ = false) (hy : x + d = y) (h0 : 0 ≤ y) (h1 : y ≤ 1000000000000) :
    Calls Tryz.prog 48 #[.pointer (some ⟨g, off, none⟩), .int .u64 d] w fun e w' => e = .returned (.int .u64 y) ∧ w' = w.setCell ⟨g, off, none⟩ (.int .u64 y) := by
  have hw : IntKind.u64.wrap (x + d) = y := by rw [IntKind.wrap_u64]; omega
  have hl := run_call_add (P := Tryz.prog) Tryz.func74 (by kernel_rfl) (by kernel_rfl) (by kernel_rfl) .u64 (by kernel_rfl) (y := d) (s := y) h hf (by rw [← hw]; simp [Op.intArith])
  clear hw
  go_enter Tryz.func48, Tryz.ntmps48
  go_wp2
  go_ret
  exact ⟨rfl, rfl⟩
set_option maxRecDepth 100000 in
set_option maxHeartbeats 1600000 in
theorem add_i64 (w : World) (g off : Nat) (x d y : Int) (h : w.cell? ⟨g, off, none⟩ = some (.int .i64 x)) (hf : w.frozen? ⟨g, off, none⟩ = false) (hy : x + d = y) (h0 : -1 ≤ y) (h1 : y ≤ 1000000000000) :
    Calls Tryz.prog 75 #[.pointer (some ⟨g, off, none⟩), .int .i64 d] w fun e w' => e = .returned (.int .i64 y) ∧ w' = w.setCell ⟨g, off, none⟩ (.int .i64 y) := by
  have hw : IntKind.i64.wrap (x + d) = y := by rw [IntKind.wrap_i64]; omega
  have hl := run_call_add (P := Tryz.prog) Tryz.func95 (by kernel_rfl) (by kernel_rfl) (by kernel_rfl) .i64 (by kernel_rfl) (y := d) (s := y) h hf (by rw [← hw]; simp [Op.intArith])
  clear hw
  go_enter Tryz.func75, Tryz.ntmps75
  go_wp2
  go_ret
  exact ⟨rfl, rfl⟩

attribute [local go_sem] Oper.semAt_some

def key64 (x : Nat) : Lit := .int .u64 (x : Int)
theorem key64_inj : ∀ a b : Nat, key64 a = key64 b → a = b := (fun a b h => by have h2 := (Lit.int.inj h).2; omega)
theorem key64_lit (x : Nat) : WideAt.IsKeyLit (key64 x) := by trivial
/-- Those that have come. -/
def Come64 (vs : List (Nat)) (left : Lit → Bool) (ss : List (Nat)) : Prop := ss.Nodup ∧ ∀ x, x ∈ ss ↔ x ∈ vs ∧ left (key64 x) = false
theorem come64_step {vs ss : List (Nat)} {left : Lit → Bool} {x : Nat} (h : Come64 vs left ss) (hx : x ∈ vs) (hl : left (key64 x) = true) : Come64 vs (fun z => left z && !z.sameKey (key64 x)) (ss ++ [x]) := by
  refine ⟨List.nodup_append.2 ⟨h.1, by simp, fun a ha b hb => ?_⟩, fun y => ?_⟩
  · rw [List.mem_singleton.1 hb]
    rintro rfl
    have := ((h.2 a).1 ha).2
    rw [hl] at this
    cases this
  · rw [List.mem_append, List.mem_singleton, h.2 y]
    by_cases hyx : y = x
    · subst hyx
      simp [hx, WideAt.sameKey_self (key64_lit y)]
    · have hne : key64 y ≠ key64 x := fun e => hyx (key64_inj _ _ e)
      simp [hyx, sameKey_ne hne]
theorem come64_all {vs ss : List (Nat)} {left : Lit → Bool} (h : Come64 vs left ss) (hv : vs.Nodup) (hl : ∀ kl, left kl = false) : ss.Perm vs :=
  (List.perm_ext_iff_of_nodup h.1 hv).2 fun x => by rw [h.2 x, hl]; simp
theorem vs64_nodup {E : List (Lit × Value)} {vs : List (Nat)} (ha : E.Pairwise fun p q => p.1 ≠ q.1) (hE : E.map (·.1) = vs.map key64) : vs.Nodup := by
  have h1 : (E.map (·.1)).Pairwise (· ≠ ·) := by
    rw [List.pairwise_map]
    exact ha
  rw [hE, List.pairwise_map] at h1
  exact h1.imp fun h e => h (by rw [e])
theorem has64 {E : List (Lit × Value)} {es : List (Lit × DataW Value)} {vs : List (Nat)} (hp : es.Perm (heldE E)) (hE : E.map (·.1) = vs.map key64) (x : Nat) : Maps.has (DataW.map es) (key64 x) = true ↔ x ∈ vs := by
  constructor
  · intro h
    rw [has_eq, List.any_eq_true] at h
    obtain ⟨p, hp1, hp2⟩ := h
    obtain ⟨q, hq, rfl⟩ := (held_mem hp).1 hp1
    have h1 : q.1 = key64 x := WideAt.sameKey_eq hp2
    have h2 : q.1 ∈ E.map (·.1) := List.mem_map.2 ⟨q, hq, rfl⟩
    rw [hE] at h2
    obtain ⟨y, hy, e⟩ := List.mem_map.1 h2
    have := key64_inj _ _ (e.trans h1)
    subst this
    exact hy
  · intro h
    have h2 : key64 x ∈ vs.map key64 := List.mem_map.2 ⟨x, h, rfl⟩
    rw [← hE] at h2
    obtain ⟨q, hq, e⟩ := List.mem_map.1 h2
    refine held_has (v := q.2) hp (key64_lit x) ?_
    rw [← e]
    exact hq

set_option maxRecDepth 100000 in
set_option maxHeartbeats 3200000 in
theorem keys164 (n : Nat) (hn : 1 ≤ n) (l Bm b : Nat) (E : List (Lit × Value)) (vs : List (Nat)) (hE : E.map (·.1) = vs.map key64) (J Jx : List (Nat) → World → Prop)
    (hY : ∀ (pre : List (Nat)) (x : Nat) (W : World), J pre W → pre.length < vs.length → YieldAt Fence.wide (n - 1) Tryz.prog l #[.int .u64 (x : Int)] W fun e W' =>
      (e = .returned (.bool true) ∧ J (pre ++ [x]) W' ∧ KeepsWalks W W') ∨ (e = .returned (.bool false) ∧ Jx (pre ++ [x]) W'))
    (W : World) (hJ : AbidesFrom W.heap.size J) (hm : W.cell? ⟨Bm, 0, none⟩ = some (.map (some b))) (hM : MapE W Tryz.prog 27 b E) (h0 : J [] W) :
    CallsIn Fence.wide n Tryz.prog 107 #[.func (.yield l) #[] #[], .pointer (some ⟨Bm, 0, none⟩)] W fun e W' => (∃ v, e = .returned v) ∧ ((∃ ss, ss.Perm vs ∧ J ss W') ∨ (∃ pre, True ∧ Jx pre W')) := by
  obtain ⟨⟨es, hown, hp⟩, ha, -⟩ := hM
  have hlen : Maps.size (DataW.map es) = vs.length := by
    have h1 := congrArg List.length hE
    rw [List.length_map, List.length_map] at h1
    rw [size_eq, hp.length_eq, heldE_len, h1]
  have HN := Lib.hid (vs64_nodup ha hE)
  have HAS := Lib.hid (has64 hp hE)
  obtain ⟨D, hD⟩ : ∃ D, DataW.map es = D := ⟨_, rfl⟩
  rw [hD] at hown hlen HAS
  clear hE ha hp hD
  refine callsIn_of_wp Tryz.func107 rfl trivial ?_ rfl
  simp only [Tryz.ntmps107, List.size_toArray, List.length_cons, List.length_nil, Nat.reduceAdd, Nat.reduceSub, Array.replicate_succ, Array.replicate_zero, List.push_toArray, List.append_toArray, List.nil_append, List.cons_append]
  gi_wp2_with (first
    | (gi_at_range; refine wpListIn_range_own _ rfl _ 103 rfl 27 148 (Maps.int_keyed Tryz.underlying27) Tryz.underlying103 rawElem b _ _ rfl hown ?_; intro w0 hrg0 hg0 hs0)
    | gi_in)
  go_frame
  gi_loopw [3] (fun _ wr => ∃ (left : Lit → Bool) (cnt : Nat) (ss : List (Nat)), wr.ranges Tryz.prog 27 rawElem b W.heap.size E.length D left cnt ∧ ss.length + cnt ≤ vs.length ∧ Come64 vs left ss ∧ J ss wr)
    (fun _ wr => wr.rangeLeft b W.heap.size)
  case atStart =>
    refine ⟨_, _, [], hrg0, by simp [hlen], ⟨List.Pairwise.nil, fun x => ?_⟩, hJ [] W w0 none h0 hg0 (fun r e => by cases e)⟩
    constructor
    · intro h
      cases h
    · rintro ⟨h1, h2⟩
      rw [(HAS.out x).2 h1] at h2
      cases h2
  case round =>
    obtain ⟨left, cnt, ss, hrg, hcs, hC, hJs⟩ := hrel
    gi_wp2_with (first
      | (gi_at_next; refine wpListIn_next_ranges (α := Nat) (β := Value) _ rfl _ rfl 27 (Maps.int_keyed Tryz.underlying27) rawElem (fun x => .int .u64 (x : Int)) id (fun key kl hk => by
        obtain ⟨z, rfl, rfl, hw⟩ := Maps.keyOf_int_inv Tryz.underlying27 hk
        have h1 : (0 : Int) ≤ z := by
          simp [Lit.wf, IntKind.min, IntKind.max, IntKind.signed, IntKind.bits] at hw
          exact hw.1
        exact ⟨z.toNat, by rw [Int.toNat_of_nonneg h1]⟩) (fun v _ _ => ⟨v, rfl⟩) b W.heap.size _ _ _ _ rfl hrg ?_ ?_)
      | gi_in)
    · intro hc0 hl0
      gi_wp2
      go_end0
      exact ⟨⟨_, rfl⟩, .inl ⟨ss, come64_all hC HN.out hl0, hJs⟩⟩
    · intro x c kl yd yp w2 cnt2 hkey hlk hv hat hrg2 hlt hg2 hs2 hen
      have hkl : kl = .int .u64 (x : Int) := by
        obtain ⟨z, e1, e2, _⟩ := Maps.keyOf_int_inv Tryz.underlying27 hkey
        cases e1
        exact e2
      subst hkl
      have hxv : x ∈ vs := (HAS.out x).1 (Maps.has_true_of_atKey hat)
      have hC2 := come64_step hC hxv hlk
      have hJ2 : J ss w2 := hJ ss wr w2 (some W.heap.size) hJs hg2 (fun r e => by cases e; exact ⟨Nat.le_refl _, hrg.iter_walk⟩)
      obtain ⟨fn, tmps, assign, body, hy, hR⟩ := hY ss x w2 hJ2 (by omega)
      clear hs2 hat hv hkey
      gi_wp2
      refine hR.mono ?_
      rintro e W3 (⟨rfl, hJ3, hk3⟩ | ⟨rfl, hJx3⟩)
      · gi_wp2
        have hrg3 := hrg2.of_walks hk3
        go_roundw
        case rel => exact ⟨_, cnt2, ss ++ [x], hrg3, by simp; omega, hC2, hJ3⟩
        case measure => rw [hrg3.left_eq, hrg.left_eq]; exact hlt
      · gi_wp2
        refine bodyPost_ret (results_none rfl _ _ _) rfl ?_
        exact ⟨⟨_, rfl⟩, .inr ⟨ss ++ [x], trivial, hJx3⟩⟩
theorem keys_stops64 (n : Nat) (hn : 1 ≤ n) (Bm b : Nat) (E : List (Lit × Value)) (vs : List (Nat)) (hE : E.map (·.1) = vs.map key64) (w : World) (hBm : Bm < w.heap.size) (hm : w.cell? ⟨Bm, 0, none⟩ = some (.map (some b))) (hM : MapE w Tryz.prog 27 b E) :
    SeqStopsK Fence.wide n Tryz.prog 107 #[.pointer (some ⟨Bm, 0, none⟩)] (fun x : Nat => #[.int .u64 (x : Int)]) KeepsWalks (fun ss => ss.Perm vs) (fun _ => True) vs.length w := fun l J Jx W hW hJ _ hY h0 =>
  keys164 n hn l Bm b E vs hE J Jx hY W hJ ((hW.cell (p := ⟨Bm, 0, none⟩) hBm).trans hm) (hM.on hW) h0
set_option maxHeartbeats 1600000 in
/-- maps.Keys: the map is boxed; the function value captures the box. -/
theorem keys_in64 (n b : Nat) (w : World) : CallsIn Fence.wide n Tryz.prog 83 #[.map (some b)] w fun e w' => e = .returned (.func (.func 107) #[] #[.pointer (some ⟨w.heap.size, 0, none⟩)]) ∧ w' = w.alloc (.cells #[.map (some b)] 103) := by
  refine callsIn_of_wp Tryz.func83 rfl trivial ?_ rfl
  simp only [Tryz.ntmps83, List.size_toArray, List.length_cons, List.length_nil, Nat.reduceAdd, Nat.reduceSub, Array.replicate_succ, Array.replicate_zero, List.push_toArray, List.append_toArray, List.nil_append, List.cons_append]
  gi_wp2
  go_ret
  exact ⟨rfl, rfl⟩
theorem info_k64 : (Tryz.prog.info? 27).map (fun i => (i.zero, i.size, i.bytes)) = some (some (.int .u64 0), 1, 8) := by kernel_rfl
set_option maxRecDepth 100000 in
set_option maxHeartbeats 6400000 in
/-- slices.AppendSeq to nil, of whatever comes. -/
theorem appendSeq64 (n : Nat) (hn : 2 ≤ n) (gf : Nat) (lb : Array Value) (hFg : Fence.wide.fn gf) (eg : ∀ args w, (callFunc gf args).run Tryz.prog w = .ok (.enter gf args) w) (S Sp : List (Nat) → Prop) (N : Nat) (hN : N ≤ 1000000) (w : World)
    (hseq : SeqStopsK Fence.wide (n - 1) Tryz.prog gf lb (fun x : Nat => #[.int .u64 (x : Int)]) KeepsWalks S Sp N w) :
    CallsIn Fence.wide n Tryz.prog 135 #[.slice none 0 0, .func (.func gf) #[] lb] w fun e w' => ∃ (v : Value) (ss : List (Nat)), e = .returned v ∧ S ss ∧ w'.ownsRow w.heap.size 27 1 v ss.length (ss.map fun x : Nat => .int .u64 (x : Int)) ∧ Below w.heap.size w w' := by
  have h1 : 1 ≤ n := by omega
  refine callsIn_of_wp_marks Tryz.func135 rfl trivial ?_ rfl
  simp only [Tryz.ntmps135, List.size_toArray, List.length_cons, List.length_nil, Nat.reduceAdd, Nat.reduceSub, Array.replicate_succ, Array.replicate_zero, List.push_toArray, List.append_toArray, List.nil_append, List.cons_append]
  gi_wp2
  obtain ⟨i0, hi, hz0, hz1, hz2⟩ := info_parts info_k64
  refine wpIn_rangeFunc_ownF rfl h1 (gf := gf) (lb := lb) rfl hFg eg hseq walksK_t (fun W l o o' h => walksK_b (w := w) W l o o' (by simp at h; omega)) ((Below.refl _ w).alloc (Nat.le_refl _) _) (fun _ => rfl)
    (fun pre W => (∃ v, Boxed W w.heap.size 47 v ∧ W.ownsRow w.heap.size 27 1 v pre.length (pre.map fun x : Nat => .int .u64 (x : Int)) ∧ True) ∧ Below w.heap.size w W)
    (fun _ _ _ => False)
    (OwnFrom.and (Own.from (holdsRow_own w.heap.size w.heap.size 47 27 1 (fun pre : List (Nat) => pre.length) (fun pre => pre.map fun x : Nat => .int .u64 (x : Int)) (fun _ _ => True)) _) (ownFrom_below (Nat.le_refl _) (by simp)))
    (fun _ _ _ _ _ hs _ _ => hs)
    ⟨⟨.slice none 0 0, Boxed.new w _ _, ⟨rfl, .inl ⟨rfl, rfl⟩⟩, trivial⟩, (Below.refl _ w).alloc (Nat.le_refl _) _⟩
    (fun x => { tmps := #[.slice none 0 0, .func (.func gf) #[] lb, .pointer (some ⟨w.heap.size, 0, none⟩), undef, .slice none 0 0, .int .u64 (x : Int), .func (.func gf) #[] lb, .int .u64 (x : Int), undef, undef, undef, undef, undef], defers := [] }) ?assign ?body ?done ?stop
  case assign =>
    intro l x W K hK
    gi_wp2
    exact hK
  case body =>
    rintro l pre x W ⟨⟨v, hv, hrow, -⟩, hB⟩ hlt
    have hc := hv.cell
    have hf := hv.frozen
    have hBs := hB.size
    gi_wp2_with (first
      | (gi_at_builtin; refine wpListIn_append_own _ rfl _ _ 47 rfl w.heap.size 27 i0 (.int .u64 0) 1 8 Tryz.underlying47 hi hz0 hz1 hz2 rfl (by decide) _ _ _ rfl (hrow.alloc _) ⟨W.heap.size, 0, none⟩ 1 1 [.int .u64 (x : Int)] rfl rfl (cell_one_new _ _ _) (by simp [Value.oneCell']) (by unfold maxLen; omega) (by omega) (by simp; omega) ?_; intro v' w1 hown' hgrow _; obtain ⟨g', cap', rfl⟩ := ownsRow_succ hown'; obtain ⟨hv1, hv2, hr2, hk2, hb2⟩ := hv.appended (by decide) hrow hBs (Nat.le_refl _) hown' hgrow; have hc1 := hv1.cell; have hf1 := hv1.frozen)
      | gi_in)
    exact ⟨hk2, ⟨hk2.size, fun k o hk ho => hk2.same k o hk (by cases o <;> first | rfl | cases ho)⟩, ⟨_, hv2, by simpa using hr2, trivial⟩, hB.trans hb2⟩
  case done =>
    rintro D ss W hD hS ⟨⟨v, hv, hrow, -⟩, hB⟩ hK
    have hc := hv.cell
    gi_wp2
    refine ⟨by simp, .inl ⟨_, _, rfl, run_takeDeferred hK, ?_⟩⟩
    exact ⟨_, results_tmp rfl _ _ _, v, ss, rfl, hS, ownsRow_putObj hrow _ hK rfl, hB.trans (belowK_b (w := w) (Nat.le_refl _) W D _ _ (by simp at hD; omega) hK rfl rfl)⟩
  case stop =>
    rintro D c pre W _ _ h _
    exact h.elim
set_option maxHeartbeats 1600000 in
/-- slices.Collect, of whatever comes. -/
theorem collect64 (n : Nat) (hn : 3 ≤ n) (gf : Nat) (lb : Array Value) (hFg : Fence.wide.fn gf) (eg : ∀ args w, (callFunc gf args).run Tryz.prog w = .ok (.enter gf args) w) (S Sp : List (Nat) → Prop) (N : Nat) (hN : N ≤ 1000000) (w : World)
    (hseq : SeqStopsK Fence.wide (n - 1 - 1) Tryz.prog gf lb (fun x : Nat => #[.int .u64 (x : Int)]) KeepsWalks S Sp N w) :
    CallsIn Fence.wide n Tryz.prog 105 #[.func (.func gf) #[] lb] w fun e w' => ∃ (v : Value) (ss : List (Nat)), e = .returned v ∧ S ss ∧ w'.ownsRow w.heap.size 27 1 v ss.length (ss.map fun x : Nat => .int .u64 (x : Int)) ∧ Below w.heap.size w w' := by
  have h1 : 1 ≤ n := by omega
  refine callsIn_of_wp Tryz.func105 rfl trivial ?_ rfl
  simp only [Tryz.ntmps105, List.size_toArray, List.length_cons, List.length_nil, Nat.reduceAdd, Nat.reduceSub, Array.replicate_succ, Array.replicate_zero, List.push_toArray, List.append_toArray, List.nil_append, List.cons_append]
  gi_wp2_with (refine ⟨trivial, ?_⟩; gi_at_call 135; refine (appendSeq64 (n - 1) (by omega) gf lb hFg eg S Sp N hN _ hseq).mono ?_; rintro e w' ⟨v, ss, rfl, hS, hrow, hb⟩)
  go_ret
  exact ⟨v, ss, rfl, hS, hrow, hb⟩
/-- Both: the keys of a map. -/
theorem collect_keys64 (b Bm : Nat) (E : List (Lit × Value)) (vs : List (Nat)) (hE : E.map (·.1) = vs.map key64) (hl : vs.length ≤ 1000000) (w : World) (hBm : Bm < w.heap.size) (hm : w.cell? ⟨Bm, 0, none⟩ = some (.map (some b))) (hM : MapE w Tryz.prog 27 b E) :
    Calls Tryz.prog 105 #[.func (.func 107) #[] #[.pointer (some ⟨Bm, 0, none⟩)]] w fun e w' => ∃ (v : Value) (ss : List (Nat)), e = .returned v ∧ ss.Perm vs ∧ w'.ownsRow w.heap.size 27 1 v ss.length (ss.map fun x : Nat => .int .u64 (x : Int)) ∧ Below w.heap.size w w' :=
  callsIn_wide.1 (collect64 5 (by omega) 107 #[.pointer (some ⟨Bm, 0, none⟩)] trivial (enters_of Tryz.func107 (by kernel_rfl) rfl) _ _ _ hl w (keys_stops64 3 (by omega) Bm b E vs hE w hBm hm hM))
theorem keys_any64 (b : Nat) (w : World) : Calls Tryz.prog 83 #[.map (some b)] w fun e w' => e = .returned (.func (.func 107) #[] #[.pointer (some ⟨w.heap.size, 0, none⟩)]) ∧ w' = w.alloc (.cells #[.map (some b)] 103) :=
  callsIn_wide.1 (keys_in64 5 b w)

theorem enc_zs (ss : List Nat) : (ss.map fun x : Nat => Value.int .u64 (x : Int)) = (zsOf ss).map (Value.int .u64) := by
  unfold zsOf
  rw [List.map_map]
  rfl
set_option maxRecDepth 100000 in
set_option maxHeartbeats 3200000 in
theorem sorted_keys64 (b Bm : Nat) (E : List (Lit × Value)) (vs : List Nat) (hE : E.map (·.1) = vs.map key64) (hl : vs.length ≤ 100000) (h64 : ∀ x ∈ vs, x < 18446744073709551616) (w : World) (hBm : Bm < w.heap.size) (hm : w.cell? ⟨Bm, 0, none⟩ = some (.map (some b))) (hM : MapE w Tryz.prog 27 b E) :
    Calls Tryz.prog 82 #[.func (.func 107) #[] #[.pointer (some ⟨Bm, 0, none⟩)]] w fun e w' => ∃ (v : Value) (ss : List Nat), e = .returned v ∧ ss.Perm vs ∧ ss.Pairwise (· ≤ ·) ∧ VersAt w.heap.size w' v ss ∧ Below w.heap.size w w' := by
  have CK := Lib.hid (collect_keys64 b Bm E vs hE (by omega) w hBm hm hM)
  clear hM hE hm
  go_enter Tryz.func82, Tryz.ntmps82
  go_wp2_with (fail)
  refine CK.out.mono ?_
  rintro e w1 ⟨v, ss, rfl, hp, hrow, hb⟩
  rw [enc_zs] at hrow
  have hv := versAt_of hrow
  obtain ⟨va, vc, rfl, -⟩ := hv.form
  have hlen : ss.length ≤ 100000 := by rw [hp.length_eq]; exact hl
  have S := Lib.hid (sort_any64 w.heap.size w1 _ ss hv hlen (fun x hx => h64 x (hp.mem_iff.1 hx)))
  obtain ⟨vn, hvn⟩ : ∃ vn, ss.length = vn := ⟨_, rfl⟩
  have HP := Lib.hid hp
  have HB := Lib.hid hb
  have LOW := Lib.hid (fun (x : Nat) (hx : x ∈ ownB (.slice va ss.length vc)) => (RowC.lt hv x (mem_ownB.1 hx)).1)
  rw [hvn] at S LOW ⊢
  clear hv hrow hp hb hlen hvn
  go_wp2_with (fail)
  refine S.out.mono ?_
  rintro e w2 ⟨rfl, ys, hy1, hy2, hy3, hy4⟩
  go_wp2
  go_ret
  exact ⟨_, ys, rfl, hy1.trans HP.out, hy2, hy3, HB.out.trans (hy4.below LOW.out HB.out.size)⟩

def heldEnt (H : List (Nat × Nat)) : List (Lit × Value) := H.map fun p => (key64 p.1, .pointer (some ⟨p.2, 0, none⟩))
/-- The map gh holds, of each version in L (as often as it is pinned), its counter. -/
structure HeldIs (w : World) (lo gh N : Nat) (H : List (Nat × Nat)) (L : List Nat) : Prop where
  map : MapE w Tryz.prog 27 gh (heldEnt H)
  keys : ∀ v, v ∈ L ↔ ∃ b, (v, b) ∈ H
  cnt : ∀ v b, (v, b) ∈ H → Blk w b 150 [.int .i64 ((L.count v : Nat) : Int)]
  blks : H.Pairwise fun p q => p.2 ≠ q.2
  vers : ∀ v ∈ L, v < 18446744073709551616
  hH : H.length ≤ N
  hL : L.length ≤ N
  glo : lo ≤ gh
  low : ∀ p ∈ H, lo ≤ p.2
def heldFp (gh : Nat) (H : List (Nat × Nat)) : List Nat := gh :: H.map (·.2)
theorem mem_heldFp {gh x : Nat} {H : List (Nat × Nat)} : x ∈ heldFp gh H ↔ x = gh ∨ ∃ v, (v, x) ∈ H := by
  unfold heldFp
  rw [List.mem_cons, List.mem_map]
  constructor
  · rintro (h | ⟨p, hp, rfl⟩)
    · exact .inl h
    · exact .inr ⟨p.1, hp⟩
  · rintro (h | ⟨v, hv⟩)
    · exact .inl h
    · exact .inr ⟨_, hv, rfl⟩
theorem heldEnt_mem {H : List (Nat × Nat)} {p : Lit × Value} : p ∈ heldEnt H ↔ ∃ v b, (v, b) ∈ H ∧ p = (key64 v, .pointer (some ⟨b, 0, none⟩)) := by
  unfold heldEnt
  rw [List.mem_map]
  constructor
  · rintro ⟨q, hq, rfl⟩
    exact ⟨q.1, q.2, hq, rfl⟩
  · rintro ⟨v, b, h, rfl⟩
    exact ⟨_, h, rfl⟩
theorem heldEnt_none {H : List (Nat × Nat)} {L : List Nat} (hk : ∀ v, v ∈ L ↔ ∃ b, (v, b) ∈ H) {v : Nat} (hv : v ∉ L) : ∀ p ∈ heldEnt H, p.1 ≠ key64 v := by
  intro p hp e
  obtain ⟨u, b, hb, rfl⟩ := heldEnt_mem.1 hp
  have := key64_inj _ _ e
  subst this
  exact hv ((hk u).2 ⟨b, hb⟩)
theorem dropE_none {E : List (Lit × Value)} {kl : Lit} (h : ∀ p ∈ E, p.1 ≠ kl) : dropE E kl = E := by
  unfold dropE
  rw [List.filter_eq_self]
  intro p hp
  rw [sameKey_ne (h p hp)]
  rfl
theorem dropE_held (H : List (Nat × Nat)) (v : Nat) : dropE (heldEnt H) (key64 v) = heldEnt (H.filter fun p => decide (p.1 ≠ v)) := by
  unfold dropE heldEnt
  rw [List.filter_map]
  congr 1
  refine List.filter_congr fun p _ => ?_
  show (!(key64 p.1).sameKey (key64 v)) = _
  by_cases h : p.1 = v
  · rw [h, WideAt.sameKey_self (key64_lit v)]
    simp
  · rw [sameKey_ne (fun e => h (key64_inj _ _ e)), decide_eq_true h]
    rfl
section
variable {w w' : World} {lo gh N : Nat} {H : List (Nat × Nat)} {L F : List Nat}
theorem HeldIs.kept (h : HeldIs w lo gh N H L) (hk : Kept F w w') (hF : ∀ x ∈ F, x ∉ heldFp gh H) : HeldIs w' lo gh N H L where
  map := h.map.kept hk (fun hh => hF gh hh (mem_heldFp.2 (.inl rfl)))
  keys := h.keys
  cnt := fun v b hb => hk.blk (h.cnt v b hb) (fun hh => hF b hh (mem_heldFp.2 (.inr ⟨v, hb⟩)))
  blks := h.blks
  vers := h.vers
  hH := h.hH
  hL := h.hL
  glo := h.glo
  low := h.low
theorem HeldIs.lt (h : HeldIs w lo gh N H L) : ∀ x ∈ heldFp gh H, lo ≤ x ∧ x < w.heap.size := fun x hx => by
  rcases mem_heldFp.1 hx with rfl | ⟨v, hv⟩
  · exact ⟨h.glo, h.map.lt⟩
  · exact ⟨h.low _ hv, (h.cnt v x hv).lt⟩
theorem HeldIs.made (w : World) (lo N : Nat) (h : lo ≤ w.heap.size) : HeldIs (w.alloc (.map #[] 0)) lo w.heap.size N [] [] where
  map := MapE.made w _ _
  keys := fun v => by simp
  cnt := fun v b hb => by cases hb
  blks := List.Pairwise.nil
  vers := fun v hv => by cases hv
  hH := Nat.zero_le _
  hL := Nat.zero_le _
  glo := h
  low := fun p hp => by cases hp
theorem HeldIs.one (h : HeldIs w lo gh N H L) {v b b' : Nat} (h1 : (v, b) ∈ H) (h2 : (v, b') ∈ H) : b = b' := by
  have ha := h.map.apart
  unfold heldEnt at ha
  rw [List.pairwise_map] at ha
  by_cases e : (v, b) = (v, b')
  · cases e
    rfl
  · exact absurd rfl (List.Pairwise.forall_of_forall_of_flip (R := fun p q : Nat × Nat => p = q ∨ key64 p.1 ≠ key64 q.1) (fun _ _ => .inl rfl) (ha.imp .inr) (ha.imp fun h => .inr (fun e => h e.symm)) h1 h2 |>.resolve_left e)
/-- One counter more at a version that is held. -/
theorem HeldIs.more (h : HeldIs w lo gh N H L) {v b : Nat} (hb : (v, b) ∈ H) : HeldIs (w.setCell ⟨b, 0, none⟩ (.int .i64 ((L.count v : Nat) + 1 : Int))) lo gh (N + 1) H (v :: L) ∧ Kept (heldFp gh H) w (w.setCell ⟨b, 0, none⟩ (.int .i64 ((L.count v : Nat) + 1 : Int))) := by
  have hk : Kept [b] w (w.setCell ⟨b, 0, none⟩ (.int .i64 ((L.count v : Nat) + 1 : Int))) := (Kept.refl [b] w).setCell _ _ (.inl (by simp))
  have hvL : v ∈ L := (h.keys v).2 ⟨b, hb⟩
  have hne : gh ≠ b := h.map.ne_blk (h.cnt v b hb)
  refine ⟨⟨h.map.kept hk (by simpa using hne), fun u => ?_, fun u b' hb' => ?_, h.blks, fun u hu => ?_, Nat.le_succ_of_le h.hH, by simpa using Nat.succ_le_succ h.hL, h.glo, h.low⟩, hk.mono (fun x hx => mem_heldFp.2 (.inr ⟨v, by rw [List.mem_singleton.1 hx]; exact hb⟩))⟩
  · rw [List.mem_cons]
    constructor
    · rintro (rfl | hu)
      · exact ⟨b, hb⟩
      · exact (h.keys u).1 hu
    · intro hu
      exact .inr ((h.keys u).2 hu)
  · by_cases hbb : b' = b
    · subst hbb
      have hvu : u = v := by
        by_cases e : (u, b') = (v, b')
        · cases e
          rfl
        · exact absurd rfl (List.Pairwise.forall_of_forall_of_flip (R := fun p q : Nat × Nat => p = q ∨ p.2 ≠ q.2) (fun _ _ => .inl rfl) (h.blks.imp .inr) (h.blks.imp fun h => .inr (fun e => h e.symm)) hb' hb |>.resolve_left e)
      subst hvu
      have := (h.cnt u b' hb').set 0 (.int .i64 ((L.count u : Nat) + 1 : Int))
      simp only [List.set_cons_zero] at this
      rw [List.count_cons_self]
      exact this
    · have := hk.blk (h.cnt u b' hb') (by simpa using hbb)
      by_cases hvu : u = v
      · subst hvu
        exact absurd (h.one hb' hb) hbb
      · rw [List.count_cons_of_ne (fun e => hvu e.symm)]
        exact this
  · rcases List.mem_cons.1 hu with rfl | hu
    · exact h.vers _ hvL
    · exact h.vers _ hu
/-- The first counter of a version. -/
theorem HeldIs.first (h : HeldIs w lo gh N H L) {v b : Nat} {w1 w2 : World} (hv : v ∉ L) (hv64 : v < 18446744073709551616) (hlo : lo ≤ b) (hb : w.heap.size ≤ b) (h1 : Blk w1 b 150 [.int .i64 0]) (k1 : Kept [] w w1) (h2 : MapE w2 Tryz.prog 27 gh (putE (heldEnt H) (key64 v) (.pointer (some ⟨b, 0, none⟩)))) (k2 : Kept [gh] w1 w2) :
    HeldIs (w2.setCell ⟨b, 0, none⟩ (.int .i64 1)) lo gh (N + 1) (H ++ [(v, b)]) (v :: L) ∧ Kept (heldFp gh H) w (w2.setCell ⟨b, 0, none⟩ (.int .i64 1)) := by
  have hne : gh ≠ b := by
    have := h.map.lt
    omega
  have hb2 : Blk w2 b 150 [.int .i64 0] := k2.blk h1 (by simpa using fun e => hne e.symm)
  have hk : Kept [b] w2 (w2.setCell ⟨b, 0, none⟩ (.int .i64 1)) := (Kept.refl [b] w2).setCell _ _ (.inl (by simp))
  unfold putE at h2
  rw [dropE_none (heldEnt_none h.keys hv)] at h2
  have hold : ∀ u b', (u, b') ∈ H → Blk (w2.setCell ⟨b, 0, none⟩ (.int .i64 1)) b' 150 [.int .i64 ((L.count u : Nat) : Int)] := fun u b' hu => by
    have h3 := h.cnt u b' hu
    have h4 := h3.lt
    have h5 : gh ≠ b' := h.map.ne_blk h3
    refine hk.blk (k2.blk (k1.blk h3 (by simp)) (by simpa using fun e => h5 e.symm)) ?_
    rw [List.mem_singleton]
    omega
  refine ⟨⟨?_, fun u => ?_, fun u b' hu => ?_, ?_, fun u hu => ?_, by simp; exact h.hH, by simpa using Nat.succ_le_succ h.hL, h.glo, fun p hp => ?_⟩, ?_⟩
  · have e : heldEnt (H ++ [(v, b)]) = heldEnt H ++ [(key64 v, .pointer (some ⟨b, 0, none⟩))] := by simp [heldEnt]
    rw [e]
    exact h2.kept hk (by simpa using hne)
  · rw [List.mem_cons]
    constructor
    · rintro (rfl | hu)
      · exact ⟨b, by simp⟩
      · obtain ⟨b', hb'⟩ := (h.keys u).1 hu
        exact ⟨b', List.mem_append.2 (.inl hb')⟩
    · rintro ⟨b', hb'⟩
      rcases List.mem_append.1 hb' with hu | hu
      · exact .inr ((h.keys u).2 ⟨b', hu⟩)
      · simp only [List.mem_singleton, Prod.mk.injEq] at hu
        exact .inl hu.1
  · rcases List.mem_append.1 hu with hu | hu
    · have hvu : v ≠ u := by
        rintro rfl
        exact hv ((h.keys v).2 ⟨b', hu⟩)
      rw [List.count_cons_of_ne hvu]
      exact hold u b' hu
    · simp only [List.mem_singleton, Prod.mk.injEq] at hu
      obtain ⟨rfl, rfl⟩ := hu
      rw [List.count_cons_self, List.count_eq_zero_of_not_mem hv]
      have := hb2.set 0 (.int .i64 1)
      simpa using this
  · refine List.pairwise_append.2 ⟨h.blks, by simp, fun p hp q hq => ?_⟩
    rw [List.mem_singleton.1 hq]
    have := (h.cnt p.1 p.2 hp).lt
    simp only
    omega
  · rcases List.mem_cons.1 hu with rfl | hu
    · exact hv64
    · exact h.vers _ hu
  · rcases List.mem_append.1 hp with hp | hp
    · exact h.low p hp
    · rw [List.mem_singleton.1 hp]
      exact hlo
  · have e1 : Kept (heldFp gh H) w w1 := k1.mono (by simp)
    have e2 : Kept (heldFp gh H) w1 w2 := k2.mono (fun x hx => mem_heldFp.2 (.inl (List.mem_singleton.1 hx)))
    exact (e1.trans e2 (Grows.refl _ _)).setCell _ _ (.inr hb)
theorem count_erase {L : List Nat} {v u : Nat} : (L.erase v).count u = L.count u - (if u = v then 1 else 0) := by
  by_cases h : u = v
  · subst h
    rw [List.count_erase_self]
    simp
  · rw [List.count_erase_of_ne (fun e => h e), if_neg h]
    rfl
/-- One counter less at a version that is held more than once. -/
theorem HeldIs.less (h : HeldIs w lo gh N H L) {v b : Nat} (hb : (v, b) ∈ H) (h2 : 2 ≤ L.count v) : HeldIs (w.setCell ⟨b, 0, none⟩ (.int .i64 ((L.count v : Nat) - 1 : Int))) lo gh N H (L.erase v) ∧ Kept (heldFp gh H) w (w.setCell ⟨b, 0, none⟩ (.int .i64 ((L.count v : Nat) - 1 : Int))) := by
  have hk : Kept [b] w (w.setCell ⟨b, 0, none⟩ (.int .i64 ((L.count v : Nat) - 1 : Int))) := (Kept.refl [b] w).setCell _ _ (.inl (by simp))
  have hne : gh ≠ b := h.map.ne_blk (h.cnt v b hb)
  refine ⟨⟨h.map.kept hk (by simpa using hne), fun u => ?_, fun u b' hb' => ?_, h.blks, fun u hu => h.vers u (List.mem_of_mem_erase hu), h.hH, Nat.le_trans List.length_erase_le h.hL, h.glo, h.low⟩, hk.mono (fun x hx => mem_heldFp.2 (.inr ⟨v, by rw [List.mem_singleton.1 hx]; exact hb⟩))⟩
  · rw [← h.keys u, ← List.count_pos_iff, ← List.count_pos_iff, count_erase]
    by_cases hu : u = v
    · subst hu
      simp only [if_true]
      omega
    · simp only [if_neg hu]
      omega
  · by_cases hbb : b' = b
    · subst hbb
      have hvu : u = v := by
        by_cases e : (u, b') = (v, b')
        · cases e
          rfl
        · exact absurd rfl (List.Pairwise.forall_of_forall_of_flip (R := fun p q : Nat × Nat => p = q ∨ p.2 ≠ q.2) (fun _ _ => .inl rfl) (h.blks.imp .inr) (h.blks.imp fun h => .inr (fun e => h e.symm)) hb' hb |>.resolve_left e)
      subst hvu
      have h3 := (h.cnt u b' hb').set 0 (.int .i64 ((L.count u : Nat) - 1 : Int))
      simp only [List.set_cons_zero] at h3
      rw [count_erase, if_pos rfl, show (((L.count u - 1 : Nat)) : Int) = (L.count u : Int) - 1 by omega]
      exact h3
    · have h3 := hk.blk (h.cnt u b' hb') (by simpa using hbb)
      have hvu : u ≠ v := by
        rintro rfl
        exact hbb (h.one hb' hb)
      rw [count_erase, if_neg hvu]
      exact h3
/-- The last counter of a version goes. -/
theorem HeldIs.gone (h : HeldIs w lo gh N H L) {v b : Nat} {w2 : World} {u0 : Value} (hb : (v, b) ∈ H) (h1 : L.count v = 1) (h2 : MapE w2 Tryz.prog 27 gh (dropE (heldEnt H) (key64 v))) (k2 : Kept [gh] (w.setCell ⟨b, 0, none⟩ u0) w2) :
    HeldIs w2 lo gh N (H.filter fun p => decide (p.1 ≠ v)) (L.erase v) ∧ Kept (heldFp gh H) w w2 := by
  have hk : Kept [b] w (w.setCell ⟨b, 0, none⟩ u0) := (Kept.refl [b] w).setCell _ _ (.inl (by simp))
  have hbf : b ∈ heldFp gh H := mem_heldFp.2 (.inr ⟨v, hb⟩)
  rw [dropE_held] at h2
  have hmem : ∀ u b', (u, b') ∈ (H.filter fun p => decide (p.1 ≠ v)) ↔ (u, b') ∈ H ∧ u ≠ v := fun u b' => by rw [List.mem_filter, decide_eq_true_eq]
  refine ⟨⟨h2, fun u => ?_, fun u b' hb' => ?_, h.blks.filter _, fun u hu => h.vers u (List.mem_of_mem_erase hu), Nat.le_trans (List.length_filter_le _ _) h.hH, Nat.le_trans List.length_erase_le h.hL, h.glo, fun p hp => h.low p (List.mem_filter.1 hp).1⟩, ?_⟩
  · have e : u ∈ L.erase v ↔ u ∈ L ∧ u ≠ v := by
      rw [← List.count_pos_iff, ← List.count_pos_iff, count_erase]
      by_cases hu : u = v
      · subst hu
        simp only [if_true]
        omega
      · simp only [if_neg hu]
        simp [hu]
    rw [e, h.keys u]
    constructor
    · rintro ⟨⟨b', hb'⟩, hne⟩
      exact ⟨b', (hmem u b').2 ⟨hb', hne⟩⟩
    · rintro ⟨b', hb'⟩
      have := (hmem u b').1 hb'
      exact ⟨⟨b', this.1⟩, this.2⟩
  · obtain ⟨h3, hne⟩ := (hmem u b').1 hb'
    have h4 := h.cnt u b' h3
    have hbb : b' ≠ b := by
      rintro rfl
      by_cases e : (u, b') = (v, b')
      · exact hne (by cases e; rfl)
      · exact absurd rfl (List.Pairwise.forall_of_forall_of_flip (R := fun p q : Nat × Nat => p = q ∨ p.2 ≠ q.2) (fun _ _ => .inl rfl) (h.blks.imp .inr) (h.blks.imp fun h => .inr (fun e => h e.symm)) h3 hb |>.resolve_left e)
    rw [count_erase, if_neg hne]
    exact k2.blk (hk.blk h4 (by simpa using hbb)) (by simpa using fun e => h.map.ne_blk h4 e.symm)
  · exact (hk.mono (fun x hx => by rw [List.mem_singleton.1 hx]; exact hbf)).trans (k2.mono (fun x hx => mem_heldFp.2 (.inl (List.mem_singleton.1 hx)))) (Grows.refl _ _)
end

theorem u64_wfU {v : Nat} (h : v < 18446744073709551616) : (Lit.int .u64 (v : Int)).wf = true := by
  simp [Lit.wf, IntKind.min, IntKind.max, IntKind.signed, IntKind.bits]
  omega
section
variable {ops : Array Oper} {rest : List Oper} {o : Oper} {a : Act} {Q : Exit → Act → World → Prop}
theorem held_look (w : World) (hg : o.guard = none) (m x : Operand) (hop : o.op = Op.lookup 103 m x false) (gh : Nat) (E : List (Lit × Value)) (hm : a.eval m = .map (some gh)) (h : MapE w Tryz.prog 27 gh E) (v : Nat) (hv : v < 18446744073709551616) (hx : a.eval x = .int .u64 (v : Int)) (z : Value) (hz : (key64 v, z) ∈ E)
    (hK : wpList Tryz.prog ops Q rest (a.put o.dst z) w) : wpList Tryz.prog ops Q (o :: rest) a w :=
  map_found w hg m x _ hop 27 148 (Maps.int_keyed Tryz.underlying27) Tryz.underlying103 (Tryz.zeroValue148 w) gh E hm h _ (key64 v) hx (Maps.keyOf_int_mk Tryz.underlying27 (u64_wfU hv)) (key64_lit v) z hz hK
theorem held_none (w : World) (hg : o.guard = none) (m x : Operand) (hop : o.op = Op.lookup 103 m x false) (gh : Nat) (E : List (Lit × Value)) (hm : a.eval m = .map (some gh)) (h : MapE w Tryz.prog 27 gh E) (v : Nat) (hv : v < 18446744073709551616) (hx : a.eval x = .int .u64 (v : Int)) (hn : ∀ p ∈ E, p.1 ≠ key64 v)
    (hK : wpList Tryz.prog ops Q rest (a.put o.dst (.pointer none)) w) : wpList Tryz.prog ops Q (o :: rest) a w :=
  map_none w hg m x _ hop 27 148 (Maps.int_keyed Tryz.underlying27) Tryz.underlying103 (Tryz.zeroValue148 w) gh E hm h _ (key64 v) hx (Maps.keyOf_int_mk Tryz.underlying27 (u64_wfU hv)) hn hK
theorem held_put (w : World) (hg : o.guard = none) (m x y : Operand) (hop : o.op = Op.mapUpdate 103 m x y) (gh : Nat) (E : List (Lit × Value)) (hl : E.length ≤ 1000000) (hm : a.eval m = .map (some gh)) (h : MapE w Tryz.prog 27 gh E) (v : Nat) (hv : v < 18446744073709551616) (hx : a.eval x = .int .u64 (v : Int)) (z : Value) (hy : a.eval y = z)
    (hK : ∀ w', MapE w' Tryz.prog 27 gh (putE E (key64 v) z) → Kept [gh] w w' → wpList Tryz.prog ops Q rest (a.put o.dst undef) w') : wpList Tryz.prog ops Q (o :: rest) a w :=
  map_put w hg m x y _ hop 27 148 (Maps.int_keyed Tryz.underlying27) Tryz.underlying103 gh E hl hm h _ z (key64 v) hx hy (Maps.keyOf_int_mk Tryz.underlying27 (u64_wfU hv)) (key64_lit v) hK
theorem held_del (w : World) (hg : o.guard = none) (m x : Operand) (hop : o.op = Op.call { callee := Callee.builtin Builtin.delete, args := #[m, x], argTypes := #[103, 27] }) (gh : Nat) (E : List (Lit × Value)) (hm : a.eval m = .map (some gh)) (h : MapE w Tryz.prog 27 gh E) (v : Nat) (hv : v < 18446744073709551616) (hx : a.eval x = .int .u64 (v : Int))
    (hK : ∀ w', MapE w' Tryz.prog 27 gh (dropE E (key64 v)) → Kept [gh] w w' → wpList Tryz.prog ops Q rest (a.put o.dst (.tuple #[])) w') : wpList Tryz.prog ops Q (o :: rest) a w :=
  map_del w hg m x _ _ hop 148 (Maps.int_keyed Tryz.underlying27) Tryz.underlying103 gh E hm h _ (key64 v) hx (Maps.keyOf_int_mk Tryz.underlying27 (u64_wfU hv)) hK
end
theorem heldEnt_len (H : List (Nat × Nat)) : (heldEnt H).length = H.length := by simp [heldEnt]
theorem grows_same (w : World) (F : List Nat) : Grows w F F := Grows.refl _ _

set_option maxRecDepth 100000 in
set_option maxHeartbeats 3200000 in
theorem hold_any (w : World) (lo c gh N : Nat) (H : List (Nat × Nat)) (L : List Nat) (cs : List Value) (v : Nat) (hv : v < 18446744073709551616) (hN : N ≤ 100000) (hb : Blk w c 105 cs) (h7 : cs[7]? = some (.map (some gh))) (h : HeldIs w lo gh N H L) (hlo : lo ≤ w.heap.size) :
    Calls Tryz.prog 49 #[.pointer (some ⟨c, 0, none⟩), .int .u64 (v : Int)] w fun e w' => e = .returned (.tuple #[]) ∧ ∃ H', HeldIs w' lo gh (N + 1) H' (v :: L) ∧ Kept (heldFp gh H) w w' ∧ Grows w (heldFp gh H) (heldFp gh H') := by
  have c7 : w.cell? ⟨c, 7, none⟩ = some (.map (some gh)) := (hb.cell 7).trans h7
  have HM := Lib.hid h.map
  have hHl : (heldEnt H).length ≤ 1000000 := by
    rw [heldEnt_len]
    have := h.hH
    omega
  have HE := Lib.hid h
  by_cases hvL : v ∈ L
  · obtain ⟨b, hbH⟩ := (h.keys v).1 hvL
    have hmem : (key64 v, Value.pointer (some ⟨b, 0, none⟩)) ∈ heldEnt H := heldEnt_mem.2 ⟨v, b, hbH, rfl⟩
    have hc := (h.cnt v b hbH).cell 0
    have hf := (h.cnt v b hbH).frozen 0
    have hcl : L.count v ≤ 100000 := Nat.le_trans List.count_le_length (Nat.le_trans h.hL hN)
    have M := Lib.hid (h.more hbH)
    simp only [List.getElem?_cons_zero] at hc
    clear h hb h7
    go_enter Tryz.func49, Tryz.ntmps49
    go_wp2_with (first | (at_lookup; refine held_look _ rfl _ _ rfl gh _ rfl HM.out v hv rfl _ hmem ?_) | fail)
    refine (add_i64 w b 0 _ 1 ((L.count v : Nat) + 1 : Int) hc hf rfl (by omega) (by omega)).mono ?_
    rintro e w3 ⟨rfl, rfl⟩
    go_wp2
    go_end0
    exact ⟨rfl, H, M.out.1, M.out.2, Grows.refl _ _⟩
  · obtain ⟨w1, hw1⟩ : ∃ w1, w.alloc (.cells #[.int .i64 0] 150) = w1 := ⟨_, rfl⟩
    have hb1 : Below w.heap.size w w1 := by rw [← hw1]; exact (Below.refl _ _).alloc (Nat.le_refl _) _
    have X1 := Lib.hid (show Blk w1 w.heap.size 150 [.int .i64 0] from by rw [← hw1]; exact Blk.new _ _ _)
    have B1 := Lib.hid (hb.of_eq (w' := w1) (hb1.block c hb.lt))
    have c71 : w1.cell? ⟨c, 7, none⟩ = some (.map (some gh)) := (B1.out.cell 7).trans h7
    have HM1 := Lib.hid (h.map.on hb1)
    have hnone := heldEnt_none h.keys hvL
    have K1 := Lib.hid (Kept.of_below (F := []) hb1 (Nat.le_refl _))
    have hcg : gh ≠ c := h.map.ne_blk hb
    clear h
    go_enter Tryz.func49, Tryz.ntmps49
    go_wp2_with (first
      | (at_lookup; refine held_none _ rfl _ _ rfl gh _ rfl HM.out v hv rfl hnone ?_)
      | (at_mapUpdate; refine held_put _ rfl _ _ _ rfl gh _ hHl rfl HM1.out v hv rfl (.pointer (some ⟨w.heap.size, 0, none⟩)) rfl ?_; intro w2 hM2 hk2; have c72 : w2.cell? ⟨c, 7, none⟩ = some (.map (some gh)) := ((hk2.blk B1.out (by simpa using fun e => hcg e.symm)).cell 7).trans h7)
      | (at_lookup; refine held_look _ rfl _ _ rfl gh _ rfl hM2 v hv rfl (.pointer (some ⟨w.heap.size, 0, none⟩)) (List.mem_append.2 (.inr (by simp))) ?_)
      | fail)
    have X2 : Blk w2 w.heap.size 150 [.int .i64 0] := hk2.blk X1.out (by
      have := HM.out.lt
      simp
      omega)
    refine (add_i64 w2 w.heap.size 0 0 1 1 (X2.cell 0) (X2.frozen 0) rfl (by omega) (by omega)).mono ?_
    rintro e w3 ⟨rfl, rfl⟩
    have M := HE.out.first hvL hv hlo (Nat.le_refl _) X1.out K1.out hM2 hk2
    go_wp2
    go_end0
    refine ⟨rfl, _, M.1, M.2, fun x hx => ?_⟩
    rcases mem_heldFp.1 hx with rfl | ⟨u, hu⟩
    · exact .inl (mem_heldFp.2 (.inl rfl))
    · rcases List.mem_append.1 hu with hu | hu
      · exact .inl (mem_heldFp.2 (.inr ⟨u, hu⟩))
      · simp only [List.mem_singleton, Prod.mk.injEq] at hu
        exact .inr (by omega)
set_option maxRecDepth 100000 in
set_option maxHeartbeats 3200000 in
theorem release_any (w : World) (lo c gh N : Nat) (H : List (Nat × Nat)) (L : List Nat) (cs : List Value) (v : Nat) (hN : N ≤ 100000) (hb : Blk w c 105 cs) (h7 : cs[7]? = some (.map (some gh))) (h : HeldIs w lo gh N H L) (hvL : v ∈ L) :
    Calls Tryz.prog 51 #[.pointer (some ⟨c, 0, none⟩), .int .u64 (v : Int)] w fun e w' => e = .returned (.tuple #[]) ∧ ∃ H', HeldIs w' lo gh N H' (L.erase v) ∧ Kept (heldFp gh H) w w' ∧ Grows w (heldFp gh H) (heldFp gh H') := by
  have hv := h.vers v hvL
  have c7 : w.cell? ⟨c, 7, none⟩ = some (.map (some gh)) := (hb.cell 7).trans h7
  have HM := Lib.hid h.map
  have HE := Lib.hid h
  obtain ⟨b, hbH⟩ := (h.keys v).1 hvL
  have hmem : (key64 v, Value.pointer (some ⟨b, 0, none⟩)) ∈ heldEnt H := heldEnt_mem.2 ⟨v, b, hbH, rfl⟩
  have hB := h.cnt v b hbH
  have hc := hB.cell 0
  have hf := hB.frozen 0
  have hcl : L.count v ≤ 100000 := Nat.le_trans List.count_le_length (Nat.le_trans h.hL hN)
  have hcp : 0 < L.count v := List.count_pos_iff.2 hvL
  have hbc : b ≠ c := by
    rintro rfl
    unfold Blk at hb hB
    rw [hB] at hb
    simp only [Option.some.injEq, Obj.cells.injEq] at hb
    exact absurd hb.2.1 (by decide)
  simp only [List.getElem?_cons_zero] at hc
  clear h
  by_cases h1 : L.count v = 1
  · obtain ⟨w3, hw3⟩ : ∃ w3, w.setCell ⟨b, 0, none⟩ (.int .i64 0) = w3 := ⟨_, rfl⟩
    have hk3 : Kept [b] w w3 := by rw [← hw3]; exact (Kept.refl [b] w).setCell _ _ (.inl (by simp))
    have c73 : w3.cell? ⟨c, 7, none⟩ = some (.map (some gh)) := ((hk3.blk hb (by simpa using fun e => hbc e.symm)).cell 7).trans h7
    have hM3 := HM.out.kept hk3 (by simpa using HM.out.ne_blk hB)
    have G := Lib.hid (fun (w2 : World) (a1 : MapE w2 Tryz.prog 27 gh (dropE (heldEnt H) (key64 v))) (a2 : Kept [gh] w3 w2) => HE.out.gone (u0 := .int .i64 0) hbH h1 a1 (by rw [hw3]; exact a2))
    rw [h1] at hc
    clear hb hB
    go_enter Tryz.func51, Tryz.ntmps51
    go_wp2_with (first | (at_lookup; refine held_look _ rfl _ _ rfl gh _ rfl HM.out v hv rfl _ hmem ?_) | fail)
    refine (add_i64 w b 0 _ (-1) 0 hc hf rfl (by omega) (by omega)).mono ?_
    rintro e w4 ⟨rfl, hw4⟩
    rw [hw3] at hw4
    have hw5 := hw4.symm
    subst hw5
    clear hw4 hw3
    go_wp2_with (first | (at_delete; refine held_del _ rfl _ _ rfl gh _ rfl hM3 v hv rfl ?_; intro w2 hM2 hk2) | fail)
    have M := G.out w2 hM2 hk2
    go_end0
    refine ⟨rfl, _, M.1, M.2, fun x hx => ?_⟩
    rcases mem_heldFp.1 hx with rfl | ⟨u, hu⟩
    · exact .inl (mem_heldFp.2 (.inl rfl))
    · exact .inl (mem_heldFp.2 (.inr ⟨u, (List.mem_filter.1 hu).1⟩))
  · have M := Lib.hid (HE.out.less hbH (by omega))
    have hne : ((L.count v : Nat) - 1 : Int) ≠ 0 := by omega
    have hnb : (((L.count v : Nat) - 1 : Int) == 0) = false := by simpa using hne
    clear hb hB
    go_enter Tryz.func51, Tryz.ntmps51
    go_wp2_with (first | (at_lookup; refine held_look _ rfl _ _ rfl gh _ rfl HM.out v hv rfl _ hmem ?_) | fail)
    refine (add_i64 w b 0 _ (-1) ((L.count v : Nat) - 1 : Int) hc hf rfl (by omega) (by omega)).mono ?_
    rintro e w4 ⟨rfl, rfl⟩
    go_wp2
    go_end0
    exact ⟨rfl, H, M.out.1, M.out.2, Grows.refl _ _⟩

structure ConfL where
  name : ByteArray
  dim : Nat
  metric : Nat
  graph : Bool
  links : Nat
  width : Nat
def ConfL.cells (c : ConfL) : List Value := [.string c.name, .int .u8 (c.dim : Int), .int .u8 (c.metric : Int), .bool c.graph, .int .u8 (c.links : Int), .int .u16 (c.width : Int)]
theorem PastIs.mono {w : World} {lo lo' g : Nat} {F : List Nat} {p : PastV} (h : PastIs w lo g F p) (hl : lo' ≤ lo) : PastIs w lo' g F p := by
  obtain ⟨It, u, k, L, last, floor, kept, h1, rfl, h3⟩ := h
  exact ⟨It, u, k, L, last, floor, kept, ⟨h1.blk, h1.rows.mono hl, h1.each, fun x hx => ⟨Nat.le_trans hl (h1.items x hx).1, (h1.items x hx).2⟩, h1.vers.mono hl, h1.hlast, h1.hfl, h1.hv, h1.hsort, h1.hkept, h1.hks, h1.hL, h1.hK, Nat.le_trans hl h1.glo⟩, rfl, h3⟩
theorem sweepI_same {L : List RowV} {last : Nat} {ks ks' : List Nat} (h : ∀ x, x ∈ ks ↔ x ∈ ks') : ∀ i, sweepI L last ks i = sweepI L last ks' i := by
  have hn : ∀ r i, needP L last ks r i = needP L last ks' r i := fun r i => by
    unfold needP
    congr 1
    rw [Bool.eq_iff_iff, List.any_eq_true, List.any_eq_true]
    exact ⟨fun ⟨x, hx, e⟩ => ⟨x, (h x).1 hx, e⟩, fun ⟨x, hx, e⟩ => ⟨x, (h x).2 hx, e⟩⟩
  intro i
  induction i with
  | zero => rfl
  | succ i ih =>
    unfold sweepI
    rw [ih]
    cases L[i]? with
    | none => rfl
    | some r => simp only [hn]
/-- A sweep looks at which versions are named alone. -/
theorem sweep_same {p : PastV} {ks ks' : List Nat} (h : ∀ x, x ∈ ks ↔ x ∈ ks') : SameP (p.sweep ks).1 (p.sweep ks').1 := by
  have hf : ∀ x, x ∈ ks.filter p.known ↔ x ∈ ks'.filter p.known := fun x => by rw [List.mem_filter, List.mem_filter, h]
  refine ⟨sweepI_same hf _, rfl, rfl, fun v => ?_⟩
  show ((ks.filter p.known).contains v || decide (p.last ≤ v)) = ((ks'.filter p.known).contains v || decide (p.last ≤ v))
  congr 1
  rw [Bool.eq_iff_iff, List.contains_iff_mem, List.contains_iff_mem]
  exact hf v
theorem VersAt.inn {lo : Nat} {w : World} {v : Value} {xs : List Nat} (h : VersAt lo w v xs) (hl : xs.length ≤ 100000) (h64 : ∀ x ∈ xs, x < 18446744073709551616) : ∃ a c, v = .slice a xs.length c ∧ VersIn w w.heap.size a xs.length c xs := by
  obtain ⟨a, c, rfl, hc⟩ := h.form
  refine ⟨a, c, rfl, rfl, hc, hl, fun i x hx => ⟨h64 x (List.mem_of_getElem? hx), ?_⟩⟩
  obtain ⟨g, c', e, h2⟩ := h.at i x hx
  simp only [Value.slice.injEq] at e
  obtain ⟨rfl, -, -⟩ := e
  have hlt : g < w.heap.size := (RowC.lt h g rfl).2
  exact ⟨g, 0, rfl, hlt, hlt, by rw [Nat.zero_add]; exact h2⟩
/-- A collection stands in block c. -/
structure CollIs (w : World) (lo N c gp gh : Nat) (Fp : List Nat) (H : List (Nat × Nat)) (cf : ConfL) (p : PastV) (L : List Nat) : Prop where
  blk : Blk w c 105 (cf.cells ++ [.pointer (some ⟨gp, 0, none⟩), .map (some gh)])
  past : PastIs w lo gp Fp p
  held : HeldIs w lo gh N H L
  clo : lo ≤ c
  cF : c ∉ Fp
  far : Apart (heldFp gh H) Fp
def collFp (c gh : Nat) (Fp : List Nat) (H : List (Nat × Nat)) : List Nat := c :: (heldFp gh H ++ Fp)
def CollAt (w : World) (lo N c : Nat) (F : List Nat) (cf : ConfL) (p : PastV) (L : List Nat) : Prop := ∃ gp gh Fp H, CollIs w lo N c gp gh Fp H cf p L ∧ F = collFp c gh Fp H
theorem mem_collFp {c gh x : Nat} {Fp : List Nat} {H : List (Nat × Nat)} : x ∈ collFp c gh Fp H ↔ x = c ∨ x ∈ heldFp gh H ∨ x ∈ Fp := by
  unfold collFp
  rw [List.mem_cons, List.mem_append]
section
variable {w w' : World} {lo N c gp gh : Nat} {Fp F G L : List Nat} {H : List (Nat × Nat)} {cf : ConfL} {p : PastV}
theorem CollIs.cH (h : CollIs w lo N c gp gh Fp H cf p L) : c ∉ heldFp gh H := fun hh => by
  have hb := h.blk
  rcases mem_heldFp.1 hh with rfl | ⟨v, hv⟩
  · exact h.held.map.ne_blk hb rfl
  · have hB := h.held.cnt v c hv
    unfold Blk at hb hB
    rw [hB] at hb
    simp only [Option.some.injEq, Obj.cells.injEq] at hb
    exact absurd hb.2.1 (by decide)
theorem CollIs.kept (h : CollIs w lo N c gp gh Fp H cf p L) (hk : Kept G w w') (hG : ∀ x ∈ G, x ∉ collFp c gh Fp H) : CollIs w' lo N c gp gh Fp H cf p L where
  blk := hk.blk h.blk (fun hh => hG c hh (mem_collFp.2 (.inl rfl)))
  past := h.past.kept hk (fun x hx hF => hG x hx (mem_collFp.2 (.inr (.inr hF))))
  held := h.held.kept hk (fun x hx hF => hG x hx (mem_collFp.2 (.inr (.inl hF))))
  clo := h.clo
  cF := h.cF
  far := h.far
theorem CollAt.kept (h : CollAt w lo N c F cf p L) (hk : Kept G w w') (hG : ∀ x ∈ G, x ∉ F) : CollAt w' lo N c F cf p L := by
  obtain ⟨gp, gh, Fp, H, h1, rfl⟩ := h
  exact ⟨gp, gh, Fp, H, h1.kept hk hG, rfl⟩
theorem CollAt.on (h : CollAt w lo N c F cf p L) (hb : Below w.heap.size w w') : CollAt w' lo N c F cf p L := h.kept (G := []) (Kept.of_below hb (Nat.le_refl _)) (by simp)
theorem CollAt.lt (h : CollAt w lo N c F cf p L) : ∀ x ∈ F, lo ≤ x ∧ x < w.heap.size := by
  obtain ⟨gp, gh, Fp, H, h1, rfl⟩ := h
  intro x hx
  rcases mem_collFp.1 hx with rfl | hx | hx
  · exact ⟨h1.clo, h1.blk.lt⟩
  · exact h1.held.lt x hx
  · exact h1.past.lt x hx
theorem CollAt.raise (h : CollAt w lo N c F cf p L) : CollAt w lo (N + 1) c F cf p L := by
  obtain ⟨gp, gh, Fp, H, h1, rfl⟩ := h
  have h2 := h1.held
  exact ⟨gp, gh, Fp, H, ⟨h1.blk, h1.past, ⟨h2.map, h2.keys, h2.cnt, h2.blks, h2.vers, Nat.le_succ_of_le h2.hH, Nat.le_succ_of_le h2.hL, h2.glo, h2.low⟩, h1.clo, h1.cF, h1.far⟩, rfl⟩
theorem CollAt.conf (h : CollAt w lo N c F cf p L) (i : Nat) (hi : i < 6) : w.cell? ⟨c, i, none⟩ = cf.cells[i]? := by
  obtain ⟨gp, gh, Fp, H, h1, rfl⟩ := h
  rw [h1.blk.cell i, List.getElem?_append_left (by simpa [ConfL.cells] using hi)]
theorem CollAt.items (h : CollAt w lo N c F cf p L) : ∃ gp, w.cell? ⟨c, 6, none⟩ = some (.pointer (some ⟨gp, 0, none⟩)) := by
  obtain ⟨gp, gh, Fp, H, h1, rfl⟩ := h
  exact ⟨gp, h1.blk.cell 6⟩
/-- A collection's past has turned. -/
theorem CollIs.turn {Fp' : List Nat} {p' : PastV} (h : CollIs w lo N c gp gh Fp H cf p L) (h1 : PastIs w' lo gp Fp' p') (hk : Kept Fp w w') (hg : Grows w Fp Fp') : CollAt w' lo N c (collFp c gh Fp' H) cf p' L ∧ Kept (collFp c gh Fp H) w w' ∧ Grows w (collFp c gh Fp H) (collFp c gh Fp' H) := by
  have hcl := h.blk.lt
  refine ⟨⟨gp, gh, Fp', H, ⟨hk.blk h.blk h.cF, h1, h.held.kept hk (fun x hx hh => h.far x hh hx), h.clo, fun hh => ?_, fun x hx hF => ?_⟩, rfl⟩, hk.mono (fun x hx => mem_collFp.2 (.inr (.inr hx))), fun x hx => ?_⟩
  · rcases hg c hh with h2 | h2
    · exact h.cF h2
    · omega
  · have h3 := (h.held.lt x hx).2
    rcases hg x hF with h2 | h2
    · exact h.far x hx h2
    · omega
  · rcases mem_collFp.1 hx with rfl | hx | hx
    · exact .inl (mem_collFp.2 (.inl rfl))
    · exact .inl (mem_collFp.2 (.inr (.inl hx)))
    · rcases hg x hx with h2 | h2
      · exact .inl (mem_collFp.2 (.inr (.inr h2)))
      · exact .inr h2
/-- What it holds has turned. -/
theorem CollIs.turnH {H' : List (Nat × Nat)} {L' : List Nat} {N' : Nat} (h : CollIs w lo N c gp gh Fp H cf p L) (h1 : HeldIs w' lo gh N' H' L') (hk : Kept (heldFp gh H) w w') (hg : Grows w (heldFp gh H) (heldFp gh H')) : CollAt w' lo N' c (collFp c gh Fp H') cf p L' ∧ Kept (collFp c gh Fp H) w w' ∧ Grows w (collFp c gh Fp H) (collFp c gh Fp H') := by
  have hcl := h.blk.lt
  refine ⟨⟨gp, gh, Fp, H', ⟨hk.blk h.blk h.cH, h.past.kept hk (fun x hx hh => h.far x hx hh), h1, h.clo, h.cF, fun x hx hF => ?_⟩, rfl⟩, hk.mono (fun x hx => mem_collFp.2 (.inr (.inl hx))), fun x hx => ?_⟩
  · have h3 := (h.past.lt x hF).2
    rcases hg x hx with h2 | h2
    · exact h.far x h2 hF
    · omega
  · rcases mem_collFp.1 hx with rfl | hx | hx
    · exact .inl (mem_collFp.2 (.inl rfl))
    · rcases hg x hx with h2 | h2
      · exact .inl (mem_collFp.2 (.inr (.inl h2)))
      · exact .inr h2
    · exact .inl (mem_collFp.2 (.inr (.inr hx)))
end
/-- What a call leaves that turns one collection. -/
def CollPost (lo N c : Nat) (F : List Nat) (cf : ConfL) (p : PastV) (L : List Nat) (r : Value) (w : World) (e : Ending) (w' : World) : Prop := e = .returned r ∧ ∃ F', CollAt w' lo N c F' cf p L ∧ Kept F w w' ∧ Grows w F F'
theorem coll_hold (w : World) (lo N c : Nat) (F : List Nat) (cf : ConfL) (p : PastV) (L : List Nat) (v : Nat) (hv : v < 18446744073709551616) (hN : N ≤ 100000) (h : CollAt w lo N c F cf p L) :
    Calls Tryz.prog 49 #[.pointer (some ⟨c, 0, none⟩), .int .u64 (v : Int)] w fun e w' => CollPost lo (N + 1) c F cf p (v :: L) (.tuple #[]) w e w' := by
  obtain ⟨gp, gh, Fp, H, h1, rfl⟩ := h
  refine (hold_any w lo c gh N H L _ v hv hN h1.blk rfl h1.held h1.past.size1).mono ?_
  rintro e w' ⟨rfl, H', h2, h3, h4⟩
  exact ⟨rfl, _, h1.turnH h2 h3 h4⟩
theorem coll_release (w : World) (lo N c : Nat) (F : List Nat) (cf : ConfL) (p : PastV) (L : List Nat) (v : Nat) (hv : v ∈ L) (hN : N ≤ 100000) (h : CollAt w lo N c F cf p L) :
    Calls Tryz.prog 51 #[.pointer (some ⟨c, 0, none⟩), .int .u64 (v : Int)] w fun e w' => CollPost lo N c F cf p (L.erase v) (.tuple #[]) w e w' := by
  obtain ⟨gp, gh, Fp, H, h1, rfl⟩ := h
  refine (release_any w lo c gh N H L _ v hN h1.blk rfl h1.held hv).mono ?_
  rintro e w' ⟨rfl, H', h2, h3, h4⟩
  exact ⟨rfl, _, h1.turnH h2 h3 h4⟩
theorem heldEnt_keys (H : List (Nat × Nat)) : (heldEnt H).map (·.1) = (H.map (·.1)).map key64 := by
  unfold heldEnt
  rw [List.map_map, List.map_map]
  rfl
theorem sortU_le {n : Nat} (h : n ≤ 100000) : SortU n := fun lo w v xs hv hl hx => sort_any64 lo w v xs hv (by omega) hx
set_option maxRecDepth 100000 in
set_option maxHeartbeats 6400000 in
theorem coll_sweep (w : World) (lo N c : Nat) (F : List Nat) (cf : ConfL) (p : PastV) (L : List Nat) (hN : N ≤ 100000) (h : CollAt w lo N c F cf p L) :
    Calls Tryz.prog 52 #[.pointer (some ⟨c, 0, none⟩)] w fun e w' => CollPost lo N c F cf (p.sweep L).1 L (.tuple #[]) w e w' := by
  obtain ⟨gp, gh, Fp, H, h1, rfl⟩ := h
  have HC := Lib.hid h1
  have c6 : w.cell? ⟨c, 6, none⟩ = some (.pointer (some ⟨gp, 0, none⟩)) := h1.blk.cell 6
  have c7 : w.cell? ⟨c, 7, none⟩ = some (.map (some gh)) := h1.blk.cell 7
  have HK := Lib.hid (show ∀ x, x ∈ H.map (·.1) ↔ x ∈ L from fun x => by
    rw [h1.held.keys x, List.mem_map]
    exact ⟨fun ⟨q, hq, e⟩ => ⟨q.2, by rw [← e]; exact hq⟩, fun ⟨b, hb⟩ => ⟨_, hb, rfl⟩⟩)
  have HL := Lib.hid (show (H.map (·.1)).length ≤ 100000 from by
    rw [List.length_map]
    exact Nat.le_trans h1.held.hH hN)
  have H64 := Lib.hid (fun x (hx : x ∈ H.map (·.1)) => h1.held.vers x ((HK.out x).1 hx))
  obtain ⟨W1, hW1⟩ : ∃ W1, w.drew.alloc (.cells #[.map (some gh)] 103) = W1 := ⟨_, rfl⟩
  have hb1 : Below w.heap.size w W1 := by rw [← hW1]; exact ((Below.refl w.heap.size w).drew).alloc (Nat.le_refl _) _
  have X1 := Lib.hid (show Blk W1 w.heap.size 103 [.map (some gh)] from by rw [← hW1]; exact Blk.new w.drew _ _)
  have C1 := Lib.hid (h1.kept (G := []) (Kept.of_below hb1 (Nat.le_refl _)) (by simp))
  have B1 := Lib.hid hb1
  have KC := Lib.hid (keys_any64 gh w.drew)
  clear h1 hb1
  rw [hW1] at KC
  go_enter Tryz.func52, Tryz.ntmps52
  go_wp2_with (fail)
  go_region_law (first
    | (rw [if_pos (by rfl)]; go_simp; go_at_call 83; refine KC.out.mono ?_; rintro e w1 ⟨rfl, hw1⟩; have hw1' := hw1.symm; subst hw1'; clear hw1; have c61 : W1.cell? ⟨c, 6, none⟩ = some (.pointer (some ⟨gp, 0, none⟩)) := C1.out.blk.cell 6)
    | (rw [if_pos (by rfl)]; go_simp; go_at_call 82; refine (sorted_keys64 gh w.heap.size (heldEnt H) (H.map (·.1)) (heldEnt_keys H) HL.out H64.out _ X1.out.lt (X1.out.cell 0) C1.out.held.map).mono ?_; rintro e w2 ⟨v2, ss, rfl, hp2, hs2, hv2, hb2⟩; have hsl : ss.length ≤ 100000 := (by rw [hp2.length_eq]; exact HL.out); obtain ⟨va, vc, rfl, hin⟩ := hv2.inn hsl (fun x hx => H64.out x (hp2.mem_iff.1 hx)); obtain ⟨vn, hvn⟩ : ∃ vn, ss.length = vn := ⟨_, rfl⟩; have IN := Lib.hid hin; have SL := Lib.hid hsl; have C2 := Lib.hid (C1.out.kept (G := []) (Kept.of_below hb2 (Nat.le_refl _)) (by simp)); have B2 := Lib.hid (below_on B1.out hb2); have SP := Lib.hid (show ∀ x, x ∈ ss ↔ x ∈ L from fun x => hp2.mem_iff.trans (HK.out x)); have c62 : w2.cell? ⟨c, 6, none⟩ = some (.pointer (some ⟨gp, 0, none⟩)) := C2.out.blk.cell 6; rw [hvn] at IN ⊢; clear hin hv2 hb2 hp2 hs2 hsl hvn)
    | (rw [if_pos (by rfl)]; go_simp; go_at_call 81; refine (sweep_is _ lo gp Fp p va vn vc ss (sortU_le SL.out) C2.out.past IN.out).mono ?_; rintro e w3 ⟨F3, rfl, h3, k3, g3⟩; have T := Lib.hid (C2.out.turn (h3.same (sweep_same SP.out)) k3 g3); clear h3 k3 g3))
  all_goals
    have KF := Lib.hid (Kept.of_below (F := collFp c gh Fp H) B2.out (Nat.le_refl _))
    have GR := Lib.hid (show Grows w (collFp c gh Fp H) (collFp c gh F3 H) from (Grows.refl w (collFp c gh Fp H)).trans T.out.2.2 B2.out.size)
    have TK := Lib.hid (KF.out.trans T.out.2.1 (Grows.refl _ _))
    go_wp2
    go_end0
    exact ⟨rfl, _, T.out.1, TK.out, GR.out⟩
set_option maxRecDepth 100000 in
set_option maxHeartbeats 3200000 in
theorem coll_now (w : World) (lo N c : Nat) (F : List Nat) (cf : ConfL) (p : PastV) (L : List Nat) (h : CollAt w lo N c F cf p L) :
    Calls Tryz.prog 40 #[.pointer (some ⟨c, 0, none⟩)] w fun e w' => Below w.heap.size w w' ∧ ∃ (sv : Value) (xs : List ItL), e = .returned sv ∧ ItsAt w.heap.size w' sv xs ∧ (∀ x ∈ xs, x.OwnI w.heap.size w') ∧ xs.map ItL.toI = (p.all p.last).1 := by
  obtain ⟨gp, gh, Fp, H, h1, rfl⟩ := h
  have c6 : w.cell? ⟨c, 6, none⟩ = some (.pointer (some ⟨gp, 0, none⟩)) := h1.blk.cell 6
  have PD := Lib.hid (h1.past.on ((Below.refl w.heap.size w).drew))
  have hl := h1.past.last64
  obtain ⟨la, hla⟩ : ∃ la, p.last = la := ⟨_, rfl⟩
  have LC := Lib.hid (last_is _ _ _ _ _ PD.out)
  rw [hla] at hl LC ⊢
  have AC := Lib.hid (all_is _ _ _ _ _ la PD.out hl)
  clear h1 hla hl
  go_enter Tryz.func40, Tryz.ntmps40
  go_wp2_with (fail)
  go_region_law (first
    | (rw [if_pos (by rfl)]; go_simp; go_at_call 65; refine LC.out.mono ?_; rintro e w1 ⟨rfl, hw1⟩; have hw1' := hw1.symm; subst hw1'; clear hw1)
    | (rw [if_pos (by rfl)]; go_simp; go_at_call 50; refine AC.out.mono ?_; rintro e w2 ⟨hb2, sv, xs, rfl, hx1, hx2, hx3⟩; obtain ⟨xa, xc, rfl, -⟩ := hx1.form; have R := Lib.hid (show Below w.heap.size w w2 ∧ ItsAt w.heap.size w2 (.slice xa xs.length xc) xs ∧ (∀ x ∈ xs, x.OwnI w.heap.size w2) ∧ xs.map ItL.toI = (p.all la).1 from ⟨(Below.refl w.heap.size w).drew.trans hb2, hx1, hx2, hx3⟩); obtain ⟨xn, hxn⟩ : ∃ xn, xs.length = xn := ⟨_, rfl⟩; rw [hxn] at R ⊢; clear hb2 hx1 hx2 hx3 hxn))
  all_goals
    go_wp2
    go_ret
    exact ⟨R.out.1, _, xs, rfl, R.out.2.1, R.out.2.2.1, R.out.2.2.2⟩
end Go.Proofs.YtdmnflncgmnghaaGreat
