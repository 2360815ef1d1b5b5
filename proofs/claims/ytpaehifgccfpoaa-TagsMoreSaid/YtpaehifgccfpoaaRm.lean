/-
  The region of TagsMore's law that makes the filter with a tag in All and in None, whatever order is drawn.
-/
import Derived.Test.YtpaehifgccfpoaaRi
import Derived.Test.YtpaehifgccfpoaaGo
import Derived.Maps.AppendAt
namespace Go.Proofs.Ytpaehifgccfpoaa
open Go.RowKit Go.ChangeShapes Go.WideShapes Go.ChangeAt

theorem run_field0 (pb : Nat) (w : World) : (Instr.fieldAt 24 (.pointer (some ⟨pb, 0, none⟩)) 0).run Try.prog w = .ok (.pointer (some ⟨pb, 0, none⟩)) w := by go_simp
theorem run_field1 (pb : Nat) (w : World) : (Instr.fieldAt 24 (.pointer (some ⟨pb, 0, none⟩)) 1).run Try.prog w = .ok (.pointer (some ⟨pb, 1, none⟩)) w := by go_simp
theorem run_field2 (pb : Nat) (w : World) : (Instr.fieldAt 24 (.pointer (some ⟨pb, 0, none⟩)) 2).run Try.prog w = .ok (.pointer (some ⟨pb, 2, none⟩)) w := by go_simp
theorem run_loadS (pb k n c : Nat) (a : Option Addr) (w : World) (h : w.cell? ⟨pb, k, none⟩ = some (.slice a n c)) : (Instr.loadAt 22 (.pointer (some ⟨pb, k, none⟩))).run Try.prog w = .ok (.slice a n c) w := by go_simp
theorem run_bs0 (w : World) : (Instr.buildSlice 22 0 #[]).run Try.prog w = .ok (.slice (some ⟨w.heap.size, 0, none⟩) 0 0) (w.alloc (.cells #[] 9)) := by go_simp
theorem run_bs1 (t : ByteArray) (w : World) : (Instr.buildSlice 22 1 #[(0, .string t)]).run Try.prog w = .ok (.slice (some ⟨w.heap.size, 0, none⟩) 1 1) (w.alloc (.cells #[.string t] 9)) := by go_simp
theorem run_build3 (a0 a1 a2 : Option Addr) (n0 c0 n1 c1 n2 c2 : Nat) (w : World) : (Instr.build 24 #[(0, .slice a0 n0 c0), (1, .slice a1 n1 c1), (2, .slice a2 n2 c2)]).run Try.prog w = .ok (.agg #[.slice a0 n0 c0, .slice a1 n1 c1, .slice a2 n2 c2]) w := by go_simp
theorem run_allocF (w : World) : (Instr.alloc 24 true (.tuple #[])).run Try.prog w = .ok (.pointer (some ⟨w.heap.size, 0, none⟩)) (w.alloc (.cells #[.slice none 0 0, .slice none 0 0, .slice none 0 0] 24)) := by go_simp
theorem run_storeF (bb : Nat) (a0 a1 a2 : Option Addr) (n0 c0 n1 c1 n2 c2 : Nat) (cs : List Value) (w : World) (hb : Blk w bb 24 cs) (hc : cs.length = 3) :
    (Instr.storeAt 24 (.pointer (some ⟨bb, 0, none⟩)) (.agg #[.slice a0 n0 c0, .slice a1 n1 c1, .slice a2 n2 c2])).run Try.prog w = .ok () (((w.setCell ⟨bb, 0, none⟩ (.slice a0 n0 c0)).setCell ⟨bb, 1, none⟩ (.slice a1 n1 c1)).setCell ⟨bb, 2, none⟩ (.slice a2 n2 c2)) := by
  match cs, hc with
  | [x, y, z], _ =>
    have f0 := hb.frozen 0
    have f1 := hb.frozen 1
    have f2 := hb.frozen 2
    have c0 := hb.cell 0
    have c1 := hb.cell 1
    have c2 := hb.cell 2
    have l0 := hb.lt
    simp only [List.getElem?_cons_zero, List.getElem?_cons_succ] at c0 c1 c2
    go_simp

/-- The two values own no block in common. -/
def Far (u v : Value) : Prop := ∀ k, u.ownBlock = some k → v.ownBlock ≠ some k
/-- A row of one string of the region's own. -/
def One (w : World) (B : Nat) (t : ByteArray) (v : Value) : Prop := ∃ b, v = .slice (some ⟨b, 0, none⟩) 1 1 ∧ B ≤ b ∧ Blk w b 9 [.string t]
/-- The filter's block, as it is made. -/
def Box (w : World) (B : Nat) (v : Value) : Prop := ∃ b, v = .pointer (some ⟨b, 0, none⟩) ∧ B ≤ b ∧ Blk w b 24 [.slice none 0 0, .slice none 0 0, .slice none 0 0]

theorem own_slice (b n c : Nat) : (Value.slice (some ⟨b, 0, none⟩) n c).ownBlock = some b := rfl
theorem One.block {w : World} {B : Nat} {t : ByteArray} {v : Value} (h : One w B t v) : ∀ k, v.ownBlock = some k → k < w.heap.size := by
  obtain ⟨b, rfl, _, hb⟩ := h
  intro k hk
  rw [own_slice] at hk
  injection hk with hk
  subst hk
  exact hb.lt
theorem One.on {w w' : World} {B : Nat} {t : ByteArray} {v : Value} (h : One w B t v) (hb : Below w.heap.size w w') : One w' B t v := by
  obtain ⟨b, e, h1, h2⟩ := h
  exact ⟨b, e, h1, h2.of_eq (hb.block b h2.lt)⟩
theorem Box.on {w w' : World} {B : Nat} {v : Value} (h : Box w B v) (hb : Below w.heap.size w w') : Box w' B v := by
  obtain ⟨b, e, h1, h2⟩ := h
  exact ⟨b, e, h1, h2.of_eq (hb.block b h2.lt)⟩
theorem OwnS.on {w w' : World} {B : Nat} {t : TypeId} {v : Value} {ss : List ByteArray} (h : OwnS w B t v ss) (hb : Below w.heap.size w w') : OwnS w' B t v ss :=
  h.kept (Kept.of_below (F := []) hb (Nat.le_refl _)) (by simp)
theorem One.reads {w : World} {B : Nat} {t : ByteArray} {v : Value} (h : One w B t v) : ∃ b, v = .slice (some ⟨b, 0, none⟩) 1 1 ∧ SReads w (some ⟨b, 0, none⟩) 1 1 [t] := by
  obtain ⟨b, e, _, hb⟩ := h
  refine ⟨b, e, rfl, by decide, (fun h => by cases h), .inr ⟨b, 0, rfl, hb.lt, fun i hi => ?_⟩⟩
  have : i = 0 := by omega
  subst this
  rw [Nat.zero_add, hb.cell]
  rfl

/-- append(v, xs..) as one operation of a region, and where the new row lies. -/
theorem wp_app {o : Oper} {act : Act} {K : Act → World → Prop} {Q : Exit → Act → World → Prop} (w : World) (s x : Operand)
    (ho : o.op = .call { callee := .builtin .append, args := #[s, x], argTypes := #[22, 22] }) (B : Nat) (v : Value) (zs : List ByteArray) (hs : act.eval s = v)
    (hown : OwnS w B 9 v zs) (a : Option Addr) (n cap : Nat) (xs : List ByteArray) (hx : act.eval x = .slice a n cap) (h : SReads w a n cap xs)
    (hb : (zs.length + n) * 16 ≤ 140737488355328) (hbase : B ≤ w.heap.size)
    (hK : ∀ v' w', OwnS w' B 9 v' (zs ++ xs) → w.grownBy w' v.ownBlock → (v'.ownBlock = v.ownBlock ∨ v'.ownBlock = some w.heap.size) → K (act.put o.dst v') w') : o.wp Try.prog act w K Q := by
  obtain ⟨i0, hi, hz0, hz1, hz2⟩ := info_parts string_info
  cases a with
  | none =>
    obtain ⟨rfl, rfl⟩ := h.nilOk rfl
    have hxs : xs = [] := List.eq_nil_of_length_eq_zero h.len
    subst hxs
    have hrun := run_append_owned_none (P := Try.prog) (w := w) B 22 o.type 9 i0 1 Try.underlying22 hi v zs.length _ hown
    unfold Oper.wp execOp
    simp only [ho, resolve, invoke, builtin, Sem.run_bind, Sem.run_pure, Result.andThen_ok, List.map_toArray, List.map_cons, List.map_nil, hs, hx, hrun]
    exact hK v w (by simpa using hown) (World.grownBy.refl _ _) (.inl rfl)
  | some ad =>
    have hnews : ∀ j u, (xs.map Value.string)[j]? = some u → w.cell? (ad.add j) = some u := by
      intro j u hj
      rcases h.cells with h0 | ⟨b, off, e, _, hc⟩
      · have hl := h.len
        rw [h0] at hl
        have : xs = [] := List.eq_nil_of_length_eq_zero hl
        subst this
        simp at hj
      · obtain rfl := Option.some.inj e
        have hl := h.len
        have hj' : j < n := by
          have := (List.getElem?_eq_some_iff.1 hj).1
          simp at this
          omega
        rw [add_plain, hc j hj', ← hj]
        simp [strAt, List.getD, hl, hj']
    obtain ⟨v', w', hr, h2, h3, _, h5⟩ := run_append_own_at (P := Try.prog) (w := w) B 22 o.type 9 i0 _ 1 16 Try.underlying22 hi hz0 hz1 hz2 rfl (by decide) v zs.length _ hown ad n cap (xs.map Value.string) (by simp [h.len]) hnews (map_string_one xs)
      (by unfold maxLen; omega) (by omega) hbase
    unfold Oper.wp execOp
    simp only [ho, resolve, invoke, builtin, Sem.run_bind, Sem.run_pure, Result.andThen_ok, List.map_toArray, List.map_cons, List.map_nil, hs, hx, hr]
    refine hK v' w' ?_ h3 h5
    unfold OwnS
    rw [List.length_append, h.len, List.map_append]
    exact h2

section
variable {w w' : World} {B : Nat} {v v' u : Value} {zs zs' : List ByteArray} {t : ByteArray}
theorem grown_own (hf : Far v u) (hg : w.grownBy w' v.ownBlock) (h : OwnS w B 9 u zs) : OwnS w' B 9 u zs := by
  have hk : Kept v.ownBlock.toList w w' := (Kept.refl _ _).grown hg (fun k hk => .inl (by simp [hk]))
  exact h.kept hk fun k hk => by
    intro hm
    exact hf k (by simpa using hm) hk
theorem grown_one (hf : Far v u) (hg : w.grownBy w' v.ownBlock) (h : One w B t u) : One w' B t u := by
  obtain ⟨b, rfl, h1, h2⟩ := h
  exact ⟨b, rfl, h1, h2.grown hg (fun e => hf b e (own_slice b 1 1))⟩
theorem grown_box (hown : OwnS w B 9 v zs) (hg : w.grownBy w' v.ownBlock) (h : Box w B u) : Box w' B u := by
  obtain ⟨b, rfl, h1, h2⟩ := h
  refine ⟨b, rfl, h1, h2.grown hg fun e => ?_⟩
  rcases hown.form with ⟨rfl, _⟩ | ⟨g, cap, rest, rfl, _, hb, _⟩
  · cases e
  · rw [own_slice] at e
    injection e with e
    subst e
    exact Blk.ne hb h2 (by decide) rfl
theorem grown_below {w0 : World} (hown : OwnS w w0.heap.size 9 v zs) (hg : w.grownBy w' v.ownBlock) (h : Below w0.heap.size w0 w) : Below w0.heap.size w0 w' :=
  h.grown hg h.size (fun k hk => (hown.lt k hk).1)
theorem far_app (hf : Far v u) (hat : v'.ownBlock = v.ownBlock ∨ v'.ownBlock = some w.heap.size) (hu : ∀ k, u.ownBlock = some k → k < w.heap.size) : Far v' u := by
  intro k hk e
  rcases hat with h | h
  · exact hf k (by rw [← h]; exact hk) e
  · rw [h] at hk
    injection hk with hk
    have := hu k e
    omega
theorem Far.symm (h : Far v u) : Far u v := fun k hk e => h k e hk
theorem far_new {b n c : Nat} (hu : ∀ k, u.ownBlock = some k → k < b) : Far (.slice (some ⟨b, 0, none⟩) n c) u := by
  intro k hk e
  rw [own_slice] at hk
  injection hk with hk
  have := hu k e
  omega
theorem OwnS.block (h : OwnS w B 9 u zs) : ∀ k, u.ownBlock = some k → k < w.heap.size := fun k hk => (h.lt k hk).2
end
end Go.Proofs.Ytpaehifgccfpoaa
