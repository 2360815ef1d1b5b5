/-
  Rows of the call's own whose elements are structs known by their cells alone, however many; append of one more; an element's load. No program stands here.
-/
import Derived.Test.YtdgiellnklcioaaSq
import Derived.Deep.MidRow
namespace Go.Proofs.Ytdgiellnklcioaa
open Go.RowKit Go.ChangeShapes Go.WideShapes Go.ChangeAt

/-- A row of the call's own of structs of k cells. -/
def RowC (lo : Nat) (w : World) (t : TypeId) (k : Nat) (v : Value) (css : List (List Value)) : Prop :=
  (∀ cs ∈ css, cs.length = k) ∧ w.ownsRow lo t k v css.length css.flatten
section
variable {lo : Nat} {w w' : World} {t : TypeId} {k : Nat} {v : Value} {css : List (List Value)}
theorem RowC.nil (lo : Nat) (w : World) (t : TypeId) (k : Nat) : RowC lo w t k (.slice none 0 0) [] := ⟨by simp, by simp, .inl ⟨rfl, rfl⟩⟩
theorem RowC.lt (h : RowC lo w t k v css) : ∀ g, v.ownBlock = some g → lo ≤ g ∧ g < w.heap.size := fun g hg => World.ownsRow.lt h.2 g hg
theorem RowC.kept {F : List Nat} (h : RowC lo w t k v css) (hk : Kept F w w') (hF : ∀ g, v.ownBlock = some g → g ∉ F) : RowC lo w' t k v css := ⟨h.1, hk.own h.2 hF⟩
theorem RowC.on (h : RowC lo w t k v css) (hb : Below w.heap.size w w') : RowC lo w' t k v css := h.kept (F := []) (Kept.of_below hb (Nat.le_refl _)) (by simp)
theorem RowC.form (h : RowC lo w t k v css) : ∃ a c, v = .slice a css.length c ∧ (css.length ≤ c) := by
  rcases h.2.2 with ⟨rfl, h0⟩ | ⟨g, cap, cur, rfl, _, _, hn, _⟩
  · exact ⟨none, 0, by rw [h0], by omega⟩
  · exact ⟨_, cap, rfl, hn⟩
/-- Where an element lies. -/
theorem RowC.at (h : RowC lo w t k v css) (i : Nat) (cs : List Value) (hi : css[i]? = some cs) : ∃ g c, v = .slice (some ⟨g, 0, none⟩) css.length c ∧ lo ≤ g ∧ g < w.heap.size ∧ w.rangeAt g (i * k) cs := by
  have hlt := h.lt
  have hil := (List.getElem?_eq_some_iff.1 hi).1
  rcases h.2.2 with ⟨rfl, h0⟩ | ⟨g, cap, cur, rfl, hg, hh, hn, hcap, hsz, htake⟩
  · omega
  · refine ⟨g, cap, rfl, hg, (hlt g rfl).2, fun j u hj => ?_⟩
    have hjk : j < k := by
      rw [← h.1 cs (List.mem_of_getElem? hi)]
      exact (List.getElem?_eq_some_iff.1 hj).1
    rw [cell_of_row w g (i * k + j) _ t (0, 0) hh, ← hj, ← flatten_at css k h.1 i cs hi j hjk, ← htake, List.getElem?_take_of_lt, ← Array.getElem?_toList]
    have := Nat.mul_le_mul_right k (show i + 1 ≤ css.length from hil)
    rw [Nat.add_mul] at this
    omega
theorem RowC.app {P : Program} (h : RowC lo w t k v css) (st ty : TypeId) (hu : P.underlying st = some (.slice t)) (z : Value) (sz : Nat) (hi : (P.info? t).map (fun i => (i.zero, i.size, i.bytes)) = some (some z, k, sz)) (hzc : z.cells.size = k) (hc0 : 0 < k)
    (cs : List Value) (hcs : cs.length = k) (h1 : ∀ u ∈ cs, u.oneCell' = true) (hlo : lo ≤ w.heap.size) (hb : (css.length + 1) * sz ≤ 140737488355328) (hl : css.length ≤ 2000000) :
    ∃ v' w', (Builtin.append_ #[st, st] ty #[v, .slice (some ⟨w.heap.size, 0, none⟩) 1 1]).run P (w.alloc (.cells cs.toArray t)) = .ok v' w' ∧ RowC lo w' t k v' (css ++ [cs]) ∧ Kept (ownB v) w w' ∧ Grows w (ownB v) (ownB v') := by
  obtain ⟨i0, hi, hz0, hz1, hz2⟩ := info_parts hi
  have hcl : cs.length = 1 * k := by rw [hcs, Nat.one_mul]
  have hnews : ∀ j u, cs[j]? = some u → (w.alloc (.cells cs.toArray t)).cell? ((⟨w.heap.size, 0, none⟩ : Addr).add j) = some u := by
    intro j u hj
    rw [add_plain, Nat.zero_add, World.cell?_alloc_at _ _ _ _ rfl, ← hj]
    simp
  obtain ⟨v', w', hr, ho, hgr, _, hloc⟩ := run_append_own_at (P := P) (w.alloc (.cells cs.toArray t)) lo st ty t i0 z k sz hu hi hz0 hz1 hz2 hzc hc0 v css.length css.flatten (World.ownsRow.alloc h.2 _) ⟨w.heap.size, 0, none⟩ 1 1 cs hcl hnews h1 (by unfold maxLen; omega) hb (by simp; omega)
  refine ⟨v', w', hr, ⟨fun c hc => ?_, ?_⟩, ((Kept.refl _ _).alloc _).grown hgr (fun g hg => .inl (mem_ownB.2 hg)), fun g hg => ?_⟩
  · rcases List.mem_append.1 hc with hc | hc
    · exact h.1 c hc
    · rw [List.mem_singleton.1 hc]
      exact hcs
  · rw [List.flatten_append, List.length_append]
    simpa using ho
  · rcases hloc with e | e
    · exact .inl (mem_ownB.2 (by rw [← e]; exact mem_ownB.1 hg))
    · have := mem_ownB.1 hg
      rw [e] at this
      simp at this
      exact .inr (by omega)
/-- append(v, x), x one struct that the text has laid as a row of one. -/
theorem app_c {P : Program} {ops : Array Oper} {rest : List Oper} {o : Oper} {act : Act} {Q : Exit → Act → World → Prop} (w : World) (hg : o.guard = none) (s y : Operand) (st : TypeId)
    (hop : o.op = .call { callee := .builtin .append, args := #[s, y], argTypes := #[st, st] }) (hu : P.underlying st = some (.slice t)) (z : Value) (sz : Nat) (hi : (P.info? t).map (fun i => (i.zero, i.size, i.bytes)) = some (some z, k, sz)) (hzc : z.cells.size = k) (hc0 : 0 < k)
    (cs : List Value) (hs : act.eval s = v) (hy : act.eval y = .slice (some ⟨w.heap.size, 0, none⟩) 1 1) (hown : RowC lo w t k v css) (hcs : cs.length = k) (h1 : ∀ u ∈ cs, u.oneCell' = true) (hlo : lo ≤ w.heap.size) (hb : (css.length + 1) * sz ≤ 140737488355328) (hl : css.length ≤ 2000000)
    (K : ∀ v' w', RowC lo w' t k v' (css ++ [cs]) → Kept (ownB v) w w' → Grows w (ownB v) (ownB v') → wpList P ops Q rest (act.put o.dst v') w') : wpList P ops Q (o :: rest) act (w.alloc (.cells cs.toArray t)) := by
  obtain ⟨v', w', hr, h2, h3, h4⟩ := hown.app (P := P) st o.type hu z sz hi hzc hc0 cs hcs h1 hlo hb hl
  have hw : Region.wanted o (yielded ops act.tmps) = true := by simp [Region.wanted, hg]
  refine BigFrame.wpList_want hw fun K' hK => ?_
  unfold Oper.wp execOp
  simp only [hop, resolve, invoke, builtin, Sem.run_bind, Sem.run_pure, Result.andThen_ok, List.map_toArray, List.map_cons, List.map_nil, hs, hy, hr]
  exact hK _ _ (K v' w' h2 h3 h4)
end
/-- A struct's load out of the middle of a row, at the list of a plain region, guarded or not. -/
theorem wp_load_m {P : Program} {ops : Array Oper} {rest : List Oper} {o : Oper} {act : Act} {Q : Exit → Act → World → Prop} (w : World) (hw : Region.wanted o (yielded ops act.tmps) = true) (ty : TypeId) (x : Operand) (hop : o.op = .load ty x) (g i : Nat) (cs : List Value) (d : TypeDesc)
    (hx : act.eval x = .pointer (some ⟨g, i, none⟩)) (hc : w.rangeAt g i cs) (hu : P.underlying ty = some d) (hd : d.isRow = true) (hi : (P.info? ty).map (·.size) = some cs.length)
    (K : wpList P ops Q rest (act.put o.dst (.agg cs.toArray)) w) : wpList P ops Q (o :: rest) act w := by
  refine BigFrame.wpList_want hw fun K' hK => ?_
  have hl := run_loadVar_mid (P := P) w g i ty cs d hc hu hd hi
  unfold Oper.wp execOp
  simp only [hop, hx, Instr.loadAt, Instr.sureAddr, Sem.run_bind, Sem.run_pure, Result.andThen_ok, hl]
  exact hK _ _ K
/-- A slice of one struct that the text lays, at the list of a plain region. -/
theorem wp_bs {P : Program} {ops : Array Oper} {rest : List Oper} {o : Oper} {act : Act} {Q : Exit → Act → World → Prop} (w : World) (hg : o.guard = none) (t e : TypeId) (x : Operand) (ho : o.op = .buildSlice t 1 #[(0, x)]) (cells : Array Value)
    (hr : (Instr.buildSlice t 1 #[(0, .agg cells)]).run P w = .ok (.slice (some ⟨w.heap.size, 0, none⟩) 1 1) (w.alloc (.cells cells e))) (hx : act.eval x = .agg cells)
    (K : wpList P ops Q rest (act.put o.dst (.slice (some ⟨w.heap.size, 0, none⟩) 1 1)) (w.alloc (.cells cells e))) : wpList P ops Q (o :: rest) act w := by
  have hw : Region.wanted o (yielded ops act.tmps) = true := by simp [Region.wanted, hg]
  refine BigFrame.wpList_want hw fun K' hK => ?_
  unfold Oper.wp execOp
  simp [ho, hx, hr, Result.andThen_ok]
  exact hK _ _ K
end Go.Proofs.Ytdgiellnklcioaa
