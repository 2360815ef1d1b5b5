/-
  Operations of regions that draw their order, each by its run: nil checks, builds, stores, boxes, map updates, calls. No program stands here.
-/
import Derived.Test.YtdgiellnklcioaaRg
namespace Go.Proofs.Ytdgiellnklcioaa
open Go.RowKit Go.ChangeShapes Go.WideShapes Go.ChangeAt

theorem OpIs.useQ {ops : Array Oper} {i : Nat} {op : Op} {dst : Option Tmp} {deps : List Nat} (h : OpIs ops i op dst deps) {o : Oper} (ho : ops[i]? = some o) :
    o.op = op ∧ o.dst = dst ∧ o.guard = none ∧ ∀ d ∈ deps, waits o d = true := by
  obtain ⟨o', ho', h1, h2, h3, h4⟩ := h
  rw [ho] at ho'
  obtain rfl := Option.some.inj ho'
  exact ⟨h1, h2, h3, fun d hd => List.all_eq_true.1 h4 d hd⟩
section
variable {P : Program} {o : Oper} {a : Act} {K : Act → World → Prop} {Q : Exit → Act → World → Prop} {w w' : World} {t : TypeId} {x y z : Operand} {u u2 u3 v : Value}
theorem q_nil {p : Addr} (ho : o.op = .nilCheck x) (hx : a.eval x = .pointer (some p)) (h : K (a.put o.dst (.pointer (some p))) w) : o.wp P a w K Q := by
  unfold Oper.wp execOp
  simp only [ho, hx, Sem.run_pure]
  exact h
theorem q_build {ps : List (Nat × Operand)} {us : List (Nat × Value)} (ho : o.op = .build t ps.toArray) (hx : (ps.map fun p => (p.1, a.eval p.2)) = us) (hr : (Instr.build t us.toArray).run P w = .ok v w) (h : K (a.put o.dst v) w) : o.wp P a w K Q := by
  unfold Oper.wp execOp
  simp only [ho, List.map_toArray, hx, Sem.run_bind, Sem.run_pure, hr, Result.andThen_ok]
  exact h
theorem q_store (ho : o.op = .store t x y) (hx : a.eval x = u) (hy : a.eval y = u2) (hr : (Instr.storeAt t u u2).run P w = .ok () w') (h : K (a.put o.dst undef) w') : o.wp P a w K Q := by
  unfold Oper.wp execOp
  simp only [ho, hx, hy, Sem.run_bind, Sem.run_pure, hr, Result.andThen_ok]
  exact h
theorem q_box (ho : o.op = .box t x) (hx : a.eval x = u) (hr : (Instr.box t u).run P w = .ok v w') (h : K (a.put o.dst v) w') : o.wp P a w K Q := by
  unfold Oper.wp execOp
  simp only [ho, hx, Sem.run_bind, Sem.run_pure, hr, Result.andThen_ok]
  exact h
theorem q_mapUpdate (ho : o.op = .mapUpdate t x y z) (hx : a.eval x = u) (hy : a.eval y = u2) (hz : a.eval z = u3) (hr : (Instr.mapUpdate t u u2 u3).run P w = .ok () w') (h : K (a.put o.dst undef) w') : o.wp P a w K Q := by
  unfold Oper.wp execOp
  simp only [ho, hx, hy, hz, Sem.run_bind, Sem.run_pure, hr, Result.andThen_ok]
  exact h
theorem q_call {f : Nat} {args : Array Operand} {us : Array Value} {tys : Array TypeId} {R : Ending → World → Prop} (hen : ∀ args w, (callFunc f args).run P w = .ok (.enter f args) w) (ho : o.op = .call { callee := .value (.func f), args := args, argTypes := tys }) (hargs : args.map a.eval = us) (hc : Calls P f us w R) (hR : ∀ e w', R e w' → ∃ v, e = .returned v ∧ K (a.put o.dst v) w') : o.wp P a w K Q := by
  have hx : (execOp a.eval o).run P w = .ok (.enter f us) w := by
    unfold execOp
    rw [ho]
    subst hargs
    have h0 := hen (args.map a.eval)
    simp only [resolve, invoke, Sem.run_bind]
    simp [Deferred.ofValue, Act.eval, h0]
  unfold Oper.wp
  rw [hx, Oper.upon_enter]
  refine hc.mono ?_
  intro e w' h
  obtain ⟨v, rfl, hk⟩ := hR e w' h
  exact hk
end
end Go.Proofs.Ytdgiellnklcioaa
