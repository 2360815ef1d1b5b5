/-
  The region of TagsMore's law, whole: whatever order is drawn, the filter is made, and what was there stays.
-/
import Derived.Test.YtpaehifgccfpoaaRn
namespace Go.Proofs.Ytpaehifgccfpoaa
open Go.RowKit

def Lof (l : Array Bool) : Nat → Bool := fun k => l.getD k false
def Eof (a : Act) : Nat → Value := fun k => a.tmps.getD k undef

/-- The frame beside the slots that the region fills. -/
structure Lk (T0 : Array Value) (l : Array Bool) (a : Act) : Prop where
  lsz : l.size = 19
  tsz : a.tmps.size = 77
  dfs : a.defers = []
  far : ∀ k, k ≠ 9 → ¬ (40 ≤ k ∧ k ≤ 56) → a.tmps[k]? = T0[k]?

theorem Lk.put {T0 : Array Value} {l : Array Bool} {a : Act} (h : Lk T0 l a) {i d : Nat} (v : Value) (hi : i < 19) (hd : d = 9 ∨ (40 ≤ d ∧ d ≤ 56)) :
    Lk T0 (l.setIfInBounds i true) (a.put (some d) v) ∧ Lof (l.setIfInBounds i true) = upd (Lof l) i ∧ Eof (a.put (some d) v) = updE (Eof a) d v := by
  have h1 := h.lsz
  have h2 := h.tsz
  refine ⟨⟨by simp [h1], by simp [Act.put, h2], h.dfs, fun k hk hk' => ?_⟩, funext fun k => ?_, funext fun k => ?_⟩
  · rw [← h.far k hk hk']
    have : d ≠ k := by rintro rfl; rcases hd with h | h; exact hk h; exact hk' h
    simp [Act.put, this]
  · show (l.setIfInBounds i true).getD k false = bif Nat.beq k i then true else l.getD k false
    rw [Array.getD_eq_getD_getElem?, Array.getD_eq_getD_getElem?, Array.getElem?_setIfInBounds]
    by_cases hk : i = k
    · subst hk
      simp [h1, hi]
    · have : Nat.beq k i = false := by
        rw [← Bool.not_eq_true]
        intro e
        exact hk (Nat.eq_of_beq_eq_true e).symm
      simp [hk, this]
  · have hd' : d < 77 := by omega
    show (a.tmps.setIfInBounds d v).getD k undef = bif Nat.beq k d then v else a.tmps.getD k undef
    rw [Array.getD_eq_getD_getElem?, Array.getD_eq_getD_getElem?, Array.getElem?_setIfInBounds]
    by_cases hk : d = k
    · subst hk
      simp [h2, hd']
    · have : Nat.beq k d = false := by
        rw [← Bool.not_eq_true]
        intro e
        exact hk (Nat.eq_of_beq_eq_true e).symm
      simp [hk, this]

/-- What the region leaves. -/
def Fin (w0 : World) (v1 : Value) (s0 s2 : List ByteArray) (t : ByteArray) (E : Nat → Value) (w : World) : Prop :=
  ∃ bb, E 9 = .pointer (some ⟨bb, 0, none⟩) ∧ Blk w bb 24 [E 46, v1, E 55] ∧ OwnS w w0.heap.size 9 (E 46) (s0 ++ [t]) ∧ OwnS w w0.heap.size 9 (E 55) (s2 ++ [t]) ∧ Below w0.heap.size w0 w

/-- What holds whatever has come up. -/
def MInv (w0 : World) (pb : Nat) (v0 v1 v2 : Value) (s0 s2 : List ByteArray) (t : ByteArray) (T0 : Array Value) (l : Array Bool) (a : Act) (w : World) : Prop :=
  Lk T0 l a ∧ ((Lof l 18 = false ∧ RI w0 pb v0 v1 v2 s0 s2 t (Lof l) (Eof a) w) ∨ ((∀ k, k < 19 → Lof l k = true) ∧ Fin w0 v1 s0 s2 t (Eof a) w))

theorem MInv.next {w0 : World} {pb : Nat} {v0 v1 v2 : Value} {s0 s2 : List ByteArray} {t : ByteArray} {T0 : Array Value} {l : Array Bool} {a : Act} {w' : World} {i d : Nat} {v : Value} (hk : Lk T0 l a) (hi : i < 18) (hd : d = 9 ∨ (40 ≤ d ∧ d ≤ 56)) (h18 : Lof l 18 = false)
    (h : RI w0 pb v0 v1 v2 s0 s2 t (upd (Lof l) i) (updE (Eof a) d v) w') : MInv w0 pb v0 v1 v2 s0 s2 t T0 (l.setIfInBounds i true) (a.put (some d) v) w' := by
  obtain ⟨h1, h2, h3⟩ := hk.put (i := i) v (by omega) hd
  refine ⟨h1, .inl ⟨?_, by rw [h2, h3]; exact h⟩⟩
  rw [h2]
  show (bif Nat.beq 18 i then true else Lof l 18) = false
  have : Nat.beq 18 i = false := by
    rw [← Bool.not_eq_true]
    intro e
    have := Nat.eq_of_beq_eq_true e
    omega
  rw [this]
  exact h18

section
variable {o : Oper} {a : Act} {K : Act → World → Prop} {Q : Exit → Act → World → Prop} {w w' : World}
theorem wp_move {x : Operand} (ho : o.op = .move x) (h : K (a.put o.dst (a.eval x)) w) : o.wp Try.prog a w K Q := by
  unfold Oper.wp execOp
  simp only [ho, Sem.run_pure]
  exact h
theorem wp_field {x : Operand} {k : Nat} {u v : Value} (ho : o.op = .fieldAddr 24 x k) (hx : a.eval x = u) (hr : (Instr.fieldAt 24 u k).run Try.prog w = .ok v w) (h : K (a.put o.dst v) w) : o.wp Try.prog a w K Q := by
  unfold Oper.wp execOp
  simp only [ho, hx, Sem.run_bind, Sem.run_pure, hr, Result.andThen_ok]
  exact h
theorem wp_load {x : Operand} {u v : Value} (ho : o.op = .load 22 x) (hx : a.eval x = u) (hr : (Instr.loadAt 22 u).run Try.prog w = .ok v w) (h : K (a.put o.dst v) w) : o.wp Try.prog a w K Q := by
  unfold Oper.wp execOp
  simp only [ho, hx, Sem.run_bind, Sem.run_pure, hr, Result.andThen_ok]
  exact h
theorem wp_bs0 {v : Value} (ho : o.op = .buildSlice 22 0 #[]) (hr : (Instr.buildSlice 22 0 #[]).run Try.prog w = .ok v w') (h : K (a.put o.dst v) w') : o.wp Try.prog a w K Q := by
  unfold Oper.wp execOp
  simp only [ho, List.map_toArray, List.map_nil, Sem.run_bind, Sem.run_pure, hr, Result.andThen_ok]
  exact h
theorem wp_bs1 {x : Operand} {u v : Value} (ho : o.op = .buildSlice 22 1 #[(0, x)]) (hx : a.eval x = u) (hr : (Instr.buildSlice 22 1 #[(0, u)]).run Try.prog w = .ok v w') (h : K (a.put o.dst v) w') : o.wp Try.prog a w K Q := by
  unfold Oper.wp execOp
  simp only [ho, List.map_toArray, List.map_cons, List.map_nil, hx, Sem.run_bind, Sem.run_pure, hr, Result.andThen_ok]
  exact h
theorem wp_build {x y z : Operand} {ux uy uz v : Value} (ho : o.op = .build 24 #[(0, x), (1, y), (2, z)]) (hx : a.eval x = ux) (hy : a.eval y = uy) (hz : a.eval z = uz) (hr : (Instr.build 24 #[(0, ux), (1, uy), (2, uz)]).run Try.prog w = .ok v w) (h : K (a.put o.dst v) w) : o.wp Try.prog a w K Q := by
  unfold Oper.wp execOp
  simp only [ho, List.map_toArray, List.map_cons, List.map_nil, hx, hy, hz, Sem.run_bind, Sem.run_pure, hr, Result.andThen_ok]
  exact h
theorem wp_alloc {v : Value} (ho : o.op = .alloc 24) (hr : (Instr.alloc 24 true (.tuple #[])).run Try.prog w = .ok v w') (h : K (a.put o.dst v) w') : o.wp Try.prog a w K Q := by
  unfold Oper.wp execOp
  simp only [ho, Sem.run_bind, Sem.run_pure, hr, Result.andThen_ok]
  exact h
theorem wp_store {x y : Operand} {ux uy : Value} (ho : o.op = .store 24 x y) (hx : a.eval x = ux) (hy : a.eval y = uy) (hr : (Instr.storeAt 24 ux uy).run Try.prog w = .ok () w') (h : K (a.put o.dst undef) w') : o.wp Try.prog a w K Q := by
  unfold Oper.wp execOp
  simp only [ho, hx, hy, Sem.run_bind, Sem.run_pure, hr, Result.andThen_ok]
  exact h
end

/-- The slots that the region fills, one behind the other. -/
def filled (T0 : Array Value) (E : Nat → Value) : Array Value := ((((((((((((((((((T0).setIfInBounds 9 (E 9)).setIfInBounds 40 (E 40)).setIfInBounds 41 (E 41)).setIfInBounds 42 (E 42)).setIfInBounds 43 (E 43)).setIfInBounds 44 (E 44)).setIfInBounds 45 (E 45)).setIfInBounds 46 (E 46)).setIfInBounds 47 (E 47)).setIfInBounds 48 (E 48)).setIfInBounds 49 (E 49)).setIfInBounds 50 (E 50)).setIfInBounds 51 (E 51)).setIfInBounds 52 (E 52)).setIfInBounds 53 (E 53)).setIfInBounds 54 (E 54)).setIfInBounds 55 (E 55)).setIfInBounds 56 (E 56)

theorem filled_eq {T0 : Array Value} {l : Array Bool} {a : Act} (hk : Lk T0 l a) (hT : T0.size = 77) : a.tmps = filled T0 (Eof a) := by
  have h2 := hk.tsz
  have he : ∀ k, k < 77 → a.tmps[k]? = some (Eof a k) := fun k hlt => by
    unfold Eof
    rw [Array.getD_eq_getD_getElem?, Array.getElem?_eq_getElem (by omega)]
    rfl
  apply Array.ext_getElem?
  intro k
  unfold filled
  simp only [Array.getElem?_setIfInBounds, Array.size_setIfInBounds, hT]
  by_cases h9 : k = 9 ∨ (40 ≤ k ∧ k ≤ 56)
  · have hlt : k < 77 := by omega
    have hcase : k = 9 ∨ k = 40 ∨ k = 41 ∨ k = 42 ∨ k = 43 ∨ k = 44 ∨ k = 45 ∨ k = 46 ∨ k = 47 ∨ k = 48 ∨ k = 49 ∨ k = 50 ∨ k = 51 ∨ k = 52 ∨ k = 53 ∨ k = 54 ∨ k = 55 ∨ k = 56 := by omega
    rw [he k hlt]
    rcases hcase with rfl | rfl | rfl | rfl | rfl | rfl | rfl | rfl | rfl | rfl | rfl | rfl | rfl | rfl | rfl | rfl | rfl | rfl <;> simp
  · rw [hk.far k (fun e => h9 (.inl e)) (fun e => h9 (.inr e))]
    have hns : 9 ≠ k ∧ 40 ≠ k ∧ 41 ≠ k ∧ 42 ≠ k ∧ 43 ≠ k ∧ 44 ≠ k ∧ 45 ≠ k ∧ 46 ≠ k ∧ 47 ≠ k ∧ 48 ≠ k ∧ 49 ≠ k ∧ 50 ≠ k ∧ 51 ≠ k ∧ 52 ≠ k ∧ 53 ≠ k ∧ 54 ≠ k ∧ 55 ≠ k ∧ 56 ≠ k := by omega
    simp [hns]
end Go.Proofs.Ytpaehifgccfpoaa
