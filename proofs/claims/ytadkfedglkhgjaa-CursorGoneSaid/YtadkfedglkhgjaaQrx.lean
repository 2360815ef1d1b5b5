/-
  Layer 14: region 35 of CursorGone: a cursor is asked for its third page. (Made by tools/mkqrx.py.)
-/
import Derived.Test.YtadkfedglkhgjaaQru
import Derived.Test.YtadkfedglkhgjaaRj
namespace Go.Proofs.Ytadkfedglkhgjaa
open Go.RowKit Go.ChangeShapes Go.WideShapes Go.ChangeAt Go.Maps

section
variable {P : Program} {o : Oper} {a : Act} {K : Act → World → Prop} {Q : Exit → Act → World → Prop} {w w' : World} {t : TypeId} {x y z : Operand} {u u2 u3 v : Value}
theorem q_alloc (ho : o.op = .alloc t) (hr : (Instr.alloc t true (.tuple #[])).run P w = .ok v w') (h : K (a.put o.dst v) w') : o.wp P a w K Q := by
  unfold Oper.wp execOp
  simp only [ho, Sem.run_bind, Sem.run_pure, hr, Result.andThen_ok]
  exact h
theorem q_extract {n : Nat} (ho : o.op = .extract x n) (hx : a.eval x = u) (hr : (Instr.extract u n).run P w = .ok v w) (h : K (a.put o.dst v) w) : o.wp P a w K Q := by
  unfold Oper.wp execOp
  simp only [ho, hx, Sem.run_bind, Sem.run_pure, hr, Result.andThen_ok]
  exact h
theorem put_same {k : Nat} (h : a.tmps[k]? = some v) : a.put (some k) v = a := by
  cases a with
  | mk T D =>
    simp only at h
    show (⟨T.setIfInBounds k v, D⟩ : Act) = ⟨T, D⟩
    congr 1
    refine Array.ext_getElem? fun i => ?_
    rw [Array.getElem?_setIfInBounds]
    split
    · rename_i e
      subst e
      rw [h]
      split
      · rfl
      · rename_i h2
        rw [Array.getElem?_eq_none (by omega)] at h
        cases h
    · rfl
end
theorem blank_alloc (w : World) : (Instr.alloc 49 true (.tuple #[])).run Try.prog w = .ok (.pointer (some ⟨w.heap.size, 0, none⟩)) (w.alloc (.cells #[.int .i64 0, .slice none 0 0, .slice none 0 0, .slice none 0 0, .slice none 0 0, .bool false, .int .i64 0, .int .u32 0] 49)) := by go_simp
set_option maxRecDepth 100000 in
theorem blank_store (w : World) (g : Nat) (h : Blk w g 49 [.int .i64 0, .slice none 0 0, .slice none 0 0, .slice none 0 0, .slice none 0 0, .bool false, .int .i64 0, .int .u32 0]) : (Instr.storeAt 49 (.pointer (some ⟨g, 0, none⟩)) (.agg #[.int .i64 0, .slice none 0 0, .slice none 0 0, .slice none 0 0, .slice none 0 0, .bool false, .int .i64 0, .int .u32 0])).run Try.prog w = .ok () ((((((((w.setCell ⟨g, 0, none⟩ (.int .i64 0)).setCell ⟨g, 1, none⟩ (.slice none 0 0)).setCell ⟨g, 2, none⟩ (.slice none 0 0)).setCell ⟨g, 3, none⟩ (.slice none 0 0)).setCell ⟨g, 4, none⟩ (.slice none 0 0)).setCell ⟨g, 5, none⟩ (.bool false)).setCell ⟨g, 6, none⟩ (.int .i64 0)).setCell ⟨g, 7, none⟩ (.int .u32 0)) := by
  have z0 : w.cell? ⟨g, 0, none⟩ = some (.int .i64 0) := h.cell 0
  have z1 : w.cell? ⟨g, 1, none⟩ = some (.slice none 0 0) := h.cell 1
  have z2 : w.cell? ⟨g, 2, none⟩ = some (.slice none 0 0) := h.cell 2
  have z3 : w.cell? ⟨g, 3, none⟩ = some (.slice none 0 0) := h.cell 3
  have z4 : w.cell? ⟨g, 4, none⟩ = some (.slice none 0 0) := h.cell 4
  have z5 : w.cell? ⟨g, 5, none⟩ = some (.bool false) := h.cell 5
  have z6 : w.cell? ⟨g, 6, none⟩ = some (.int .i64 0) := h.cell 6
  have z7 : w.cell? ⟨g, 7, none⟩ = some (.int .u32 0) := h.cell 7
  have f0 := h.frozen 0
  have f1 := h.frozen 1
  have f2 := h.frozen 2
  have f3 := h.frozen 3
  have f4 := h.frozen 4
  have f5 := h.frozen 5
  have f6 := h.frozen 6
  have f7 := h.frozen 7
  clear h
  go_simp
def dsT35 (i : Nat) : Nat := match i with
  | 0 => 108
  | 1 => 109
  | 2 => 110
  | 3 => 111
  | 4 => 112
  | 5 => 113
  | 6 => 114
  | 7 => 115
  | 8 => 116
  | 9 => 117
  | 10 => 118
  | 11 => 107
  | 12 => 119
  | 13 => 120
  | 14 => 17
  | 15 => 1
  | 16 => 18
  | _ + 17 => 0
def fT35 (w0 : World) (x g7 g8 c7 c8 M k ok nk nw : Nat) (er idle : Int) (L : Nat → Bool) (j : Nat) (v : Value) (w : World) : Prop :=
  match j with
  | 0 => v = .pointer (some ⟨x, 0, none⟩)
  | 1 => v = .slice (some ⟨g8, 0, none⟩) M c8
  | 2 => v = .int .i64 (k : Int)
  | 3 => v = .pointer (some ⟨g8, k, none⟩)
  | 4 => v = .int .u64 (ok : Int)
  | 5 => v = .slice (some ⟨g7, 0, none⟩) M c7
  | 6 => v = .int .i64 (k : Int)
  | 7 => v = .pointer (some ⟨g7, k, none⟩)
  | 8 => v = .int .u32 (nk : Int)
  | 9 => v = .int .u32 (nw : Int)
  | 10 => v = .tuple #[.agg #[.int .i64 0, .slice none 0 0, .slice none 0 0, .slice none 0 0, .slice none 0 0, .bool false, .int .i64 0, .int .u32 0], .int .i64 er]
  | 11 => v = .tuple #[.agg #[.int .i64 0, .slice none 0 0, .slice none 0 0, .slice none 0 0, .slice none 0 0, .bool false, .int .i64 0, .int .u32 0], .int .i64 er]
  | 12 => v = .agg #[.int .i64 0, .slice none 0 0, .slice none 0 0, .slice none 0 0, .slice none 0 0, .bool false, .int .i64 0, .int .u32 0]
  | 13 => v = .int .i64 er
  | 14 => ∃ g, v = .pointer (some ⟨g, 0, none⟩) ∧ w0.heap.size ≤ g ∧ (L 15 = false → Blk w g 49 [.int .i64 0, .slice none 0 0, .slice none 0 0, .slice none 0 0, .slice none 0 0, .bool false, .int .i64 0, .int .u32 0])
  | 15 => v = .int .u32 idle
  | 16 => v = .int .i64 er
  | _ => True
theorem fT35_on (w0 : World) (x g7 g8 c7 c8 M k ok nk nw : Nat) (er idle : Int) (L : Nat → Bool) (i j : Nat) (v : Value) (w w' : World) (h : fT35 w0 x g7 g8 c7 c8 M k ok nk nw er idle L j v w) (hb : Below w.heap.size w w') : fT35 w0 x g7 g8 c7 c8 M k ok nk nw er idle (updN L i) j v w' := by
  match j, h with
  | 0, h => exact h
  | 1, h => exact h
  | 2, h => exact h
  | 3, h => exact h
  | 4, h => exact h
  | 5, h => exact h
  | 6, h => exact h
  | 7, h => exact h
  | 8, h => exact h
  | 9, h => exact h
  | 10, h => exact h
  | 11, h => exact h
  | 12, h => exact h
  | 13, h => exact h
  | 14, h => 
    obtain ⟨g, e, h1, h2⟩ := h
    refine ⟨g, e, h1, fun hL => (Kept.of_below (F := []) hb (Nat.le_refl _)).blk (h2 ?_) (by simp)⟩
    unfold updN at hL
    split at hL
    · cases hL
    · exact hL
  | 15, h => exact h
  | 16, h => exact h
  | _ + 17, _ => exact trivial
set_option maxRecDepth 100000 in
set_option maxHeartbeats 6400000 in
theorem take35 {rid : Nat} {ops : Array Oper} {Q : Exit → Act → World → Prop} {T0 : Array Value} (w0 : World) (x g7 g8 c7 c8 M k ok nk nw : Nat) (er idle : Int) (hsize : ops.size = 17) (hb : edgesBB ops = true)
    (op0 : OpIs ops 0 (.move (.tmp 5)) (some 108) [])
    (op1 : OpIs ops 1 (.move (.tmp 8)) (some 109) [])
    (op2 : OpIs ops 2 (.move (.tmp 16)) (some 110) [])
    (op3 : OpIs ops 3 (.indexAddr 71 (.tmp 109) (.tmp 110)) (some 111) [1, 2])
    (op4 : OpIs ops 4 (.load 42 (.tmp 111)) (some 112) [3])
    (op5 : OpIs ops 5 (.move (.tmp 7)) (some 113) [])
    (op6 : OpIs ops 6 (.move (.tmp 16)) (some 114) [])
    (op7 : OpIs ops 7 (.indexAddr 70 (.tmp 113) (.tmp 114)) (some 115) [5, 6])
    (op8 : OpIs ops 8 (.load 22 (.tmp 115)) (some 116) [7])
    (op9 : OpIs ops 9 (.move (.tmp 6)) (some 117) [])
    (op10 : OpIs ops 10 (.call { callee := .value (.func 11), args := #[.tmp 108, .tmp 112, .tmp 116, .const (.int .u32 3), .tmp 117], argTypes := #[25, 42, 22, 22, 22] }) (some 118) [0, 4, 8, 9])
    (op11 : OpIs ops 11 (.move (.tmp 118)) (some 107) [10])
    (op12 : OpIs ops 12 (.extract (.tmp 107) 0) (some 119) [11])
    (op13 : OpIs ops 13 (.extract (.tmp 107) 1) (some 120) [11])
    (op14 : OpIs ops 14 (.alloc 49) (some 17) [])
    (op15 : OpIs ops 15 (.store 49 (.tmp 17) (.tmp 119)) (none) [14, 12])
    (op16 : OpIs ops 16 (.assign (.tmp 120)) (some 18) [13])
    (hT : T0.size = 142) (t5 : T0[5]? = some (.pointer (some ⟨x, 0, none⟩))) (t6 : T0[6]? = some (.int .u32 (nw : Int))) (t7 : T0[7]? = some (.slice (some ⟨g7, 0, none⟩) M c7)) (t8 : T0[8]? = some (.slice (some ⟨g8, 0, none⟩) M c8)) (t16 : T0[16]? = some (.int .i64 (k : Int))) (t1 : T0[1]? = some (.int .u32 idle))
    (h7 : g7 < w0.heap.size) (h8 : g8 < w0.heap.size) (hkM : k < M) (d7 : w0.cell? ⟨g7, k, none⟩ = some (.int .u32 (nk : Int))) (d8 : w0.cell? ⟨g8, k, none⟩ = some (.int .u64 (ok : Int)))
    (CT : ∀ W, Below w0.heap.size w0 W → Calls Try.prog 11 #[.pointer (some ⟨x, 0, none⟩), .int .u64 (ok : Int), .int .u32 (nk : Int), .int .u32 3, .int .u32 (nw : Int)] W fun e w' => e = .returned (.tuple #[.agg #[.int .i64 0, .slice none 0 0, .slice none 0 0, .slice none 0 0, .slice none 0 0, .bool false, .int .i64 0, .int .u32 0], .int .i64 er]) ∧ Below W.heap.size W w')
    (hQ : ∀ (E : Nat → Value) (w : World), (∀ i, i < 14 → True) → Below w0.heap.size w0 w → E 16 = .int .i64 er → E 15 = .int .u32 idle → Q .normal ⟨filledR T0 dsT35 E 17, []⟩ w) :
    (Code.region rid ops true).wp Try.prog Q ⟨T0, []⟩ w0 := by
  have hinj : ∀ p q, p < ops.size → q < ops.size → dsT35 p = dsT35 q → p = q := by
    rw [hsize]
    have h1 : ∀ p, p < 17 → ∀ q, q < 17 → dsT35 p = dsT35 q → p = q := by decide
    exact fun p q hp hq => h1 p hp q hq
  have hds : ∀ p, p < ops.size → dsT35 p < T0.size := by
    rw [hsize, hT]
    decide
  refine wp_growB w0 dsT35 (fT35 w0 x g7 g8 c7 c8 M k ok nk nw er idle) (by kernel_rfl) hb (fT35_on w0 x g7 g8 c7 c8 M k ok nk nw er idle) hinj hds ?_ ?_
  · intro l a w j o hI ho hl hd K hK
    have hj : j < 17 := by rw [← hsize]; exact (Array.getElem?_eq_some_iff.1 ho).1
    have far : ∀ q, (∀ p, p < 17 → dsT35 p ≠ q) → ∀ p, p < ops.size → l.getD p false = true → dsT35 p ≠ q := fun q hq p hp _ => hq p (by rw [← hsize]; exact hp)
    have e5 : a.eval (.tmp 5) = .pointer (some ⟨x, 0, none⟩) := hI.ev 5 _ t5 (far 5 (by decide))
    have e6 : a.eval (.tmp 6) = .int .u32 (nw : Int) := hI.ev 6 _ t6 (far 6 (by decide))
    have e7 : a.eval (.tmp 7) = .slice (some ⟨g7, 0, none⟩) M c7 := hI.ev 7 _ t7 (far 7 (by decide))
    have e8 : a.eval (.tmp 8) = .slice (some ⟨g8, 0, none⟩) M c8 := hI.ev 8 _ t8 (far 8 (by decide))
    have e16 : a.eval (.tmp 16) = .int .i64 (k : Int) := hI.ev 16 _ t16 (far 16 (by decide))
    have hsp : a.tmps[1]? = some (.int .u32 idle) := by
      by_cases h15 : l.getD 15 false = true
      · have := hI.slot 15 (by rw [hsize]; decide) h15
        have e : a.tmps.getD 1 undef = .int .u32 idle := this
        rw [Array.getD_eq_getD_getElem?, Array.getElem?_eq_getElem (by rw [hI.tsz, hT]; decide)] at e
        rw [Array.getElem?_eq_getElem (by rw [hI.tsz, hT]; decide)]
        exact congrArg some e
      · rw [hI.far 1 fun p hp hlp e => ?_]
        · exact t1
        · have h1 : ∀ p, p < 17 → dsT35 p = 1 → p = 15 := by decide
          have := h1 p (by rw [← hsize]; exact hp) e
          subst this
          exact h15 hlp
    have hw0 := hI.below.size
    have q7 := (hI.below.cell (p := ⟨g7, k, none⟩) h7).trans d7
    have q8 := (hI.below.cell (p := ⟨g8, k, none⟩) h8).trans d8
    have hki : (k : Int) < (M : Int) := by omega
    have hcase : j = 0 ∨ j = 1 ∨ j = 2 ∨ j = 3 ∨ j = 4 ∨ j = 5 ∨ j = 6 ∨ j = 7 ∨ j = 8 ∨ j = 9 ∨ j = 10 ∨ j = 11 ∨ j = 12 ∨ j = 13 ∨ j = 14 ∨ j = 15 ∨ j = 16 := by omega
    rcases hcase with rfl | rfl | rfl | rfl | rfl | rfl | rfl | rfl | rfl | rfl | rfl | rfl | rfl | rfl | rfl | rfl | rfl
    · obtain ⟨hop, hdst, hgd, hL⟩ := op0.useQ ho
      refine g_if hgd (g_move hop ?_)
      rw [hdst]
      exact hK _ _ (show a.eval (.tmp 5) = _ from e5) (.inl (Below.refl _ _))
    · obtain ⟨hop, hdst, hgd, hL⟩ := op1.useQ ho
      refine g_if hgd (g_move hop ?_)
      rw [hdst]
      exact hK _ _ (show a.eval (.tmp 8) = _ from e8) (.inl (Below.refl _ _))
    · obtain ⟨hop, hdst, hgd, hL⟩ := op2.useQ ho
      refine g_if hgd (g_move hop ?_)
      rw [hdst]
      exact hK _ _ (show a.eval (.tmp 16) = _ from e16) (.inl (Below.refl _ _))
    · obtain ⟨hop, hdst, hgd, hL⟩ := op3.useQ ho
      refine g_if hgd (g_index hop (show a.eval (.tmp 109) = .slice (some ⟨g8, 0, none⟩) M c8 from (hI.slot 1 (by rw [hsize]; decide) (hd 1 (hL 1 (by simp))))) (show a.eval (.tmp 110) = .int .i64 (k : Int) from (hI.slot 2 (by rw [hsize]; decide) (hd 2 (hL 2 (by simp))))) (show (Instr.indexAt 71 (.slice (some ⟨g8, 0, none⟩) M c8) (.int .i64 (k : Int))).run Try.prog w = .ok (.pointer (some ⟨g8, k, none⟩)) w by go_simp) ?_)
      rw [hdst]
      exact hK _ _ rfl (.inl (Below.refl _ _))
    · obtain ⟨hop, hdst, hgd, hL⟩ := op4.useQ ho
      refine g_if hgd (g_load hop (show a.eval (.tmp 111) = .pointer (some ⟨g8, k, none⟩) from (hI.slot 3 (by rw [hsize]; decide) (hd 3 (hL 3 (by simp))))) (show (Instr.loadAt 42 (.pointer (some ⟨g8, k, none⟩))).run Try.prog w = .ok (.int .u64 (ok : Int)) w by go_simp) ?_)
      rw [hdst]
      exact hK _ _ rfl (.inl (Below.refl _ _))
    · obtain ⟨hop, hdst, hgd, hL⟩ := op5.useQ ho
      refine g_if hgd (g_move hop ?_)
      rw [hdst]
      exact hK _ _ (show a.eval (.tmp 7) = _ from e7) (.inl (Below.refl _ _))
    · obtain ⟨hop, hdst, hgd, hL⟩ := op6.useQ ho
      refine g_if hgd (g_move hop ?_)
      rw [hdst]
      exact hK _ _ (show a.eval (.tmp 16) = _ from e16) (.inl (Below.refl _ _))
    · obtain ⟨hop, hdst, hgd, hL⟩ := op7.useQ ho
      refine g_if hgd (g_index hop (show a.eval (.tmp 113) = .slice (some ⟨g7, 0, none⟩) M c7 from (hI.slot 5 (by rw [hsize]; decide) (hd 5 (hL 5 (by simp))))) (show a.eval (.tmp 114) = .int .i64 (k : Int) from (hI.slot 6 (by rw [hsize]; decide) (hd 6 (hL 6 (by simp))))) (show (Instr.indexAt 70 (.slice (some ⟨g7, 0, none⟩) M c7) (.int .i64 (k : Int))).run Try.prog w = .ok (.pointer (some ⟨g7, k, none⟩)) w by go_simp) ?_)
      rw [hdst]
      exact hK _ _ rfl (.inl (Below.refl _ _))
    · obtain ⟨hop, hdst, hgd, hL⟩ := op8.useQ ho
      refine g_if hgd (g_load hop (show a.eval (.tmp 115) = .pointer (some ⟨g7, k, none⟩) from (hI.slot 7 (by rw [hsize]; decide) (hd 7 (hL 7 (by simp))))) (show (Instr.loadAt 22 (.pointer (some ⟨g7, k, none⟩))).run Try.prog w = .ok (.int .u32 (nk : Int)) w by go_simp) ?_)
      rw [hdst]
      exact hK _ _ rfl (.inl (Below.refl _ _))
    · obtain ⟨hop, hdst, hgd, hL⟩ := op9.useQ ho
      refine g_if hgd (g_move hop ?_)
      rw [hdst]
      exact hK _ _ (show a.eval (.tmp 6) = _ from e6) (.inl (Below.refl _ _))
    · obtain ⟨hop, hdst, hgd, hL⟩ := op10.useQ ho
      refine g_if hgd (q_call (enters_of Try.func11 (by kernel_rfl) rfl) hop (us := #[.pointer (some ⟨x, 0, none⟩), .int .u64 (ok : Int), .int .u32 (nk : Int), .int .u32 3, .int .u32 (nw : Int)]) (by simp only [List.map_toArray, List.map_cons, List.map_nil]; rw [(show a.eval (.tmp 108) = .pointer (some ⟨x, 0, none⟩) from (hI.slot 0 (by rw [hsize]; decide) (hd 0 (hL 0 (by simp))))), (show a.eval (.tmp 112) = .int .u64 (ok : Int) from (hI.slot 4 (by rw [hsize]; decide) (hd 4 (hL 4 (by simp))))), (show a.eval (.tmp 116) = .int .u32 (nk : Int) from (hI.slot 8 (by rw [hsize]; decide) (hd 8 (hL 8 (by simp))))), (show a.eval (.tmp 117) = .int .u32 (nw : Int) from (hI.slot 9 (by rw [hsize]; decide) (hd 9 (hL 9 (by simp)))))]; rfl) (CT w hI.below) ?_)
      rintro e w' ⟨rfl, hbel⟩
      refine ⟨_, rfl, ?_⟩
      rw [hdst]
      exact hK _ _ rfl (.inl hbel)
    · obtain ⟨hop, hdst, hgd, hL⟩ := op11.useQ ho
      refine g_if hgd (g_move hop ?_)
      rw [hdst]
      exact hK _ _ (hI.slot 10 (by rw [hsize]; decide) (hd 10 (hL 10 (by simp)))) (.inl (Below.refl _ _))
    · obtain ⟨hop, hdst, hgd, hL⟩ := op12.useQ ho
      refine g_if hgd (q_extract hop (show a.eval (.tmp 107) = .tuple #[.agg #[.int .i64 0, .slice none 0 0, .slice none 0 0, .slice none 0 0, .slice none 0 0, .bool false, .int .i64 0, .int .u32 0], .int .i64 er] from (hI.slot 11 (by rw [hsize]; decide) (hd 11 (hL 11 (by simp))))) (show (Instr.extract (.tuple #[.agg #[.int .i64 0, .slice none 0 0, .slice none 0 0, .slice none 0 0, .slice none 0 0, .bool false, .int .i64 0, .int .u32 0], .int .i64 er]) 0).run Try.prog w = .ok (.agg #[.int .i64 0, .slice none 0 0, .slice none 0 0, .slice none 0 0, .slice none 0 0, .bool false, .int .i64 0, .int .u32 0]) w by go_simp) ?_)
      rw [hdst]
      exact hK _ _ rfl (.inl (Below.refl _ _))
    · obtain ⟨hop, hdst, hgd, hL⟩ := op13.useQ ho
      refine g_if hgd (q_extract hop (show a.eval (.tmp 107) = .tuple #[.agg #[.int .i64 0, .slice none 0 0, .slice none 0 0, .slice none 0 0, .slice none 0 0, .bool false, .int .i64 0, .int .u32 0], .int .i64 er] from (hI.slot 11 (by rw [hsize]; decide) (hd 11 (hL 11 (by simp))))) (show (Instr.extract (.tuple #[.agg #[.int .i64 0, .slice none 0 0, .slice none 0 0, .slice none 0 0, .slice none 0 0, .bool false, .int .i64 0, .int .u32 0], .int .i64 er]) 1).run Try.prog w = .ok (.int .i64 er) w by go_simp) ?_)
      rw [hdst]
      exact hK _ _ rfl (.inl (Below.refl _ _))
    · obtain ⟨hop, hdst, hgd, hL⟩ := op14.useQ ho
      refine g_if hgd (q_alloc hop (blank_alloc w) ?_)
      rw [hdst]
      exact hK _ _ ⟨_, rfl, hw0, fun _ => Blk.new w _ _⟩ (.inl ((Below.refl _ _).alloc (Nat.le_refl _) _))
    · obtain ⟨hop, hdst, hgd, hL⟩ := op15.useQ ho
      obtain ⟨g, eg, hge, hblk⟩ := (hI.slot 14 (by rw [hsize]; decide) (hd 14 (hL 14 (by simp))))
      have hB := hblk hl
      have eg' : a.eval (.tmp 17) = .pointer (some ⟨g, 0, none⟩) := eg
      refine g_if hgd (q_store hop eg' (show a.eval (.tmp 119) = .agg #[.int .i64 0, .slice none 0 0, .slice none 0 0, .slice none 0 0, .slice none 0 0, .bool false, .int .i64 0, .int .u32 0] from (hI.slot 12 (by rw [hsize]; decide) (hd 12 (hL 12 (by simp))))) (blank_store w g hB) ?_)
      rw [hdst]
      have hp := hK (.int .u32 idle) ((((((((w.setCell ⟨g, 0, none⟩ (.int .i64 0)).setCell ⟨g, 1, none⟩ (.slice none 0 0)).setCell ⟨g, 2, none⟩ (.slice none 0 0)).setCell ⟨g, 3, none⟩ (.slice none 0 0)).setCell ⟨g, 4, none⟩ (.slice none 0 0)).setCell ⟨g, 5, none⟩ (.bool false)).setCell ⟨g, 6, none⟩ (.int .i64 0)).setCell ⟨g, 7, none⟩ (.int .u32 0)) rfl (.inr ⟨?_, ?_⟩)
      · rw [show dsT35 15 = 1 from rfl, put_same hsp] at hp
        exact hp
      · exact (show Kept [g] w _ from (((((((((Kept.refl [g] w).setCell ⟨g, 0, none⟩ (.int .i64 0) (.inl (by simp))).setCell ⟨g, 1, none⟩ (.slice none 0 0) (.inl (by simp))).setCell ⟨g, 2, none⟩ (.slice none 0 0) (.inl (by simp))).setCell ⟨g, 3, none⟩ (.slice none 0 0) (.inl (by simp))).setCell ⟨g, 4, none⟩ (.slice none 0 0) (.inl (by simp))).setCell ⟨g, 5, none⟩ (.bool false) (.inl (by simp))).setCell ⟨g, 6, none⟩ (.int .i64 0) (.inl (by simp))).setCell ⟨g, 7, none⟩ (.int .u32 0) (.inl (by simp)))).below (fun b hb => by rw [List.mem_singleton] at hb; omega) hw0
      · intro j u hj hfj
        have hne : Lof l 15 = false := hl
        rcases Nat.lt_or_ge j 17 with h17 | h17
        · have hcj : j = 0 ∨ j = 1 ∨ j = 2 ∨ j = 3 ∨ j = 4 ∨ j = 5 ∨ j = 6 ∨ j = 7 ∨ j = 8 ∨ j = 9 ∨ j = 10 ∨ j = 11 ∨ j = 12 ∨ j = 13 ∨ j = 14 ∨ j = 15 ∨ j = 16 := by omega
          rcases hcj with rfl | rfl | rfl | rfl | rfl | rfl | rfl | rfl | rfl | rfl | rfl | rfl | rfl | rfl | rfl | rfl | rfl
          · exact hfj
          · exact hfj
          · exact hfj
          · exact hfj
          · exact hfj
          · exact hfj
          · exact hfj
          · exact hfj
          · exact hfj
          · exact hfj
          · exact hfj
          · exact hfj
          · exact hfj
          · exact hfj
          · obtain ⟨g2, e2, h1, h2⟩ := hfj
            refine ⟨g2, e2, h1, fun hL2 => ?_⟩
            unfold updN at hL2
            rw [if_pos rfl] at hL2
            cases hL2
          · exact hfj
          · exact hfj
        · match j, h17, hfj with
          | j' + 17, _, _ => exact trivial
    · obtain ⟨hop, hdst, hgd, hL⟩ := op16.useQ ho
      refine g_if hgd (g_assign hop ?_)
      rw [hdst]
      exact hK _ _ (hI.slot 13 (by rw [hsize]; decide) (hd 13 (hL 13 (by simp)))) (.inl (Below.refl _ _))
  · intro a w hfar hsz hdf hbel hf
    have e16 : a.tmps.getD 18 undef = .int .i64 er := by
      obtain ⟨L, h⟩ := hf 16 (by rw [hsize]; decide)
      exact h
    have e15 : a.tmps.getD 1 undef = .int .u32 idle := by
      obtain ⟨L, h⟩ := hf 15 (by rw [hsize]; decide)
      exact h
    have e := filledR_eq (T0 := T0) (ds := dsT35) ops.size hsz hfar
    rw [hsize] at e
    cases a with
    | mk T D =>
      simp only at e hdf e16 e15
      subst hdf
      rw [show (⟨T, []⟩ : Act) = ⟨filledR T0 dsT35 (fun i => T.getD (dsT35 i) undef) 17, []⟩ from congrArg (fun T => (⟨T, []⟩ : Act)) e]
      exact hQ _ w (fun _ _ => trivial) hbel e16 e15
end Go.Proofs.Ytadkfedglkhgjaa
