/-
  Layer 14, the program's table: Open. (Made by tools/mkqrk.py.)
-/
import Derived.Test.YtadkfedglkhgjaaQrj
import Derived.Test.YtadkfedglkhgjaaQrw
namespace Go.Proofs.Ytadkfedglkhgjaa
open Go.RowKit Go.ChangeShapes Go.WideShapes Go.ChangeAt Go.Maps

theorem AskRows.to {lo : Nat} {w w' : World} {y : QryL} (h : AskRows lo w y) (hb : Below w.heap.size w w') : AskRows lo w' y := ⟨row_to h.1 (Nat.le_refl _) hb, h.2.1.to (Nat.le_refl _) hb, h.2.2.1.to (Nat.le_refl _) hb, h.2.2.2.to (Nat.le_refl _) hb⟩
/-- A new cursor, as a value; in a block of its own. -/
def NewC (lo owner : Nat) (pin : Int) (q : QryV) (now : Nat) (w : World) (v : Value) : Prop := ∃ y : QryL, y.q = q ∧ AskRows lo w y ∧ v = .agg #[.int .u64 (owner : Int), .int .i64 pin, .slice y.pv.1 y.pv.2.1 y.pv.2.2, .slice y.p0.1 y.p0.2.1 y.p0.2.2, .slice y.p1.1 y.p1.2.1 y.p1.2.2, .slice y.p2.1 y.p2.2.1 y.p2.2.2, .int .u32 (now : Int), .int .u32 0, .bool false, .int .i64 0, .int .u32 0, .bool false, .int .i64 0, .int .u32 0]
theorem NewC.to {lo owner now : Nat} {pin : Int} {q : QryV} {w w' : World} {v : Value} (h : NewC lo owner pin q now w v) (hb : Below w.heap.size w w') : NewC lo owner pin q now w' v := by
  obtain ⟨y, h1, h2, h3⟩ := h
  exact ⟨y, h1, h2.to hb, h3⟩
def BoxC (lo owner : Nat) (pin : Int) (q : QryV) (now : Nat) (w : World) (v : Value) : Prop := ∃ (gb : Nat) (y : QryL), v = .pointer (some ⟨gb, 0, none⟩) ∧ lo ≤ gb ∧ Blk w gb 85 [.int .u64 (owner : Int), .int .i64 pin, .slice y.pv.1 y.pv.2.1 y.pv.2.2, .slice y.p0.1 y.p0.2.1 y.p0.2.2, .slice y.p1.1 y.p1.2.1 y.p1.2.2, .slice y.p2.1 y.p2.2.1 y.p2.2.2, .int .u32 (now : Int), .int .u32 0, .bool false, .int .i64 0, .int .u32 0, .bool false, .int .i64 0, .int .u32 0] ∧ y.q = q ∧ AskRows lo w y
theorem BoxC.to {lo owner now : Nat} {pin : Int} {q : QryV} {w w' : World} {v : Value} (h : BoxC lo owner pin q now w v) (hb : Below w.heap.size w w') : BoxC lo owner pin q now w' v := by
  obtain ⟨gb, y, h1, h2, h3, h4, h5⟩ := h
  exact ⟨gb, y, h1, h2, (Kept.of_below (F := []) hb (Nat.le_refl _)).blk h3 (by simp), h4, h5.to hb⟩
theorem cur_build (owner : Nat) (pin : Int) (a : Option Addr) (n c : Nat) (q0 q1 q2 : Option Addr × Nat × Nat) (now : Nat) (w : World) : (Instr.build 85 #[(0, .int .u64 (owner : Int)), (1, .int .i64 pin), (2, .slice a n c), (3, .agg #[.slice q0.1 q0.2.1 q0.2.2, .slice q1.1 q1.2.1 q1.2.2, .slice q2.1 q2.2.1 q2.2.2]), (4, .int .u32 (now : Int))]).run Try.prog w = .ok (.agg #[.int .u64 (owner : Int), .int .i64 pin, .slice a n c, .slice q0.1 q0.2.1 q0.2.2, .slice q1.1 q1.2.1 q1.2.2, .slice q2.1 q2.2.1 q2.2.2, .int .u32 (now : Int), .int .u32 0, .bool false, .int .i64 0, .int .u32 0, .bool false, .int .i64 0, .int .u32 0]) w := by go_simp
theorem cur_box (owner : Nat) (pin : Int) (y : QryL) (now : Nat) (w : World) : (Instr.box 85 (.agg #[.int .u64 (owner : Int), .int .i64 pin, .slice y.pv.1 y.pv.2.1 y.pv.2.2, .slice y.p0.1 y.p0.2.1 y.p0.2.2, .slice y.p1.1 y.p1.2.1 y.p1.2.2, .slice y.p2.1 y.p2.2.1 y.p2.2.2, .int .u32 (now : Int), .int .u32 0, .bool false, .int .i64 0, .int .u32 0, .bool false, .int .i64 0, .int .u32 0])).run Try.prog w = .ok (.pointer (some ⟨w.heap.size, 0, none⟩)) (w.alloc (.cells #[.int .u64 (owner : Int), .int .i64 pin, .slice y.pv.1 y.pv.2.1 y.pv.2.2, .slice y.p0.1 y.p0.2.1 y.p0.2.2, .slice y.p1.1 y.p1.2.1 y.p1.2.2, .slice y.p2.1 y.p2.2.1 y.p2.2.2, .int .u32 (now : Int), .int .u32 0, .bool false, .int .i64 0, .int .u32 0, .bool false, .int .i64 0, .int .u32 0] 85)) := by go_simp
def dsOpenR (i : Nat) : Nat := match i with
  | 0 => 32
  | 1 => 33
  | 2 => 34
  | 3 => 35
  | 4 => 36
  | 5 => 37
  | 6 => 38
  | 7 => 39
  | 8 => 40
  | 9 => 41
  | 10 => 42
  | 11 => 43
  | 12 => 44
  | 13 => 45
  | 14 => 46
  | 15 => 47
  | 16 => 48
  | 17 => 6
  | _ + 18 => 0
def factsOpenR (w0 : World) (x m l1 owner now : Nat) (pin : Int) (va : Option Addr) (vn vc : Nat) (a0 : Option Addr) (n0 c0 : Nat) (a1 : Option Addr) (n1 c1 : Nat) (a2 : Option Addr) (n2 c2 : Nat) (vec : List Int) (all any non : List ByteArray) (_L : Nat → Bool) (j : Nat) (v : Value) (w : World) : Prop :=
  match j with
  | 0 => v = .pointer (some ⟨x, 0, none⟩)
  | 1 => v = .pointer (some ⟨x, 0, none⟩)
  | 2 => v = .pointer (some ⟨x, 1, none⟩)
  | 3 => v = .map (some m)
  | 4 => v = .pointer (some ⟨x, 0, none⟩)
  | 5 => v = .pointer (some ⟨x, 0, none⟩)
  | 6 => v = .pointer (some ⟨x, 2, none⟩)
  | 7 => v = .int .u32 (l1 : Int)
  | 8 => v = .int .u64 (owner : Int)
  | 9 => v = .int .i64 pin
  | 10 => v = .slice va vn vc
  | 11 => w.ownsRow w0.heap.size 21 1 v vec.length (vec.map (Value.int .i32))
  | 12 => v = .agg #[.slice a0 n0 c0, .slice a1 n1 c1, .slice a2 n2 c2]
  | 13 => FiltV w0.heap.size all any non w v
  | 14 => v = .int .u32 (now : Int)
  | 15 => NewC w0.heap.size owner pin ⟨vec, all, any, non⟩ now w v
  | 16 => BoxC w0.heap.size owner pin ⟨vec, all, any, non⟩ now w v
  | _ => True
theorem factsOpenR_on (w0 : World) (x m l1 owner now : Nat) (pin : Int) (va : Option Addr) (vn vc : Nat) (a0 : Option Addr) (n0 c0 : Nat) (a1 : Option Addr) (n1 c1 : Nat) (a2 : Option Addr) (n2 c2 : Nat) (vec : List Int) (all any non : List ByteArray) (L : Nat → Bool) (i j : Nat) (v : Value) (w w' : World) (h : factsOpenR w0 x m l1 owner now pin va vn vc a0 n0 c0 a1 n1 c1 a2 n2 c2 vec all any non L j v w) (hb : Below w.heap.size w w') : factsOpenR w0 x m l1 owner now pin va vn vc a0 n0 c0 a1 n1 c1 a2 n2 c2 vec all any non (updN L i) j v w' := by
  match j, h with
  | 0, h => exact h
  | 1, h => exact h
  | 2, h => exact h
  | 3, h => exact h
  | 4, h => exact h
  | 5, h => exact h
  | 6, h => exact h
  | 7, h => exact h
  | 8, h => exact h
  | 9, h => exact h
  | 10, h => exact h
  | 11, h => exact row_to h (Nat.le_refl _) hb
  | 12, h => exact h
  | 13, h => exact FiltV.to h hb
  | 14, h => exact h
  | 15, h => exact NewC.to h hb
  | 16, h => exact BoxC.to h hb
  | _ + 17, _ => exact trivial
set_option maxRecDepth 100000 in
set_option maxHeartbeats 6400000 in
theorem OpenR {rid : Nat} {ops : Array Oper} {Q : Exit → Act → World → Prop} {T0 : Array Value} (w0 : World) (x m l1 owner now : Nat) (pin : Int) (va : Option Addr) (vn vc : Nat) (a0 : Option Addr) (n0 c0 : Nat) (a1 : Option Addr) (n1 c1 : Nat) (a2 : Option Addr) (n2 c2 : Nat) (vec : List Int) (all any non : List ByteArray) (bf : Nat) (E : List (Lit × Value)) (hsize : ops.size = 18) (hb : edgesB ops = true) (hlead : leadsB ops 17 = true)
    (op0 : OpIs ops 0 (.move (.tmp 0)) (some 32) [])
    (op1 : OpIs ops 1 (.nilCheck (.tmp 32)) (some 33) [0])
    (op2 : OpIs ops 2 (.fieldAddr 76 (.tmp 33) 1) (some 34) [1])
    (op3 : OpIs ops 3 (.load 74 (.tmp 34)) (some 35) [2])
    (op4 : OpIs ops 4 (.move (.tmp 0)) (some 36) [])
    (op5 : OpIs ops 5 (.nilCheck (.tmp 36)) (some 37) [4])
    (op6 : OpIs ops 6 (.fieldAddr 76 (.tmp 37) 2) (some 38) [5])
    (op7 : OpIs ops 7 (.load 22 (.tmp 38)) (some 39) [6])
    (op8 : OpIs ops 8 (.move (.tmp 1)) (some 40) [])
    (op9 : OpIs ops 9 (.move (.tmp 2)) (some 41) [])
    (op10 : OpIs ops 10 (.move (.tmp 3)) (some 42) [])
    (op11 : OpIs ops 11 (.call { callee := .value (.func 27), args := #[.tmp 42], argTypes := #[31] }) (some 43) [10])
    (op12 : OpIs ops 12 (.load 34 (.tmp 10)) (some 44) [])
    (op13 : OpIs ops 13 (.call { callee := .value (.func 28), args := #[.tmp 44], argTypes := #[34] }) (some 45) [12])
    (op14 : OpIs ops 14 (.move (.tmp 5)) (some 46) [])
    (op15 : OpIs ops 15 (.build 85 #[(0, .tmp 40), (1, .tmp 41), (2, .tmp 43), (3, .tmp 45), (4, .tmp 46)]) (some 47) [8, 9, 11, 13, 14])
    (op16 : OpIs ops 16 (.box 85 (.tmp 47)) (some 48) [15])
    (op17 : OpIs ops 17 (.mapUpdate 74 (.tmp 35) (.tmp 39) (.tmp 48)) (none) [3, 7, 16])
    (hT : T0.size = 54) (t0 : T0[0]? = some (.pointer (some ⟨x, 0, none⟩))) (t1 : T0[1]? = some (.int .u64 (owner : Int))) (t2 : T0[2]? = some (.int .i64 pin)) (t3 : T0[3]? = some (.slice va vn vc)) (t5 : T0[5]? = some (.int .u32 (now : Int))) (t10 : T0[10]? = some (.pointer (some ⟨bf, 0, none⟩)))
    (k1 : w0.cell? ⟨x, 1, none⟩ = some (.map (some m))) (k2 : w0.cell? ⟨x, 2, none⟩ = some (.int .u32 (l1 : Int))) (hx : x < w0.heap.size) (b0 : w0.cell? ⟨bf, 0, none⟩ = some (.slice a0 n0 c0)) (b1 : w0.cell? ⟨bf, 1, none⟩ = some (.slice a1 n1 c1)) (b2 : w0.cell? ⟨bf, 2, none⟩ = some (.slice a2 n2 c2)) (hbf : bf < w0.heap.size) (rv : Rd (fun _ => True) w0 shVec [.slice va vn vc] vec) (rq : QryL.In (fun _ => True) w0 ⟨(va, vn, vc), (a0, n0, c0), (a1, n1, c1), (a2, n2, c2), ⟨vec, all, any, non⟩⟩) (hm : MapE w0 Try.prog 22 m E) (hE : E.length ≤ 1000000) (hl1 : l1 < 4294967296)
    (hQ : ∀ (E2 : Nat → Value) (w w' : World) (gb : Nat) (y : QryL), Below w0.heap.size w0 w → w0.heap.size ≤ gb → Blk w gb 85 [.int .u64 (owner : Int), .int .i64 pin, .slice y.pv.1 y.pv.2.1 y.pv.2.2, .slice y.p0.1 y.p0.2.1 y.p0.2.2, .slice y.p1.1 y.p1.2.1 y.p1.2.2, .slice y.p2.1 y.p2.2.1 y.p2.2.2, .int .u32 (now : Int), .int .u32 0, .bool false, .int .i64 0, .int .u32 0, .bool false, .int .i64 0, .int .u32 0] → y.q = ⟨vec, all, any, non⟩ → AskRows w0.heap.size w y → MapE w' Try.prog 22 m (putE E (key32 l1) (.pointer (some ⟨gb, 0, none⟩))) → Kept [m] w w' → Q .normal ⟨filledR T0 dsOpenR E2 17, []⟩ w') :
    (Code.region rid ops true).wp Try.prog Q ⟨T0, []⟩ w0 := by
  have hinj : ∀ p q, p < ops.size → q < ops.size → dsOpenR p = dsOpenR q → p = q := by
    rw [hsize]
    have h1 : ∀ p, p < 18 → ∀ q, q < 18 → dsOpenR p = dsOpenR q → p = q := by decide
    exact fun p q hp hq => h1 p hp q hq
  have hds : ∀ p, p < ops.size → dsOpenR p < T0.size := by
    rw [hsize, hT]
    decide
  refine wp_grow1 w0 dsOpenR (factsOpenR w0 x m l1 owner now pin va vn vc a0 n0 c0 a1 n1 c1 a2 n2 c2 vec all any non) 17 (by kernel_rfl) hb hsize hlead (factsOpenR_on w0 x m l1 owner now pin va vn vc a0 n0 c0 a1 n1 c1 a2 n2 c2 vec all any non) hinj hds ?_ ?_
  · intro l a w j o hI ho hj hl hlM hd K hK
    have far : ∀ k, (∀ p, p < 17 → dsOpenR p ≠ k) → ∀ p, p < ops.size → l.getD p false = true → dsOpenR p ≠ k := by
      intro k hk p hp hlp
      rcases Nat.lt_or_ge p 17 with h | h
      · exact hk p h
      · have : p = 17 := by omega
        subst this
        rw [hlM] at hlp
        cases hlp
    have e0 : a.eval (.tmp 0) = .pointer (some ⟨x, 0, none⟩) := hI.ev 0 _ t0 (far 0 (by decide))
    have e1 : a.eval (.tmp 1) = .int .u64 (owner : Int) := hI.ev 1 _ t1 (far 1 (by decide))
    have e2 : a.eval (.tmp 2) = .int .i64 pin := hI.ev 2 _ t2 (far 2 (by decide))
    have e3 : a.eval (.tmp 3) = .slice va vn vc := hI.ev 3 _ t3 (far 3 (by decide))
    have e5 : a.eval (.tmp 5) = .int .u32 (now : Int) := hI.ev 5 _ t5 (far 5 (by decide))
    have e10 : a.eval (.tmp 10) = .pointer (some ⟨bf, 0, none⟩) := hI.ev 10 _ t10 (far 10 (by decide))
    have hw0 := hI.below.size
    have q1 := (hI.below.cell (p := ⟨x, 1, none⟩) hx).trans k1
    have q2 := (hI.below.cell (p := ⟨x, 2, none⟩) hx).trans k2
    have p0 := (hI.below.cell (p := ⟨bf, 0, none⟩) hbf).trans b0
    have p1 := (hI.below.cell (p := ⟨bf, 1, none⟩) hbf).trans b1
    have p2 := (hI.below.cell (p := ⟨bf, 2, none⟩) hbf).trans b2
    have hcase : j = 0 ∨ j = 1 ∨ j = 2 ∨ j = 3 ∨ j = 4 ∨ j = 5 ∨ j = 6 ∨ j = 7 ∨ j = 8 ∨ j = 9 ∨ j = 10 ∨ j = 11 ∨ j = 12 ∨ j = 13 ∨ j = 14 ∨ j = 15 ∨ j = 16 := by omega
    rcases hcase with rfl | rfl | rfl | rfl | rfl | rfl | rfl | rfl | rfl | rfl | rfl | rfl | rfl | rfl | rfl | rfl | rfl
    · obtain ⟨hop, hdst, hgd, hL⟩ := op0.useQ ho
      refine g_if hgd (g_move hop ?_)
      rw [hdst]
      exact hK _ _ (show a.eval (.tmp 0) = _ from e0) (.inl (Below.refl _ _))
    · obtain ⟨hop, hdst, hgd, hL⟩ := op1.useQ ho
      refine g_if hgd (q_nil hop (hI.slot 0 (by decide) (hd 0 (hL 0 (by simp)))) ?_)
      rw [hdst]
      exact hK _ _ (show _ = _ from rfl) (.inl (Below.refl _ _))
    · obtain ⟨hop, hdst, hgd, hL⟩ := op2.useQ ho
      refine g_if hgd (g_field hop (hI.slot 1 (by decide) (hd 1 (hL 1 (by simp)))) ((show (Instr.fieldAt 76 (.pointer (some ⟨x, 0, none⟩)) 1).run Try.prog w = .ok (.pointer (some ⟨x, 1, none⟩)) w by go_simp)) ?_)
      rw [hdst]
      exact hK _ _ (show _ = _ from rfl) (.inl (Below.refl _ _))
    · obtain ⟨hop, hdst, hgd, hL⟩ := op3.useQ ho
      refine g_if hgd (g_load hop (hI.slot 2 (by decide) (hd 2 (hL 2 (by simp)))) ((show (Instr.loadAt 74 (.pointer (some ⟨x, 1, none⟩))).run Try.prog w = .ok (.map (some m)) w by go_simp)) ?_)
      rw [hdst]
      exact hK _ _ (show _ = _ from rfl) (.inl (Below.refl _ _))
    · obtain ⟨hop, hdst, hgd, hL⟩ := op4.useQ ho
      refine g_if hgd (g_move hop ?_)
      rw [hdst]
      exact hK _ _ (show a.eval (.tmp 0) = _ from e0) (.inl (Below.refl _ _))
    · obtain ⟨hop, hdst, hgd, hL⟩ := op5.useQ ho
      refine g_if hgd (q_nil hop (hI.slot 4 (by decide) (hd 4 (hL 4 (by simp)))) ?_)
      rw [hdst]
      exact hK _ _ (show _ = _ from rfl) (.inl (Below.refl _ _))
    · obtain ⟨hop, hdst, hgd, hL⟩ := op6.useQ ho
      refine g_if hgd (g_field hop (hI.slot 5 (by decide) (hd 5 (hL 5 (by simp)))) ((show (Instr.fieldAt 76 (.pointer (some ⟨x, 0, none⟩)) 2).run Try.prog w = .ok (.pointer (some ⟨x, 2, none⟩)) w by go_simp)) ?_)
      rw [hdst]
      exact hK _ _ (show _ = _ from rfl) (.inl (Below.refl _ _))
    · obtain ⟨hop, hdst, hgd, hL⟩ := op7.useQ ho
      refine g_if hgd (g_load hop (hI.slot 6 (by decide) (hd 6 (hL 6 (by simp)))) ((show (Instr.loadAt 22 (.pointer (some ⟨x, 2, none⟩))).run Try.prog w = .ok (.int .u32 (l1 : Int)) w by go_simp)) ?_)
      rw [hdst]
      exact hK _ _ (show _ = _ from rfl) (.inl (Below.refl _ _))
    · obtain ⟨hop, hdst, hgd, hL⟩ := op8.useQ ho
      refine g_if hgd (g_move hop ?_)
      rw [hdst]
      exact hK _ _ (show a.eval (.tmp 1) = _ from e1) (.inl (Below.refl _ _))
    · obtain ⟨hop, hdst, hgd, hL⟩ := op9.useQ ho
      refine g_if hgd (g_move hop ?_)
      rw [hdst]
      exact hK _ _ (show a.eval (.tmp 2) = _ from e2) (.inl (Below.refl _ _))
    · obtain ⟨hop, hdst, hgd, hL⟩ := op10.useQ ho
      refine g_if hgd (g_move hop ?_)
      rw [hdst]
      exact hK _ _ (show a.eval (.tmp 3) = _ from e3) (.inl (Below.refl _ _))
    · obtain ⟨hop, hdst, hgd, hL⟩ := op11.useQ ho
      refine g_if hgd (q_call (enters_of Try.func27 (by kernel_rfl) rfl) hop (us := #[.slice va vn vc]) (by simp only [List.map_toArray, List.map_cons, List.map_nil]; rw [(show a.eval (.tmp 42) = .slice va vn vc from (hI.slot 10 (by decide) (hd 10 (hL 10 (by simp)))))]) (clone32_any w va vn vc vec (rv.on hI.below)) ?_)
      rintro e w' ⟨v, rfl, hbel, ho⟩
      refine ⟨_, rfl, ?_⟩
      rw [hdst]
      exact hK _ _ (row_to ho hw0 (Below.refl _ _)) (.inl hbel)
    · obtain ⟨hop, hdst, hgd, hL⟩ := op12.useQ ho
      refine g_if hgd (g_load hop e10 ((show (Instr.loadAt 34 (.pointer (some ⟨bf, 0, none⟩))).run Try.prog w = .ok (.agg #[.slice a0 n0 c0, .slice a1 n1 c1, .slice a2 n2 c2]) w by go_simp)) ?_)
      rw [hdst]
      exact hK _ _ (show _ = _ from rfl) (.inl (Below.refl _ _))
    · obtain ⟨hop, hdst, hgd, hL⟩ := op13.useQ ho
      refine g_if hgd (q_call (enters_of Try.func28 (by kernel_rfl) rfl) hop (us := #[.agg #[.slice a0 n0 c0, .slice a1 n1 c1, .slice a2 n2 c2]]) (by simp only [List.map_toArray, List.map_cons, List.map_nil]; rw [(show a.eval (.tmp 44) = .agg #[.slice a0 n0 c0, .slice a1 n1 c1, .slice a2 n2 c2] from (hI.slot 12 (by decide) (hd 12 (hL 12 (by simp)))))]) (cfilter_any w ⟨(va, vn, vc), (a0, n0, c0), (a1, n1, c1), (a2, n2, c2), ⟨vec, all, any, non⟩⟩ (rq.on hI.below)) ?_)
      rintro e w' ⟨q0, q1, q2, rfl, hbel, ho0, ho1, ho2⟩
      refine ⟨_, rfl, ?_⟩
      rw [hdst]
      exact hK _ _ ⟨q0, q1, q2, rfl, ho0.to hw0 (Below.refl _ _), ho1.to hw0 (Below.refl _ _), ho2.to hw0 (Below.refl _ _)⟩ (.inl hbel)
    · obtain ⟨hop, hdst, hgd, hL⟩ := op14.useQ ho
      refine g_if hgd (g_move hop ?_)
      rw [hdst]
      exact hK _ _ (show a.eval (.tmp 5) = _ from e5) (.inl (Below.refl _ _))
    · obtain ⟨hop, hdst, hgd, hL⟩ := op15.useQ ho
      have g8 : a.eval (.tmp 40) = .int .u64 (owner : Int) := hI.slot 8 (by decide) (hd 8 (hL 8 (by simp)))
      have g9 : a.eval (.tmp 41) = .int .i64 pin := hI.slot 9 (by decide) (hd 9 (hL 9 (by simp)))
      have g11 : w.ownsRow w0.heap.size 21 1 (a.eval (.tmp 43)) vec.length (vec.map (Value.int .i32)) := hI.slot 11 (by decide) (hd 11 (hL 11 (by simp)))
      have g13 : FiltV w0.heap.size all any non w (a.eval (.tmp 45)) := hI.slot 13 (by decide) (hd 13 (hL 13 (by simp)))
      have g14 : a.eval (.tmp 46) = .int .u32 (now : Int) := hI.slot 14 (by decide) (hd 14 (hL 14 (by simp)))
      obtain ⟨va2, vn2, vc2, ev2, -⟩ := ownsRow_slice g11
      obtain ⟨q0, q1, q2, ef2, s0, s1, s2⟩ := g13
      refine g_if hgd (q_build (ps := [(0, .tmp 40), (1, .tmp 41), (2, .tmp 43), (3, .tmp 45), (4, .tmp 46)]) hop (us := [(0, .int .u64 (owner : Int)), (1, .int .i64 pin), (2, .slice va2 vn2 vc2), (3, .agg #[.slice q0.1 q0.2.1 q0.2.2, .slice q1.1 q1.2.1 q1.2.2, .slice q2.1 q2.2.1 q2.2.2]), (4, .int .u32 (now : Int))]) (by simp only [List.map_cons, List.map_nil]; rw [g8, g9, ev2, ef2, g14]) (cur_build owner pin va2 vn2 vc2 q0 q1 q2 now w) ?_)
      rw [hdst]
      exact hK _ _ ⟨⟨(va2, vn2, vc2), q0, q1, q2, ⟨vec, all, any, non⟩⟩, rfl, ⟨by rw [← ev2]; exact g11, s0, s1, s2⟩, rfl⟩ (.inl (Below.refl _ _))
    · obtain ⟨hop, hdst, hgd, hL⟩ := op16.useQ ho
      have g15 : NewC w0.heap.size owner pin ⟨vec, all, any, non⟩ now w (a.eval (.tmp 47)) := hI.slot 15 (by decide) (hd 15 (hL 15 (by simp)))
      obtain ⟨y, hyq, hrows, ec⟩ := g15
      refine g_if hgd (q_box hop ec (cur_box owner pin y now w) ?_)
      rw [hdst]
      exact hK _ _ ⟨w.heap.size, y, rfl, hw0, Blk.new w _ _, hyq, hrows.to ((Below.refl _ w).alloc (Nat.le_refl _) _)⟩ (.inl ((Below.refl _ w).alloc (Nat.le_refl _) _))
  · intro a w o ho hfar hsz hdf hbel hfacts K hK
    obtain ⟨hop, hdst, hgd, hL⟩ := op17.useQ ho
    obtain ⟨L, -, hf⟩ := hfacts
    have f3 : a.eval (.tmp 35) = .map (some m) := hf 3 (by decide)
    have f7 : a.eval (.tmp 39) = .int .u32 (l1 : Int) := hf 7 (by decide)
    have f16 : BoxC w0.heap.size owner pin ⟨vec, all, any, non⟩ now w (a.eval (.tmp 48)) := hf 16 (by decide)
    obtain ⟨gb, y, ev, hgb, hB, hq, hrows⟩ := f16
    obtain ⟨w', hrun, hm', hk'⟩ := cu_put (n := l1) (hm.on hbel) hl1 hE (.pointer (some ⟨gb, 0, none⟩))
    refine g_if hgd (q_mapUpdate hop f3 f7 ev hrun ?_)
    rw [hdst]
    have ht := filledR_eq (T0 := T0) (ds := dsOpenR) (T := a.tmps) 17 hsz hfar
    have ha : a.put none undef = ⟨filledR T0 dsOpenR (fun i => a.tmps.getD (dsOpenR i) undef) 17, []⟩ := by
      obtain ⟨tm, df⟩ := a
      simp only at hdf ht
      subst hdf
      show (⟨tm, []⟩ : Act) = _
      rw [← ht]
    rw [ha]
    exact hK _ _ (hQ _ w w' gb y hbel hgb hB hq hrows hm' hk')
/-- What reads outside F reads behind a step that turns F alone. -/
theorem QryL.In.keep {F : List Nat} {w w' : World} {x : QryL} (h : x.In (fun b => b ∉ F) w) (hk : Kept F w w') : x.In (fun _ => True) w' :=
  ⟨h.vec.stay hk.size (fun k ho hl => hk.block k hl ho) (fun _ _ _ => trivial), h.all.stay hk.size (fun k ho hl => hk.block k hl ho) (fun _ _ _ => trivial), h.any.stay hk.size (fun k ho hl => hk.block k hl ho) (fun _ _ _ => trivial), h.none.stay hk.size (fun k ho hl => hk.block k hl ho) (fun _ _ _ => trivial)⟩
/-- What Open leaves. -/
def OpenPost (lo x : Nat) (F : List Nat) (s : CTab) (owner : Nat) (pin : Int) (q : QryV) (now : Nat) (w : World) (e : Ending) (w' : World) : Prop :=
  ∃ (s0 : CTab) (gone : Int), ((s.cs.length < 8 ∧ s0 = s ∧ gone = 0) ∨ (8 ≤ s.cs.length ∧ ∃ c, LeastC s.cs c ∧ s0 = s.cut c.n ∧ gone = c.pin)) ∧ e = .returned (.tuple #[.int .u32 ((s.last + 1 : Nat) : Int), .int .i64 gone]) ∧ QPost lo x F (s0.start owner pin q now) w w'
theorem open_fin {w wq wl w5 w' : World} {lo x m l1 gb owner now : Nat} {pin : Int} {L L2 : List CurL} {s0 : CTab} {y : QryL} {q : QryV} (h1 : TabQ wq lo x m L2 s0.last s0.idle) (hsub : ∀ t ∈ L2, t ∈ L) (h8 : L2.length < 8) (hkq : Kept [m] w wq) (hwl : wq.setCell ⟨x, 2, none⟩ (.int .u32 (l1 : Int)) = wl) (hl1 : s0.last + 1 = l1) (h32 : l1 < 4294967296) (hb5 : Below wl.heap.size wl w5) (hgb : wl.heap.size ≤ gb)
    (hB : Blk w5 gb 85 [.int .u64 (owner : Int), .int .i64 pin, .slice y.pv.1 y.pv.2.1 y.pv.2.2, .slice y.p0.1 y.p0.2.1 y.p0.2.2, .slice y.p1.1 y.p1.2.1 y.p1.2.2, .slice y.p2.1 y.p2.2.1 y.p2.2.2, .int .u32 (now : Int), .int .u32 0, .bool false, .int .i64 0, .int .u32 0, .bool false, .int .i64 0, .int .u32 0]) (hq : y.q = q) (hrows : AskRows wl.heap.size w5 y) (hm' : MapE w' Try.prog 22 m (putE (cuE L2) (key32 l1) (.pointer (some ⟨gb, 0, none⟩)))) (hk' : Kept [m] w5 w') (hno : ∀ t ∈ L2, t.c.n ≠ l1) (h2 : s0.cs = L2.map (·.c)) (ho : owner < 18446744073709551616) (hn : now < 4294967296)
    (hwv : (∀ a ∈ q.vec, (Lit.int .i32 a).wf = true) ∧ q.vec.length * 4 ≤ 140737488351232) :
    QPost lo x (fpQ x m L) (s0.start owner pin q now) w w' ∧ w'.cell? ⟨x, 2, none⟩ = some (.int .u32 (l1 : Int)) := by
  have hlsz : wl.heap.size = wq.heap.size := by rw [← hwl]; simp [World.setCell]
  have hkl : Kept [x] wq wl := by rw [← hwl]; exact (Kept.refl _ _).setCell _ _ (.inl (by simp))
  have hml : m < wl.heap.size := by rw [hlsz]; exact h1.map.lt
  have hxl : x < wl.heap.size := by rw [hlsz]; exact h1.blk.lt
  have hgm : gb ≠ m := by omega
  have hxm := h1.xm
  have X1 : Blk wl x 76 [.int .u32 (s0.idle : Int), .map (some m), .int .u32 (l1 : Int)] := by rw [← hwl]; exact h1.blk.set 2 _
  have X2 : Blk w' x 76 [.int .u32 (s0.idle : Int), .map (some m), .int .u32 (l1 : Int)] := hk'.blk ((Kept.of_below (F := []) hb5 (Nat.le_refl _)).blk X1 (by simp)) (by simpa using hxm.symm)
  have hrow : ∀ {v : Value} {cs : List Value} {ty : TypeId} {n : Nat}, w5.ownsRow wl.heap.size ty 1 v n cs → w'.ownsRow lo ty 1 v n cs := fun hr => by
    have hlo : lo ≤ wl.heap.size := by rw [hlsz]; exact Nat.le_of_lt (Nat.lt_of_le_of_lt h1.xlo h1.blk.lt)
    refine row_to (hk'.own hr fun g hg e => ?_) hlo (Below.refl _ _)
    have h5 := (World.ownsRow.lt hr g hg).1
    rw [List.mem_singleton] at e
    omega
  have hA : CurL.At w' lo ⟨gb, y, ⟨l1, owner, pin, q, now, 0, EndV.nil, EndV.nil⟩⟩ := by
    refine ⟨hk'.blk hB (by simpa using hgm), ?_, ⟨hrow hrows.1, by rw [hq]; exact hwv.1, by rw [hq]; exact hwv.2, ⟨hrow hrows.2.1.row, hrows.2.1.wf, hrows.2.1.len⟩, ⟨hrow hrows.2.2.1.row, hrows.2.2.1.wf, hrows.2.2.1.len⟩, ⟨hrow hrows.2.2.2.row, hrows.2.2.2.wf, hrows.2.2.2.len⟩⟩, hq.symm, h32, ho, hn, Nat.succ_pos _⟩
    show lo ≤ gb
    have := h1.xlo
    omega
  have hE : putE (cuE L2) (key32 l1) (.pointer (some ⟨gb, 0, none⟩)) = cuE (L2 ++ [⟨gb, y, ⟨l1, owner, pin, q, now, 0, EndV.nil, EndV.nil⟩⟩]) := by
    unfold putE
    rw [cuE_drop, List.filter_eq_self.2 (fun t ht => decide_eq_true (hno t ht))]
    simp [cuE]
  rw [hE] at hm'
  have kq' : Kept [x, m] wq w' := by
    have k1 : Kept [x, m] wq w5 := (hkl.mono (by simp)).trans (Kept.of_below (F := [x, m]) hb5 (Nat.le_refl _)) (Grows.refl _ _)
    exact k1.trans (hk'.mono (G := [x, m]) (by simp)) (Grows.refl _ _)
  have hT := h1.more X2 hm' kq' hA (by show wq.heap.size ≤ gb; omega) h8 h32
  refine ⟨⟨fpQ x m (L2 ++ [⟨gb, y, ⟨l1, owner, pin, q, now, 0, EndV.nil, EndV.nil⟩⟩]), ⟨m, _, ?_, ?_, rfl⟩, ?_, fun b hb => ?_⟩, X2.cell 2⟩
  · show TabQ w' lo x m _ (s0.last + 1) s0.idle
    rw [hl1]
    exact hT
  · show s0.cs ++ [⟨s0.last + 1, owner, pin, q, now, 0, EndV.nil, EndV.nil⟩] = _
    rw [hl1, h2]
    simp
  · refine ((hkq.mono (G := [x, m]) (by simp)).trans kq' (Grows.refl _ _)).mono fun b hb => ?_
    simp only [List.mem_cons, List.not_mem_nil, or_false] at hb
    rcases hb with hb | hb
    · exact mem_fpQ.2 (.inl hb)
    · exact mem_fpQ.2 (.inr (.inl hb))
  · have hww : w.heap.size ≤ wl.heap.size := by rw [hlsz]; exact hkq.size
    rcases mem_fpQ.1 hb with e | e | ⟨t, ht, e⟩
    · exact .inl (mem_fpQ.2 (.inl e))
    · exact .inl (mem_fpQ.2 (.inr (.inl e)))
    · rcases List.mem_append.1 ht with ht | ht
      · exact .inl (mem_fpQ.2 (.inr (.inr ⟨t, hsub t ht, e⟩)))
      · rw [List.mem_singleton.1 ht] at e
        rcases mem_fpC.1 e with e | e
        · refine .inr ?_
          have e2 : b = gb := e
          omega
        · refine .inr ?_
          have h5 : ∀ g ∈ y.bs, wl.heap.size ≤ g := fun g hg => by
            rcases QryL.mem_bs.1 hg with h | h | h | h
            · exact (World.ownsRow.lt hrows.1 g h).1
            · exact (World.ownsRow.lt hrows.2.1.row g h).1
            · exact (World.ownsRow.lt hrows.2.2.1.row g h).1
            · exact (World.ownsRow.lt hrows.2.2.2.row g h).1
          have := h5 b e
          omega
set_option maxRecDepth 100000 in
set_option maxHeartbeats 3200000 in
theorem copen_room (w : World) (lo x m k : Nat) (s : CTab) (L : List CurL) (h1 : TabQ w lo x m L s.last s.idle) (h2 : s.cs = L.map (·.c)) (hF : s.Few k) (hk : k ≤ 1000000) (hf : s.cs.length < 8) (owner now : Nat) (pin : Int) (ho : owner < 18446744073709551616) (hn : now < 4294967296) (ql : QryL) (hq : ql.In (fun b => b ∉ fpQ x m L) w) :
    Calls Try.prog 8 #[.pointer (some ⟨x, 0, none⟩), .int .u64 (owner : Int), .int .i64 pin, .slice ql.pv.1 ql.pv.2.1 ql.pv.2.2, .agg #[.slice ql.p0.1 ql.p0.2.1 ql.p0.2.2, .slice ql.p1.1 ql.p1.2.1 ql.p1.2.2, .slice ql.p2.1 ql.p2.2.1 ql.p2.2.2], .int .u32 (now : Int)] w (OpenPost lo x (fpQ x m L) s owner pin ql.q now w) := by
  obtain ⟨⟨va, vn, vc⟩, ⟨a0, n0, c0⟩, ⟨a1, n1, c1⟩, ⟨a2, n2, c2⟩, ⟨vec, all, any, non⟩⟩ := ql
  obtain ⟨last, hlast⟩ : ∃ last, s.last = last := ⟨_, rfl⟩
  have hl6 : last ≤ 1000000 := by rw [← hlast]; exact Nat.le_trans hF.last hk
  obtain ⟨l1, hl1⟩ : ∃ l1, last + 1 = l1 := ⟨_, rfl⟩
  have hlw : IntKind.u32.wrap ((last : Int) + 1) = (l1 : Int) := by rw [IntKind.wrap_u32]; omega
  obtain ⟨nn, hnn⟩ : ∃ nn, s.cs.length = nn := ⟨_, rfl⟩
  obtain ⟨w1, hw1⟩ : ∃ w1, w.alloc (.cells #[.slice a0 n0 c0, .slice a1 n1 c1, .slice a2 n2 c2] 34) = w1 := ⟨_, rfl⟩
  have b1 : Below w.heap.size w w1 := by rw [← hw1]; exact (Below.refl _ _).alloc (Nat.le_refl _) _
  have BF : Blk w1 w.heap.size 34 [.slice a0 n0 c0, .slice a1 n1 c1, .slice a2 n2 c2] := by rw [← hw1]; exact Blk.new _ _ _
  have h11 := h1.on b1
  have hno : ∀ t ∈ L, t.c.n ≠ l1 := by
    intro t ht
    have := hF.low t.c (by rw [h2]; exact List.mem_map.2 ⟨t, ht, rfl⟩)
    omega
  have hLn : L.length < 8 := by rw [h2, List.length_map] at hf; exact hf
  obtain ⟨wl, hwl⟩ : ∃ wl, w1.setCell ⟨x, 2, none⟩ (.int .u32 (l1 : Int)) = wl := ⟨_, rfl⟩
  have hwl2 : wl.heap.size = w1.heap.size := by rw [← hwl]; simp [World.setCell]
  have KL : Kept [x] w1 wl := by rw [← hwl]; exact (Kept.refl _ _).setCell _ _ (.inl (by simp))
  have X1 : Blk wl x 76 [.int .u32 (s.idle : Int), .map (some m), .int .u32 (l1 : Int)] := by rw [← hwl]; exact h11.blk.set 2 _
  have BFL : Blk wl w.heap.size 34 [.slice a0 n0 c0, .slice a1 n1 c1, .slice a2 n2 c2] := KL.blk BF (by
    have := h1.blk.lt
    rw [List.mem_singleton]
    omega)
  have QL : QryL.In (fun _ => True) wl ⟨(va, vn, vc), (a0, n0, c0), (a1, n1, c1), (a2, n2, c2), ⟨vec, all, any, non⟩⟩ := by
    have hk2 : Kept (fpQ x m L) w wl := (Kept.of_below (F := fpQ x m L) b1 (Nat.le_refl _)).trans (KL.mono (G := fpQ x m L) (fun b hb => by rw [List.mem_singleton] at hb; exact mem_fpQ.2 (.inl hb))) (Grows.refl _ _)
    exact hq.keep hk2
  have RP := Lib.hid (And.intro X1 (And.intro BFL (And.intro QL (show MapE wl Try.prog 22 m (cuE L) from h11.map.kept KL (by simpa using h11.xm)))))
  clear KL X1 BFL QL
  have FIN := Lib.hid (fun (w5 w' : World) (gb : Nat) (y : QryL) (hb5 : Below wl.heap.size wl w5) (hgb : wl.heap.size ≤ gb) (hB : Blk w5 gb 85 [.int .u64 (owner : Int), .int .i64 pin, .slice y.pv.1 y.pv.2.1 y.pv.2.2, .slice y.p0.1 y.p0.2.1 y.p0.2.2, .slice y.p1.1 y.p1.2.1 y.p1.2.2, .slice y.p2.1 y.p2.2.1 y.p2.2.2, .int .u32 (now : Int), .int .u32 0, .bool false, .int .i64 0, .int .u32 0, .bool false, .int .i64 0, .int .u32 0]) (hyq : y.q = ⟨vec, all, any, non⟩) (hrows : AskRows wl.heap.size w5 y) (hm' : MapE w' Try.prog 22 m (putE (cuE L) (key32 l1) (.pointer (some ⟨gb, 0, none⟩)))) (hk' : Kept [m] w5 w') =>
    show OpenPost lo x (fpQ x m L) s owner pin ⟨vec, all, any, non⟩ now w (.returned (.tuple #[.int .u32 (l1 : Int), .int .i64 0])) w' ∧ w'.cell? ⟨x, 2, none⟩ = some (.int .u32 (l1 : Int)) from by
    obtain ⟨r1, r2⟩ := open_fin (w := w) (L := L) (s0 := s) (pin := pin) h11 (fun t ht => ht) hLn (Kept.of_below b1 (Nat.le_refl _)) hwl (by rw [hlast]; exact hl1) (by omega) hb5 hgb hB hyq hrows hm' hk' hno h2 ho hn (rd_vec_wf hq.vec)
    exact ⟨⟨s, 0, .inl ⟨hf, rfl, rfl⟩, by rw [hlast, hl1], r1⟩, r2⟩)
  have HL := Lib.hid (show (cuE L).length = nn from by rw [← hnn, h2, cuE_len, List.length_map])
  have HEL := Lib.hid (show (cuE L).length ≤ 1000000 from by rw [cuE_len]; omega)
  rw [hnn] at hf
  have f1 := h11.blk.frozen 2
  have cm1 : w1.cell? ⟨x, 1, none⟩ = some (.map (some m)) := h11.blk.cell 1
  have cl : w1.cell? ⟨x, 2, none⟩ = some (.int .u32 (last : Int)) := by have := h11.blk.cell 2; rw [hlast] at this; exact this
  have HM := Lib.hid h11.map
  have HL1 := Lib.hid (show l1 < 4294967296 from by omega)
  clear h1 h2 hF hk h11 hno hLn b1 BF hl6 hlast hnn hq hwl2 ho hn
  go_enter Try.func8, Try.ntmps8
  go_wp2_with (first | (at_len; refine cu_len _ rfl _ rfl m _ _ HL.out rfl HM.out ?_) | (rw [hw1]) | fail)
  refine OpenR wl x m l1 owner now pin va vn vc a0 n0 c0 a1 n1 c1 a2 n2 c2 vec all any non w.heap.size (cuE L) rfl (by kernel_rfl) (by kernel_rfl) ⟨_, rfl, rfl, rfl, rfl, by kernel_rfl⟩ ⟨_, rfl, rfl, rfl, rfl, by kernel_rfl⟩ ⟨_, rfl, rfl, rfl, rfl, by kernel_rfl⟩ ⟨_, rfl, rfl, rfl, rfl, by kernel_rfl⟩ ⟨_, rfl, rfl, rfl, rfl, by kernel_rfl⟩ ⟨_, rfl, rfl, rfl, rfl, by kernel_rfl⟩ ⟨_, rfl, rfl, rfl, rfl, by kernel_rfl⟩ ⟨_, rfl, rfl, rfl, rfl, by kernel_rfl⟩ ⟨_, rfl, rfl, rfl, rfl, by kernel_rfl⟩ ⟨_, rfl, rfl, rfl, rfl, by kernel_rfl⟩ ⟨_, rfl, rfl, rfl, rfl, by kernel_rfl⟩ ⟨_, rfl, rfl, rfl, rfl, by kernel_rfl⟩ ⟨_, rfl, rfl, rfl, rfl, by kernel_rfl⟩ ⟨_, rfl, rfl, rfl, rfl, by kernel_rfl⟩ ⟨_, rfl, rfl, rfl, rfl, by kernel_rfl⟩ ⟨_, rfl, rfl, rfl, rfl, by kernel_rfl⟩ ⟨_, rfl, rfl, rfl, rfl, by kernel_rfl⟩ ⟨_, rfl, rfl, rfl, rfl, by kernel_rfl⟩ rfl rfl rfl rfl rfl rfl rfl (RP.out.1.cell 1) (RP.out.1.cell 2) RP.out.1.lt (RP.out.2.1.cell 0) (RP.out.2.1.cell 1) (RP.out.2.1.cell 2) RP.out.2.1.lt RP.out.2.2.1.vec RP.out.2.2.1 RP.out.2.2.2 HEL.out HL1.out ?_
  intro E2 w5 w' gb y hb5 hgb hB hyq hrows hm' hk'
  obtain ⟨r1, r2⟩ := FIN.out w5 w' gb y hb5 hgb hB hyq hrows hm' hk'
  have R := Lib.hid r1
  clear r1 hb5 hgb hB hyq hrows hm' hk' FIN HEL HL1 HM HL f1 cm1 cl RP hwl hw1
  simp only [filledR, dsOpenR]
  go_simp
  go_step
  go_wp2
  go_ret2
  exact R.out
set_option maxRecDepth 100000 in
set_option maxHeartbeats 3200000 in
theorem copen_full (w : World) (lo x m k : Nat) (s : CTab) (L : List CurL) (h1 : TabQ w lo x m L s.last s.idle) (h2 : s.cs = L.map (·.c)) (hF : s.Few k) (hk : k ≤ 1000000) (hf : 8 ≤ s.cs.length) (owner now : Nat) (pin : Int) (ho : owner < 18446744073709551616) (hn : now < 4294967296) (ql : QryL) (hq : ql.In (fun b => b ∉ fpQ x m L) w) :
    Calls Try.prog 8 #[.pointer (some ⟨x, 0, none⟩), .int .u64 (owner : Int), .int .i64 pin, .slice ql.pv.1 ql.pv.2.1 ql.pv.2.2, .agg #[.slice ql.p0.1 ql.p0.2.1 ql.p0.2.2, .slice ql.p1.1 ql.p1.2.1 ql.p1.2.2, .slice ql.p2.1 ql.p2.2.1 ql.p2.2.2], .int .u32 (now : Int)] w (OpenPost lo x (fpQ x m L) s owner pin ql.q now w) := by
  obtain ⟨⟨va, vn, vc⟩, ⟨a0, n0, c0⟩, ⟨a1, n1, c1⟩, ⟨a2, n2, c2⟩, ⟨vec, all, any, non⟩⟩ := ql
  obtain ⟨last, hlast⟩ : ∃ last, s.last = last := ⟨_, rfl⟩
  have hl6 : last ≤ 1000000 := by rw [← hlast]; exact Nat.le_trans hF.last hk
  obtain ⟨l1, hl1⟩ : ∃ l1, last + 1 = l1 := ⟨_, rfl⟩
  have hlw : IntKind.u32.wrap ((last : Int) + 1) = (l1 : Int) := by rw [IntKind.wrap_u32]; omega
  obtain ⟨nn, hnn⟩ : ∃ nn, s.cs.length = nn := ⟨_, rfl⟩
  obtain ⟨w1, hw1⟩ : ∃ w1, w.alloc (.cells #[.slice a0 n0 c0, .slice a1 n1 c1, .slice a2 n2 c2] 34) = w1 := ⟨_, rfl⟩
  have b1 : Below w.heap.size w w1 := by rw [← hw1]; exact (Below.refl _ _).alloc (Nat.le_refl _) _
  have BF : Blk w1 w.heap.size 34 [.slice a0 n0 c0, .slice a1 n1 c1, .slice a2 n2 c2] := by rw [← hw1]; exact Blk.new _ _ _
  have h11 := h1.on b1
  have hno : ∀ t ∈ L, t.c.n ≠ l1 := by
    intro t ht
    have := hF.low t.c (by rw [h2]; exact List.mem_map.2 ⟨t, ht, rfl⟩)
    omega
  have hne : 0 < L.length := by rw [h2, List.length_map] at hf; omega
  have hxw := h1.blk.lt
  have LU := Lib.hid (clongest_any w1 lo x m s.last s.idle L h11 hne)
  have MID := Lib.hid (fun (w2 : World) (t : CurL) (ht : t ∈ L) (hl : LeastC (L.map (·.c)) t.c) (hb2 : Below w1.heap.size w1 w2) => show Calls Try.prog 25 #[.pointer (some ⟨x, 0, none⟩), .int .u32 (t.c.n : Int)] w2 (fun e w3 => e = .returned (.int .i64 t.c.pin) ∧
      ∃ wl, w3.setCell ⟨x, 2, none⟩ (.int .u32 (l1 : Int)) = wl ∧ w3.cell? ⟨x, 2, none⟩ = some (.int .u32 (last : Int)) ∧ w3.frozen? ⟨x, 2, none⟩ = false ∧
      (Blk wl x 76 [.int .u32 (s.idle : Int), .map (some m), .int .u32 (l1 : Int)] ∧ Blk wl w.heap.size 34 [.slice a0 n0 c0, .slice a1 n1 c1, .slice a2 n2 c2] ∧ QryL.In (fun _ => True) wl ⟨(va, vn, vc), (a0, n0, c0), (a1, n1, c1), (a2, n2, c2), ⟨vec, all, any, non⟩⟩ ∧ ∃ L2 : List CurL, MapE wl Try.prog 22 m (cuE L2) ∧ (cuE L2).length ≤ 1000000 ∧
        ∀ (w5 w' : World) (gb : Nat) (y : QryL), Below wl.heap.size wl w5 → wl.heap.size ≤ gb → Blk w5 gb 85 [.int .u64 (owner : Int), .int .i64 pin, .slice y.pv.1 y.pv.2.1 y.pv.2.2, .slice y.p0.1 y.p0.2.1 y.p0.2.2, .slice y.p1.1 y.p1.2.1 y.p1.2.2, .slice y.p2.1 y.p2.2.1 y.p2.2.2, .int .u32 (now : Int), .int .u32 0, .bool false, .int .i64 0, .int .u32 0, .bool false, .int .i64 0, .int .u32 0] → y.q = ⟨vec, all, any, non⟩ → AskRows wl.heap.size w5 y → MapE w' Try.prog 22 m (putE (cuE L2) (key32 l1) (.pointer (some ⟨gb, 0, none⟩))) → Kept [m] w5 w' →
          OpenPost lo x (fpQ x m L) s owner pin ⟨vec, all, any, non⟩ now w (.returned (.tuple #[.int .u32 (l1 : Int), .int .i64 t.c.pin])) w' ∧ w'.cell? ⟨x, 2, none⟩ = some (.int .u32 (l1 : Int)))) from by
    refine (cdrop_any w2 lo x m s.last s.idle L (h11.on hb2) t ht).mono ?_
    rintro e w3 ⟨rfl, hT, hK⟩
    have hb12 := below_on b1 hb2
    have hk3 : Kept [m] w w3 := (Kept.of_below (F := [m]) hb12 (Nat.le_refl _)).trans hK (Grows.refl _ _)
    refine ⟨rfl, _, rfl, by rw [← hlast]; exact hT.blk.cell 2, hT.blk.frozen 2, ?_⟩
    obtain ⟨wl, hwl⟩ : ∃ wl, w3.setCell ⟨x, 2, none⟩ (.int .u32 (l1 : Int)) = wl := ⟨_, rfl⟩
    rw [hwl]
    have KL : Kept [x] w3 wl := by rw [← hwl]; exact (Kept.refl _ _).setCell _ _ (.inl (by simp))
    have X1 : Blk wl x 76 [.int .u32 (s.idle : Int), .map (some m), .int .u32 (l1 : Int)] := by rw [← hwl]; exact hT.blk.set 2 _
    have hmw := h1.map.lt
    have BFL : Blk wl w.heap.size 34 [.slice a0 n0 c0, .slice a1 n1 c1, .slice a2 n2 c2] := KL.blk (hK.blk ((Kept.of_below (F := []) hb2 (Nat.le_refl _)).blk BF (by simp)) (by rw [List.mem_singleton]; omega)) (by rw [List.mem_singleton]; omega)
    have hbl : Kept (fpQ x m L) w wl := (hk3.mono (G := fpQ x m L) (fun b hb => by rw [List.mem_singleton] at hb; exact mem_fpQ.2 (.inr (.inl hb)))).trans (KL.mono (G := fpQ x m L) (fun b hb => by rw [List.mem_singleton] at hb; exact mem_fpQ.2 (.inl hb))) (Grows.refl _ _)
    refine ⟨X1, BFL, hq.keep hbl, L.filter (fun s => decide (s.c.n ≠ t.c.n)), hT.map.kept KL (by simpa using h1.xm), by rw [cuE_len]; have := hT.eight; omega, ?_⟩
    intro w5 w' gb y hb5 hgb hB hyq hrows hm' hk'
    have hlt : (L.filter fun s => decide (s.c.n ≠ t.c.n)).length < 8 := by
      have h5 : (L.filter fun s => decide (s.c.n ≠ t.c.n)).length < L.length := List.length_filter_lt_length_iff_exists.2 ⟨t, ht, by simp⟩
      have := h1.eight
      omega
    obtain ⟨r1, r2⟩ := open_fin (w := w) (L := L) (s0 := s.cut t.c.n) (pin := pin) hT (fun t ht => (List.mem_filter.1 ht).1) hlt hk3 hwl (by show s.last + 1 = l1; rw [hlast]; exact hl1) (by omega) hb5 hgb hB hyq hrows hm' hk' (fun u hu => hno u (List.mem_filter.1 hu).1) (by
      show s.cs.filter (fun c => decide (c.n ≠ t.c.n)) = _
      rw [h2, filter_c L (fun c => decide (c.n ≠ t.c.n))]) ho hn (rd_vec_wf hq.vec)
    exact ⟨⟨s.cut t.c.n, t.c.pin, .inr ⟨hf, t.c, by rw [h2]; exact hl, rfl, rfl⟩, by rw [hlast, hl1], r1⟩, r2⟩)
  have HL := Lib.hid (show (cuE L).length = nn from by rw [← hnn, h2, cuE_len, List.length_map])
  rw [hnn] at hf
  have cm1 : w1.cell? ⟨x, 1, none⟩ = some (.map (some m)) := h11.blk.cell 1
  have HM := Lib.hid h11.map
  have HL1 := Lib.hid (show l1 < 4294967296 from by omega)
  clear h1 h2 hF hk h11 hno b1 BF hl6 hlast hnn hq ho hn hne hxw
  go_enter Try.func8, Try.ntmps8
  go_wp2_with (first | (at_len; refine cu_len _ rfl _ rfl m _ _ HL.out rfl HM.out ?_) | (rw [hw1]) | fail)
  refine LU.out.mono ?_
  rintro e w2 ⟨t, ht, hl, rfl, hb2⟩
  have CD := Lib.hid (MID.out w2 t ht hl hb2)
  clear MID LU ht hl hb2
  go_wp2_with (fail)
  refine CD.out.mono ?_
  rintro e w3 ⟨rfl, wl, hwl, cl, f1, X1, BFL, QL, L2, ML, HEL, FIN⟩
  have RP := Lib.hid (And.intro X1 (And.intro BFL (And.intro QL ML)))
  have HEL := Lib.hid HEL
  have FIN := Lib.hid FIN
  clear X1 BFL QL ML CD
  obtain ⟨pp, hpp⟩ : ∃ pp, t.c.pin = pp := ⟨_, rfl⟩
  rw [hpp] at FIN ⊢
  go_wp2_with (first | (rw [hwl]) | fail)
  refine OpenR wl x m l1 owner now pin va vn vc a0 n0 c0 a1 n1 c1 a2 n2 c2 vec all any non w.heap.size (cuE L2) rfl (by kernel_rfl) (by kernel_rfl) ⟨_, rfl, rfl, rfl, rfl, by kernel_rfl⟩ ⟨_, rfl, rfl, rfl, rfl, by kernel_rfl⟩ ⟨_, rfl, rfl, rfl, rfl, by kernel_rfl⟩ ⟨_, rfl, rfl, rfl, rfl, by kernel_rfl⟩ ⟨_, rfl, rfl, rfl, rfl, by kernel_rfl⟩ ⟨_, rfl, rfl, rfl, rfl, by kernel_rfl⟩ ⟨_, rfl, rfl, rfl, rfl, by kernel_rfl⟩ ⟨_, rfl, rfl, rfl, rfl, by kernel_rfl⟩ ⟨_, rfl, rfl, rfl, rfl, by kernel_rfl⟩ ⟨_, rfl, rfl, rfl, rfl, by kernel_rfl⟩ ⟨_, rfl, rfl, rfl, rfl, by kernel_rfl⟩ ⟨_, rfl, rfl, rfl, rfl, by kernel_rfl⟩ ⟨_, rfl, rfl, rfl, rfl, by kernel_rfl⟩ ⟨_, rfl, rfl, rfl, rfl, by kernel_rfl⟩ ⟨_, rfl, rfl, rfl, rfl, by kernel_rfl⟩ ⟨_, rfl, rfl, rfl, rfl, by kernel_rfl⟩ ⟨_, rfl, rfl, rfl, rfl, by kernel_rfl⟩ ⟨_, rfl, rfl, rfl, rfl, by kernel_rfl⟩ rfl rfl rfl rfl rfl rfl rfl (RP.out.1.cell 1) (RP.out.1.cell 2) RP.out.1.lt (RP.out.2.1.cell 0) (RP.out.2.1.cell 1) (RP.out.2.1.cell 2) RP.out.2.1.lt RP.out.2.2.1.vec RP.out.2.2.1 RP.out.2.2.2 HEL.out HL1.out ?_
  intro E2 w5 w' gb y hb5 hgb hB hyq hrows hm' hk'
  obtain ⟨r1, r2⟩ := FIN.out w5 w' gb y hb5 hgb hB hyq hrows hm' hk'
  have R := Lib.hid r1
  clear r1 hb5 hgb hB hyq hrows hm' hk' FIN HEL HL1 HM HL f1 cm1 cl RP hwl hw1 hpp
  simp only [filledR, dsOpenR]
  go_simp
  go_step
  go_wp2
  go_ret2
  exact R.out
theorem copen_any (w : World) (lo x k : Nat) (F : List Nat) (s : CTab) (h : CIs w lo x F s) (hF : s.Few k) (hk : k ≤ 1000000) (owner now : Nat) (pin : Int) (ho : owner < 18446744073709551616) (hn : now < 4294967296) (ql : QryL) (hq : ql.In (fun b => b ∉ F) w) :
    Calls Try.prog 8 #[.pointer (some ⟨x, 0, none⟩), .int .u64 (owner : Int), .int .i64 pin, .slice ql.pv.1 ql.pv.2.1 ql.pv.2.2, .agg #[.slice ql.p0.1 ql.p0.2.1 ql.p0.2.2, .slice ql.p1.1 ql.p1.2.1 ql.p1.2.2, .slice ql.p2.1 ql.p2.2.1 ql.p2.2.2], .int .u32 (now : Int)] w (OpenPost lo x F s owner pin ql.q now w) := by
  obtain ⟨m, L, h1, h2, rfl⟩ := h
  by_cases hf : s.cs.length < 8
  · exact copen_room w lo x m k s L h1 h2 hF hk hf owner now pin ho hn ql hq
  · exact copen_full w lo x m k s L h1 h2 hF hk (by omega) owner now pin ho hn ql hq
end Go.Proofs.Ytadkfedglkhgjaa
