/-
  Layer 14, the program's cursors: ask, tell. (Made by tools/mkqrh.py.)
-/
import Derived.Test.YtadkfedglkhgjaaQrg
import Derived.Test.YtadkfedglkhgjaaQrq
namespace Go.Proofs.Ytadkfedglkhgjaa
open Go.RowKit Go.ChangeShapes Go.WideShapes Go.ChangeAt Go.Maps

theorem StrsOwn.to {w w' : World} {lo lo' : Nat} {p : Option Addr × Nat × Nat} {xs : List ByteArray} (h : StrsOwn lo w p xs) (hl : lo' ≤ lo) (hb : Below w.heap.size w w') : StrsOwn lo' w' p xs := ⟨row_to h.row hl hb, h.wf, h.len⟩
/-- A filter of rows of the call's own, as a value. -/
def FiltV (lo : Nat) (all any non : List ByteArray) (w : World) (v : Value) : Prop := ∃ q0 q1 q2 : Option Addr × Nat × Nat, v = .agg #[.slice q0.1 q0.2.1 q0.2.2, .slice q1.1 q1.2.1 q1.2.2, .slice q2.1 q2.2.1 q2.2.2] ∧ StrsOwn lo w q0 all ∧ StrsOwn lo w q1 any ∧ StrsOwn lo w q2 non
theorem FiltV.to {lo : Nat} {all any non : List ByteArray} {w w' : World} {v : Value} (h : FiltV lo all any non w v) (hb : Below w.heap.size w w') : FiltV lo all any non w' v := by
  obtain ⟨q0, q1, q2, e, h0, h1, h2⟩ := h
  exact ⟨q0, q1, q2, e, h0.to (Nat.le_refl _) hb, h1.to (Nat.le_refl _) hb, h2.to (Nat.le_refl _) hb⟩
/-- A query's rows, ahead of what is known of their lengths. -/
def AskRows (lo : Nat) (w : World) (y : QryL) : Prop := w.ownsRow lo 21 1 (.slice y.pv.1 y.pv.2.1 y.pv.2.2) y.q.vec.length (y.q.vec.map (Value.int .i32)) ∧ StrsOwn lo w y.p0 y.q.all ∧ StrsOwn lo w y.p1 y.q.any ∧ StrsOwn lo w y.p2 y.q.none
theorem ask_build (pn : Int) (a : Option Addr) (n c : Nat) (q0 q1 q2 : Option Addr × Nat × Nat) (eh : Bool) (ed ei : Int) (w : World) : (Instr.build 49 #[(0, .int .i64 pn), (1, .slice a n c), (2, .agg #[.slice q0.1 q0.2.1 q0.2.2, .slice q1.1 q1.2.1 q1.2.2, .slice q2.1 q2.2.1 q2.2.2]), (3, .bool eh), (4, .agg #[.int .i64 ed, .int .u32 ei])]).run Try.prog w = .ok (.agg #[.int .i64 pn, .slice a n c, .slice q0.1 q0.2.1 q0.2.2, .slice q1.1 q1.2.1 q1.2.2, .slice q2.1 q2.2.1 q2.2.2, .bool eh, .int .i64 ed, .int .u32 ei]) w := by go_simp
set_option maxRecDepth 100000 in
theorem ask_store (gb : Nat) (pn : Int) (y : QryL) (eh : Bool) (ed ei : Int) (w : World) (h : Blk w gb 49 [.int .i64 0, .slice none 0 0, .slice none 0 0, .slice none 0 0, .slice none 0 0, .bool false, .int .i64 0, .int .u32 0]) : (Instr.storeAt 49 (.pointer (some ⟨gb, 0, none⟩)) (.agg #[.int .i64 pn, .slice y.pv.1 y.pv.2.1 y.pv.2.2, .slice y.p0.1 y.p0.2.1 y.p0.2.2, .slice y.p1.1 y.p1.2.1 y.p1.2.2, .slice y.p2.1 y.p2.2.1 y.p2.2.2, .bool eh, .int .i64 ed, .int .u32 ei])).run Try.prog w = .ok () ((((((((w.setCell ⟨gb, 0, none⟩ (.int .i64 pn)).setCell ⟨gb, 1, none⟩ (.slice y.pv.1 y.pv.2.1 y.pv.2.2)).setCell ⟨gb, 2, none⟩ (.slice y.p0.1 y.p0.2.1 y.p0.2.2)).setCell ⟨gb, 3, none⟩ (.slice y.p1.1 y.p1.2.1 y.p1.2.2)).setCell ⟨gb, 4, none⟩ (.slice y.p2.1 y.p2.2.1 y.p2.2.2)).setCell ⟨gb, 5, none⟩ (.bool eh)).setCell ⟨gb, 6, none⟩ (.int .i64 ed)).setCell ⟨gb, 7, none⟩ (.int .u32 ei)) := by
  have c0 : w.cell? ⟨gb, 0, none⟩ = some (.int .i64 0) := h.cell 0
  have c1 : w.cell? ⟨gb, 1, none⟩ = some (.slice none 0 0) := h.cell 1
  have c2 : w.cell? ⟨gb, 2, none⟩ = some (.slice none 0 0) := h.cell 2
  have c3 : w.cell? ⟨gb, 3, none⟩ = some (.slice none 0 0) := h.cell 3
  have c4 : w.cell? ⟨gb, 4, none⟩ = some (.slice none 0 0) := h.cell 4
  have c5 : w.cell? ⟨gb, 5, none⟩ = some (.bool false) := h.cell 5
  have c6 : w.cell? ⟨gb, 6, none⟩ = some (.int .i64 0) := h.cell 6
  have c7 : w.cell? ⟨gb, 7, none⟩ = some (.int .u32 0) := h.cell 7
  have f0 := h.frozen 0
  have f1 := h.frozen 1
  have f2 := h.frozen 2
  have f3 := h.frozen 3
  have f4 := h.frozen 4
  have f5 := h.frozen 5
  have f6 := h.frozen 6
  have f7 := h.frozen 7
  clear h
  go_simp
def dsAskR (i : Nat) : Nat := match i with
  | 0 => 9
  | 1 => 10
  | 2 => 11
  | 3 => 12
  | 4 => 13
  | 5 => 14
  | 6 => 15
  | 7 => 16
  | 8 => 17
  | 9 => 18
  | 10 => 19
  | 11 => 20
  | 12 => 21
  | 13 => 22
  | 14 => 23
  | 15 => 24
  | 16 => 25
  | 17 => 26
  | 18 => 27
  | 19 => 2
  | _ + 20 => 0
def factsAskR (w0 : World) (g eg : Nat) (pn : Int) (va : Option Addr) (vn vc : Nat) (a0 : Option Addr) (n0 c0 : Nat) (a1 : Option Addr) (n1 c1 : Nat) (a2 : Option Addr) (n2 c2 : Nat) (eh : Bool) (ed ei : Int) (vec : List Int) (all any non : List ByteArray) (_L : Nat → Bool) (j : Nat) (v : Value) (w : World) : Prop :=
  match j with
  | 0 => v = .pointer (some ⟨g, 0, none⟩)
  | 1 => v = .pointer (some ⟨g, 0, none⟩)
  | 2 => v = .pointer (some ⟨g, 1, none⟩)
  | 3 => v = .int .i64 pn
  | 4 => v = .pointer (some ⟨g, 0, none⟩)
  | 5 => v = .pointer (some ⟨g, 0, none⟩)
  | 6 => v = .pointer (some ⟨g, 2, none⟩)
  | 7 => v = .slice va vn vc
  | 8 => w.ownsRow w0.heap.size 21 1 v vec.length (vec.map (Value.int .i32))
  | 9 => v = .pointer (some ⟨g, 0, none⟩)
  | 10 => v = .pointer (some ⟨g, 0, none⟩)
  | 11 => v = .pointer (some ⟨g, 3, none⟩)
  | 12 => v = .agg #[.slice a0 n0 c0, .slice a1 n1 c1, .slice a2 n2 c2]
  | 13 => FiltV w0.heap.size all any non w v
  | 14 => v = .pointer (some ⟨eg, 0, none⟩)
  | 15 => v = .bool eh
  | 16 => v = .pointer (some ⟨eg, 1, none⟩)
  | 17 => v = .agg #[.int .i64 ed, .int .u32 ei]
  | _ => True
theorem factsAskR_on (w0 : World) (g eg : Nat) (pn : Int) (va : Option Addr) (vn vc : Nat) (a0 : Option Addr) (n0 c0 : Nat) (a1 : Option Addr) (n1 c1 : Nat) (a2 : Option Addr) (n2 c2 : Nat) (eh : Bool) (ed ei : Int) (vec : List Int) (all any non : List ByteArray) (L : Nat → Bool) (i j : Nat) (v : Value) (w w' : World) (h : factsAskR w0 g eg pn va vn vc a0 n0 c0 a1 n1 c1 a2 n2 c2 eh ed ei vec all any non L j v w) (hb : Below w.heap.size w w') : factsAskR w0 g eg pn va vn vc a0 n0 c0 a1 n1 c1 a2 n2 c2 eh ed ei vec all any non (updN L i) j v w' := by
  match j, h with
  | 0, h => exact h
  | 1, h => exact h
  | 2, h => exact h
  | 3, h => exact h
  | 4, h => exact h
  | 5, h => exact h
  | 6, h => exact h
  | 7, h => exact h
  | 8, h => exact row_to h (Nat.le_refl _) hb
  | 9, h => exact h
  | 10, h => exact h
  | 11, h => exact h
  | 12, h => exact h
  | 13, h => exact FiltV.to h hb
  | 14, h => exact h
  | 15, h => exact h
  | 16, h => exact h
  | 17, h => exact h
  | _ + 18, _ => exact trivial
set_option maxRecDepth 100000 in
set_option maxHeartbeats 6400000 in
theorem AskR {rid : Nat} {ops : Array Oper} {Q : Exit → Act → World → Prop} {T0 : Array Value} (w0 : World) (g eg : Nat) (pn : Int) (va : Option Addr) (vn vc : Nat) (a0 : Option Addr) (n0 c0 : Nat) (a1 : Option Addr) (n1 c1 : Nat) (a2 : Option Addr) (n2 c2 : Nat) (eh : Bool) (ed ei : Int) (vec : List Int) (all any non : List ByteArray) (gb : Nat) (hsize : ops.size = 20) (hb : edgesB ops = true) (hlead : leadsB ops 18 = true)
    (op0 : OpIs ops 0 (.move (.tmp 0)) (some 9) [])
    (op1 : OpIs ops 1 (.nilCheck (.tmp 9)) (some 10) [0])
    (op2 : OpIs ops 2 (.fieldAddr 85 (.tmp 10) 1) (some 11) [1])
    (op3 : OpIs ops 3 (.load 3 (.tmp 11)) (some 12) [2])
    (op4 : OpIs ops 4 (.move (.tmp 0)) (some 13) [])
    (op5 : OpIs ops 5 (.nilCheck (.tmp 13)) (some 14) [4])
    (op6 : OpIs ops 6 (.fieldAddr 85 (.tmp 14) 2) (some 15) [5])
    (op7 : OpIs ops 7 (.load 31 (.tmp 15)) (some 16) [6])
    (op8 : OpIs ops 8 (.call { callee := .value (.func 27), args := #[.tmp 16], argTypes := #[31] }) (some 17) [7])
    (op9 : OpIs ops 9 (.move (.tmp 0)) (some 18) [])
    (op10 : OpIs ops 10 (.nilCheck (.tmp 18)) (some 19) [9])
    (op11 : OpIs ops 11 (.fieldAddr 85 (.tmp 19) 3) (some 20) [10])
    (op12 : OpIs ops 12 (.load 34 (.tmp 20)) (some 21) [11])
    (op13 : OpIs ops 13 (.call { callee := .value (.func 28), args := #[.tmp 21], argTypes := #[34] }) (some 22) [12])
    (op14 : OpIs ops 14 (.fieldAddr 83 (.tmp 5) 0) (some 23) [])
    (op15 : OpIs ops 15 (.load 4 (.tmp 23)) (some 24) [14])
    (op16 : OpIs ops 16 (.fieldAddr 83 (.tmp 5) 1) (some 25) [])
    (op17 : OpIs ops 17 (.load 47 (.tmp 25)) (some 26) [16])
    (op18 : OpIs ops 18 (.build 49 #[(0, .tmp 12), (1, .tmp 17), (2, .tmp 22), (3, .tmp 24), (4, .tmp 26)]) (some 27) [3, 8, 13, 15, 17])
    (op19 : OpIs ops 19 (.store 49 (.tmp 4) (.tmp 27)) (none) [18])
    (hT : T0.size = 28) (t0 : T0[0]? = some (.pointer (some ⟨g, 0, none⟩))) (t5 : T0[5]? = some (.pointer (some ⟨eg, 0, none⟩))) (t4 : T0[4]? = some (.pointer (some ⟨gb, 0, none⟩)))
    (k1 : w0.cell? ⟨g, 1, none⟩ = some (.int .i64 pn)) (k2 : w0.cell? ⟨g, 2, none⟩ = some (.slice va vn vc)) (k3 : w0.cell? ⟨g, 3, none⟩ = some (.slice a0 n0 c0)) (k4 : w0.cell? ⟨g, 4, none⟩ = some (.slice a1 n1 c1)) (k5 : w0.cell? ⟨g, 5, none⟩ = some (.slice a2 n2 c2)) (m0 : w0.cell? ⟨eg, 0, none⟩ = some (.bool eh)) (m1 : w0.cell? ⟨eg, 1, none⟩ = some (.int .i64 ed)) (m2 : w0.cell? ⟨eg, 2, none⟩ = some (.int .u32 ei)) (hg : g < w0.heap.size) (heg : eg < w0.heap.size) (rv : Rd (fun _ => True) w0 shVec [.slice va vn vc] vec) (rq : QryL.In (fun _ => True) w0 ⟨(va, vn, vc), (a0, n0, c0), (a1, n1, c1), (a2, n2, c2), ⟨vec, all, any, non⟩⟩) (hgb : Blk w0 gb 49 [.int .i64 0, .slice none 0 0, .slice none 0 0, .slice none 0 0, .slice none 0 0, .bool false, .int .i64 0, .int .u32 0])
    (hQ : ∀ (a : Act) (w : World) (y : QryL), a.defers = [] → a.tmps[4]? = some (.pointer (some ⟨gb, 0, none⟩)) → Below w0.heap.size w0 w → y.q = ⟨vec, all, any, non⟩ → AskRows w0.heap.size w y → Q .normal a ((((((((w.setCell ⟨gb, 0, none⟩ (.int .i64 pn)).setCell ⟨gb, 1, none⟩ (.slice y.pv.1 y.pv.2.1 y.pv.2.2)).setCell ⟨gb, 2, none⟩ (.slice y.p0.1 y.p0.2.1 y.p0.2.2)).setCell ⟨gb, 3, none⟩ (.slice y.p1.1 y.p1.2.1 y.p1.2.2)).setCell ⟨gb, 4, none⟩ (.slice y.p2.1 y.p2.2.1 y.p2.2.2)).setCell ⟨gb, 5, none⟩ (.bool eh)).setCell ⟨gb, 6, none⟩ (.int .i64 ed)).setCell ⟨gb, 7, none⟩ (.int .u32 ei))) :
    (Code.region rid ops true).wp Try.prog Q ⟨T0, []⟩ w0 := by
  have hinj : ∀ p q, p < ops.size → q < ops.size → dsAskR p = dsAskR q → p = q := by
    rw [hsize]
    have h1 : ∀ p, p < 20 → ∀ q, q < 20 → dsAskR p = dsAskR q → p = q := by decide
    exact fun p q hp hq => h1 p hp q hq
  have hds : ∀ p, p < ops.size → dsAskR p < T0.size := by
    rw [hsize, hT]
    decide
  refine wp_grow2 w0 dsAskR (factsAskR w0 g eg pn va vn vc a0 n0 c0 a1 n1 c1 a2 n2 c2 eh ed ei vec all any non) (fun a w => a.defers = [] ∧ a.tmps[4]? = T0[4]? ∧ Below w0.heap.size w0 w ∧ ∃ y : QryL, y.q = ⟨vec, all, any, non⟩ ∧ AskRows w0.heap.size w y ∧ a.eval (.tmp 27) = .agg #[.int .i64 pn, .slice y.pv.1 y.pv.2.1 y.pv.2.2, .slice y.p0.1 y.p0.2.1 y.p0.2.2, .slice y.p1.1 y.p1.2.1 y.p1.2.2, .slice y.p2.1 y.p2.2.1 y.p2.2.2, .bool eh, .int .i64 ed, .int .u32 ei]) 18 (by kernel_rfl) hb hsize hlead (fun o ho => (op19.useQ ho).2.2.2 18 (by simp)) (factsAskR_on w0 g eg pn va vn vc a0 n0 c0 a1 n1 c1 a2 n2 c2 eh ed ei vec all any non) hinj hds ?_ ?_ ?_
  · intro l a w j o hI ho hj hl hlM hlN hd K hK
    have far : ∀ k, (∀ p, p < 18 → dsAskR p ≠ k) → ∀ p, p < ops.size → l.getD p false = true → dsAskR p ≠ k := by
      intro k hk p hp hlp
      rcases Nat.lt_trichotomy p 18 with h | h | h
      · exact hk p h
      · subst h
        rw [hlM] at hlp
        cases hlp
      · have : p = 19 := by omega
        subst this
        rw [hlN] at hlp
        cases hlp
    have e0 : a.eval (.tmp 0) = .pointer (some ⟨g, 0, none⟩) := hI.ev 0 _ t0 (far 0 (by decide))
    have e5 : a.eval (.tmp 5) = .pointer (some ⟨eg, 0, none⟩) := hI.ev 5 _ t5 (far 5 (by decide))
    have e4 : a.eval (.tmp 4) = .pointer (some ⟨gb, 0, none⟩) := hI.ev 4 _ t4 (far 4 (by decide))
    have hw0 := hI.below.size
    have q1 := (hI.below.cell (p := ⟨g, 1, none⟩) hg).trans k1
    have q2 := (hI.below.cell (p := ⟨g, 2, none⟩) hg).trans k2
    have q3 := (hI.below.cell (p := ⟨g, 3, none⟩) hg).trans k3
    have q4 := (hI.below.cell (p := ⟨g, 4, none⟩) hg).trans k4
    have q5 := (hI.below.cell (p := ⟨g, 5, none⟩) hg).trans k5
    have p0 := (hI.below.cell (p := ⟨eg, 0, none⟩) heg).trans m0
    have p1 := (hI.below.cell (p := ⟨eg, 1, none⟩) heg).trans m1
    have p2 := (hI.below.cell (p := ⟨eg, 2, none⟩) heg).trans m2
    have hcase : j = 0 ∨ j = 1 ∨ j = 2 ∨ j = 3 ∨ j = 4 ∨ j = 5 ∨ j = 6 ∨ j = 7 ∨ j = 8 ∨ j = 9 ∨ j = 10 ∨ j = 11 ∨ j = 12 ∨ j = 13 ∨ j = 14 ∨ j = 15 ∨ j = 16 ∨ j = 17 := by omega
    rcases hcase with rfl | rfl | rfl | rfl | rfl | rfl | rfl | rfl | rfl | rfl | rfl | rfl | rfl | rfl | rfl | rfl | rfl | rfl
    · obtain ⟨hop, hdst, hgd, hL⟩ := op0.useQ ho
      refine g_if hgd (g_move hop ?_)
      rw [hdst]
      exact hK _ _ (show a.eval (.tmp 0) = _ from e0) (.inl (Below.refl _ _))
    · obtain ⟨hop, hdst, hgd, hL⟩ := op1.useQ ho
      refine g_if hgd (q_nil hop (hI.slot 0 (by decide) (hd 0 (hL 0 (by simp)))) ?_)
      rw [hdst]
      exact hK _ _ (show _ = _ from rfl) (.inl (Below.refl _ _))
    · obtain ⟨hop, hdst, hgd, hL⟩ := op2.useQ ho
      refine g_if hgd (g_field hop (hI.slot 1 (by decide) (hd 1 (hL 1 (by simp)))) ((show (Instr.fieldAt 85 (.pointer (some ⟨g, 0, none⟩)) 1).run Try.prog w = .ok (.pointer (some ⟨g, 1, none⟩)) w by go_simp)) ?_)
      rw [hdst]
      exact hK _ _ (show _ = _ from rfl) (.inl (Below.refl _ _))
    · obtain ⟨hop, hdst, hgd, hL⟩ := op3.useQ ho
      refine g_if hgd (g_load hop (hI.slot 2 (by decide) (hd 2 (hL 2 (by simp)))) ((show (Instr.loadAt 3 (.pointer (some ⟨g, 1, none⟩))).run Try.prog w = .ok (.int .i64 pn) w by go_simp)) ?_)
      rw [hdst]
      exact hK _ _ (show _ = _ from rfl) (.inl (Below.refl _ _))
    · obtain ⟨hop, hdst, hgd, hL⟩ := op4.useQ ho
      refine g_if hgd (g_move hop ?_)
      rw [hdst]
      exact hK _ _ (show a.eval (.tmp 0) = _ from e0) (.inl (Below.refl _ _))
    · obtain ⟨hop, hdst, hgd, hL⟩ := op5.useQ ho
      refine g_if hgd (q_nil hop (hI.slot 4 (by decide) (hd 4 (hL 4 (by simp)))) ?_)
      rw [hdst]
      exact hK _ _ (show _ = _ from rfl) (.inl (Below.refl _ _))
    · obtain ⟨hop, hdst, hgd, hL⟩ := op6.useQ ho
      refine g_if hgd (g_field hop (hI.slot 5 (by decide) (hd 5 (hL 5 (by simp)))) ((show (Instr.fieldAt 85 (.pointer (some ⟨g, 0, none⟩)) 2).run Try.prog w = .ok (.pointer (some ⟨g, 2, none⟩)) w by go_simp)) ?_)
      rw [hdst]
      exact hK _ _ (show _ = _ from rfl) (.inl (Below.refl _ _))
    · obtain ⟨hop, hdst, hgd, hL⟩ := op7.useQ ho
      refine g_if hgd (g_load hop (hI.slot 6 (by decide) (hd 6 (hL 6 (by simp)))) ((show (Instr.loadAt 31 (.pointer (some ⟨g, 2, none⟩))).run Try.prog w = .ok (.slice va vn vc) w by go_simp)) ?_)
      rw [hdst]
      exact hK _ _ (show _ = _ from rfl) (.inl (Below.refl _ _))
    · obtain ⟨hop, hdst, hgd, hL⟩ := op8.useQ ho
      refine g_if hgd (q_call (enters_of Try.func27 (by kernel_rfl) rfl) hop (us := #[.slice va vn vc]) (by simp only [List.map_toArray, List.map_cons, List.map_nil]; rw [(show a.eval (.tmp 16) = .slice va vn vc from (hI.slot 7 (by decide) (hd 7 (hL 7 (by simp)))))]) (clone32_any w va vn vc vec (rv.on hI.below)) ?_)
      rintro e w' ⟨v, rfl, hbel, ho⟩
      refine ⟨_, rfl, ?_⟩
      rw [hdst]
      exact hK _ _ (row_to ho hw0 (Below.refl _ _)) (.inl hbel)
    · obtain ⟨hop, hdst, hgd, hL⟩ := op9.useQ ho
      refine g_if hgd (g_move hop ?_)
      rw [hdst]
      exact hK _ _ (show a.eval (.tmp 0) = _ from e0) (.inl (Below.refl _ _))
    · obtain ⟨hop, hdst, hgd, hL⟩ := op10.useQ ho
      refine g_if hgd (q_nil hop (hI.slot 9 (by decide) (hd 9 (hL 9 (by simp)))) ?_)
      rw [hdst]
      exact hK _ _ (show _ = _ from rfl) (.inl (Below.refl _ _))
    · obtain ⟨hop, hdst, hgd, hL⟩ := op11.useQ ho
      refine g_if hgd (g_field hop (hI.slot 10 (by decide) (hd 10 (hL 10 (by simp)))) ((show (Instr.fieldAt 85 (.pointer (some ⟨g, 0, none⟩)) 3).run Try.prog w = .ok (.pointer (some ⟨g, 3, none⟩)) w by go_simp)) ?_)
      rw [hdst]
      exact hK _ _ (show _ = _ from rfl) (.inl (Below.refl _ _))
    · obtain ⟨hop, hdst, hgd, hL⟩ := op12.useQ ho
      refine g_if hgd (g_load hop (hI.slot 11 (by decide) (hd 11 (hL 11 (by simp)))) ((show (Instr.loadAt 34 (.pointer (some ⟨g, 3, none⟩))).run Try.prog w = .ok (.agg #[.slice a0 n0 c0, .slice a1 n1 c1, .slice a2 n2 c2]) w by go_simp)) ?_)
      rw [hdst]
      exact hK _ _ (show _ = _ from rfl) (.inl (Below.refl _ _))
    · obtain ⟨hop, hdst, hgd, hL⟩ := op13.useQ ho
      refine g_if hgd (q_call (enters_of Try.func28 (by kernel_rfl) rfl) hop (us := #[.agg #[.slice a0 n0 c0, .slice a1 n1 c1, .slice a2 n2 c2]]) (by simp only [List.map_toArray, List.map_cons, List.map_nil]; rw [(show a.eval (.tmp 21) = .agg #[.slice a0 n0 c0, .slice a1 n1 c1, .slice a2 n2 c2] from (hI.slot 12 (by decide) (hd 12 (hL 12 (by simp)))))]) (cfilter_any w ⟨(va, vn, vc), (a0, n0, c0), (a1, n1, c1), (a2, n2, c2), ⟨vec, all, any, non⟩⟩ (rq.on hI.below)) ?_)
      rintro e w' ⟨q0, q1, q2, rfl, hbel, ho0, ho1, ho2⟩
      refine ⟨_, rfl, ?_⟩
      rw [hdst]
      exact hK _ _ ⟨q0, q1, q2, rfl, ho0.to hw0 (Below.refl _ _), ho1.to hw0 (Below.refl _ _), ho2.to hw0 (Below.refl _ _)⟩ (.inl hbel)
    · obtain ⟨hop, hdst, hgd, hL⟩ := op14.useQ ho
      refine g_if hgd (g_field hop e5 ((show (Instr.fieldAt 83 (.pointer (some ⟨eg, 0, none⟩)) 0).run Try.prog w = .ok (.pointer (some ⟨eg, 0, none⟩)) w by go_simp)) ?_)
      rw [hdst]
      exact hK _ _ (show _ = _ from rfl) (.inl (Below.refl _ _))
    · obtain ⟨hop, hdst, hgd, hL⟩ := op15.useQ ho
      refine g_if hgd (g_load hop (hI.slot 14 (by decide) (hd 14 (hL 14 (by simp)))) ((show (Instr.loadAt 4 (.pointer (some ⟨eg, 0, none⟩))).run Try.prog w = .ok (.bool eh) w by go_simp)) ?_)
      rw [hdst]
      exact hK _ _ (show _ = _ from rfl) (.inl (Below.refl _ _))
    · obtain ⟨hop, hdst, hgd, hL⟩ := op16.useQ ho
      refine g_if hgd (g_field hop e5 ((show (Instr.fieldAt 83 (.pointer (some ⟨eg, 0, none⟩)) 1).run Try.prog w = .ok (.pointer (some ⟨eg, 1, none⟩)) w by go_simp)) ?_)
      rw [hdst]
      exact hK _ _ (show _ = _ from rfl) (.inl (Below.refl _ _))
    · obtain ⟨hop, hdst, hgd, hL⟩ := op17.useQ ho
      refine g_if hgd (g_load hop (hI.slot 16 (by decide) (hd 16 (hL 16 (by simp)))) ((show (Instr.loadAt 47 (.pointer (some ⟨eg, 1, none⟩))).run Try.prog w = .ok (.agg #[.int .i64 ed, .int .u32 ei]) w by go_simp)) ?_)
      rw [hdst]
      exact hK _ _ (show _ = _ from rfl) (.inl (Below.refl _ _))
  · intro a w o ho hfar hsz hdf hbel hfacts K hK
    obtain ⟨hop, hdst, hgd, hL⟩ := op18.useQ ho
    obtain ⟨L, -, -, hf⟩ := hfacts
    have f3 : a.eval (.tmp 12) = .int .i64 pn := hf 3 (by decide)
    have f8 : w.ownsRow w0.heap.size 21 1 (a.eval (.tmp 17)) vec.length (vec.map (Value.int .i32)) := hf 8 (by decide)
    have f13 : FiltV w0.heap.size all any non w (a.eval (.tmp 22)) := hf 13 (by decide)
    have f15 : a.eval (.tmp 24) = .bool eh := hf 15 (by decide)
    have f17 : a.eval (.tmp 26) = .agg #[.int .i64 ed, .int .u32 ei] := hf 17 (by decide)
    obtain ⟨va', vn', vc', ev, -⟩ := ownsRow_slice f8
    obtain ⟨q0, q1, q2, ef, s0, s1, s2⟩ := f13
    refine g_if hgd (q_build (ps := [(0, .tmp 12), (1, .tmp 17), (2, .tmp 22), (3, .tmp 24), (4, .tmp 26)]) hop (us := [(0, .int .i64 pn), (1, .slice va' vn' vc'), (2, .agg #[.slice q0.1 q0.2.1 q0.2.2, .slice q1.1 q1.2.1 q1.2.2, .slice q2.1 q2.2.1 q2.2.2]), (3, .bool eh), (4, .agg #[.int .i64 ed, .int .u32 ei])]) (by simp only [List.map_cons, List.map_nil]; rw [f3, ev, ef, f15, f17]) (ask_build pn va' vn' vc' _ _ _ eh ed ei w) ?_)
    rw [hdst]
    refine hK _ _ ⟨hdf, ?_, hbel, ⟨(va', vn', vc'), q0, q1, q2, ⟨vec, all, any, non⟩⟩, rfl, ⟨by rw [← ev]; exact f8, s0, s1, s2⟩, ?_⟩
    · show (a.put (some 27) _).tmps[4]? = _
      rw [show (a.put (some 27) _).tmps = a.tmps.setIfInBounds 27 _ from rfl, Array.getElem?_setIfInBounds_ne (by decide)]
      exact hfar 4 (by decide)
    · show (a.tmps.setIfInBounds 27 _).getD 27 undef = _
      rw [Array.getD_eq_getD_getElem?, Array.getElem?_setIfInBounds]
      simp [hsz, hT]
  · intro a w o ho hR K hK
    obtain ⟨hdf, h4, hbel, y, hq, hrows, h27⟩ := hR
    obtain ⟨hop, hdst, hgd, hL⟩ := op19.useQ ho
    have e4 : a.eval (.tmp 4) = .pointer (some ⟨gb, 0, none⟩) := by
      show a.tmps.getD 4 undef = _
      rw [Array.getD_eq_getD_getElem?, h4, t4]
      rfl
    have hB := (Kept.of_below (F := []) hbel (Nat.le_refl _)).blk hgb (by simp)
    refine g_if hgd (q_store hop e4 h27 (ask_store gb pn y eh ed ei w hB) ?_)
    rw [hdst]
    exact hK _ _ (hQ a w y hdf (h4.trans t4) hbel hq hrows)
theorem ask_info : (Try.prog.info? 49).map (·.size) = some 8 := by kernel_rfl
/-- What a page asks for, as a value. -/
def askA (pin : Int) (y : QryL) (e : EndV) : Value := .agg #[.int .i64 pin, .slice y.pv.1 y.pv.2.1 y.pv.2.2, .slice y.p0.1 y.p0.2.1 y.p0.2.2, .slice y.p1.1 y.p1.2.1 y.p1.2.2, .slice y.p2.1 y.p2.2.1 y.p2.2.2, .bool e.has, .int .i64 e.dist, .int .u32 e.id]
def AskPost (t : CurL) (page : Nat) (w : World) (e : Ending) (w' : World) : Prop := ∃ y : QryL, y.q = t.l.q ∧ e = .returned (askA t.c.pin y (t.c.behind page)) ∧ Below w.heap.size w w' ∧ y.Own w.heap.size w'
set_option maxRecDepth 100000 in
set_option maxHeartbeats 3200000 in
theorem cask_any (w : World) (lo g : Nat) (t : CurL) (h : t.At w lo) (hg : t.g = g) (page : Nat) :
    Calls Try.prog 32 #[.pointer (some ⟨g, 0, none⟩), .int .u32 (page : Int)] w (AskPost t page w) := by
  have HIN := h.rows.inn (ok := fun _ => True) (fun _ _ => trivial)
  have hb := h.blk
  rw [hg] at hb
  obtain ⟨w1, hw1⟩ : ∃ w1, w.alloc (.cells #[.int .i64 0, .slice none 0 0, .slice none 0 0, .slice none 0 0, .slice none 0 0, .bool false, .int .i64 0, .int .u32 0] 49) = w1 := ⟨_, rfl⟩
  have b1 : Below w.heap.size w w1 := by rw [← hw1]; exact (Below.refl _ _).alloc (Nat.le_refl _) _
  have N1 : Blk w1 w.heap.size 49 [.int .i64 0, .slice none 0 0, .slice none 0 0, .slice none 0 0, .slice none 0 0, .bool false, .int .i64 0, .int .u32 0] := by rw [← hw1]; exact Blk.new _ _ _
  have h1 : Blk w1 g 85 t.cells := by rw [← hw1]; exact hb.alloc _
  have CE := Lib.hid (cend_any w1 g t (by rw [hg]; exact h1) hg page)
  obtain ⟨⟨eh, ed, ei⟩, he⟩ : ∃ e, t.c.behind page = e := ⟨_, rfl⟩
  rw [he] at CE
  have HE := Lib.hid he
  have HH := Lib.hid (And.intro h1 N1)
  have B1 := Lib.hid b1
  have HI := Lib.hid HIN
  clear h hg hb b1 N1 h1 he HIN
  go_enter Try.func32, Try.ntmps32
  go_wp2_with (first | (rw [hw1]) | fail)
  try rw [hw1]
  refine CE.out.mono ?_
  rintro e w2 ⟨rfl, hb2⟩
  unfold EndV.agg
  obtain ⟨w3, hw3⟩ : ∃ w3, w2.alloc (.cells #[.bool eh, .int .i64 ed, .int .u32 ei] 83) = w3 := ⟨_, rfl⟩
  have B2 := Lib.hid hb2
  clear hb2 CE
  go_upto_region 2 with fail
  try rw [hw3]
  go_wp2_with (fail)
  obtain ⟨⟨⟨va, vn, vc⟩, ⟨a0, n0, c0⟩, ⟨a1, n1, c1⟩, ⟨a2, n2, c2⟩, ⟨vec, all, any, none⟩⟩, hl⟩ : ∃ l, t.l = l := ⟨_, rfl⟩
  obtain ⟨pn, hpn⟩ : ∃ pn, t.c.pin = pn := ⟨_, rfl⟩
  have B3 := Lib.hid (show Below w2.heap.size w2 w3 from by rw [← hw3]; exact (Below.refl _ _).alloc (Nat.le_refl _) _)
  have B13 := Lib.hid (below_on B2.out B3.out)
  have HS := Lib.hid (fun (W : World) (hb : Below w3.heap.size w3 W) => show W.cell? ⟨g, 1, Option.none⟩ = some (.int .i64 pn) ∧ W.cell? ⟨g, 2, Option.none⟩ = some (.slice va vn vc) ∧ W.cell? ⟨g, 3, Option.none⟩ = some (.slice a0 n0 c0) ∧ W.cell? ⟨g, 4, Option.none⟩ = some (.slice a1 n1 c1) ∧ W.cell? ⟨g, 5, Option.none⟩ = some (.slice a2 n2 c2) ∧ W.cell? ⟨w2.heap.size, 0, Option.none⟩ = some (.bool eh) ∧ W.cell? ⟨w2.heap.size, 1, Option.none⟩ = some (.int .i64 ed) ∧ W.cell? ⟨w2.heap.size, 2, Option.none⟩ = some (.int .u32 ei) ∧ W.cell? ⟨w.heap.size, 0, Option.none⟩ = some (.int .i64 0) ∧ W.cell? ⟨w.heap.size, 1, Option.none⟩ = some (.slice Option.none 0 0) ∧ W.cell? ⟨w.heap.size, 2, Option.none⟩ = some (.slice Option.none 0 0) ∧ W.cell? ⟨w.heap.size, 3, Option.none⟩ = some (.slice Option.none 0 0) ∧ W.cell? ⟨w.heap.size, 4, Option.none⟩ = some (.slice Option.none 0 0) ∧ W.cell? ⟨w.heap.size, 5, Option.none⟩ = some (.bool false) ∧ W.cell? ⟨w.heap.size, 6, Option.none⟩ = some (.int .i64 0) ∧ W.cell? ⟨w.heap.size, 7, Option.none⟩ = some (.int .u32 0) ∧ W.frozen? ⟨w.heap.size, 0, Option.none⟩ = false ∧ W.frozen? ⟨w.heap.size, 1, Option.none⟩ = false ∧ W.frozen? ⟨w.heap.size, 2, Option.none⟩ = false ∧ W.frozen? ⟨w.heap.size, 3, Option.none⟩ = false ∧ W.frozen? ⟨w.heap.size, 4, Option.none⟩ = false ∧ W.frozen? ⟨w.heap.size, 5, Option.none⟩ = false ∧ W.frozen? ⟨w.heap.size, 6, Option.none⟩ = false ∧ W.frozen? ⟨w.heap.size, 7, Option.none⟩ = false from
    have k1 := below_on B13.out hb
    have e0 := (Kept.of_below (F := []) k1 (Nat.le_refl _)).blk HH.out.1 (by simp)
    have e1 := (Kept.of_below (F := []) k1 (Nat.le_refl _)).blk HH.out.2 (by simp)
    have e2 := (Kept.of_below (F := []) hb (Nat.le_refl _)).blk (show Blk w3 w2.heap.size 83 [.bool eh, .int .i64 ed, .int .u32 ei] from by rw [← hw3]; exact Blk.new _ _ _) (by simp)
    have q2 : W.cell? ⟨g, 2, Option.none⟩ = some (.slice va vn vc) := by have := e0.cell 2; simp [CurL.cells, QryL.v, hl] at this; exact this
    have q3 : W.cell? ⟨g, 3, Option.none⟩ = some (.slice a0 n0 c0) := by have := e0.cell 3; simp [CurL.cells, QryL.f0, hl] at this; exact this
    have q4 : W.cell? ⟨g, 4, Option.none⟩ = some (.slice a1 n1 c1) := by have := e0.cell 4; simp [CurL.cells, QryL.f1, hl] at this; exact this
    have q5 : W.cell? ⟨g, 5, Option.none⟩ = some (.slice a2 n2 c2) := by have := e0.cell 5; simp [CurL.cells, QryL.f2, hl] at this; exact this
    have q1 : W.cell? ⟨g, 1, Option.none⟩ = some (.int .i64 pn) := by rw [← hpn]; exact e0.cell 1
    ⟨q1, q2, q3, q4, q5, e2.cell 0, e2.cell 1, e2.cell 2, e1.cell 0, e1.cell 1, e1.cell 2, e1.cell 3, e1.cell 4, e1.cell 5, e1.cell 6, e1.cell 7, e1.frozen 0, e1.frozen 1, e1.frozen 2, e1.frozen 3, e1.frozen 4, e1.frozen 5, e1.frozen 6, e1.frozen 7⟩)
  rw [hl] at HI
  have HV := Lib.hid (rd_vec_wf HI.out.vec)
  have HLL := Lib.hid (show t.l.q = ⟨vec, all, any, none⟩ from by rw [hl])
  have HBB := Lib.hid (B1.out.trans (B13.out.mono B1.out.size))
  have HN3 := Lib.hid (show Blk w3 w.heap.size 49 [.int .i64 0, .slice Option.none 0 0, .slice Option.none 0 0, .slice Option.none 0 0, .slice Option.none 0 0, .bool false, .int .i64 0, .int .u32 0] from (Kept.of_below (F := []) B13.out (Nat.le_refl _)).blk HH.out.2 (by simp))
  have HPN := Lib.hid hpn
  have FIN := Lib.hid (fun (wk : World) (hk : Below w3.heap.size w3 wk) (qv q0 q1 q2 : Option Addr × Nat × Nat) (ov : wk.ownsRow w3.heap.size 21 1 (.slice qv.1 qv.2.1 qv.2.2) vec.length (vec.map (Value.int .i32))) (o0 : StrsOwn w3.heap.size wk q0 all) (o1 : StrsOwn w3.heap.size wk q1 any) (o2 : StrsOwn w3.heap.size wk q2 none) (wz : World) (hz : wz = ((((((((wk.setCell ⟨w.heap.size, 0, Option.none⟩ (.int .i64 pn)).setCell ⟨w.heap.size, 1, Option.none⟩ (.slice qv.1 qv.2.1 qv.2.2)).setCell ⟨w.heap.size, 2, Option.none⟩ (.slice q0.1 q0.2.1 q0.2.2)).setCell ⟨w.heap.size, 3, Option.none⟩ (.slice q1.1 q1.2.1 q1.2.2)).setCell ⟨w.heap.size, 4, Option.none⟩ (.slice q2.1 q2.2.1 q2.2.2)).setCell ⟨w.heap.size, 5, Option.none⟩ (.bool eh)).setCell ⟨w.heap.size, 6, Option.none⟩ (.int .i64 ed)).setCell ⟨w.heap.size, 7, Option.none⟩ (.int .u32 ei))) =>
    show Blk wz w.heap.size 49 [.int .i64 pn, .slice qv.1 qv.2.1 qv.2.2, .slice q0.1 q0.2.1 q0.2.2, .slice q1.1 q1.2.1 q1.2.2, .slice q2.1 q2.2.1 q2.2.2, .bool eh, .int .i64 ed, .int .u32 ei] ∧ Below w.heap.size w wz ∧ QryL.Own w.heap.size wz ⟨qv, q0, q1, q2, ⟨vec, all, any, none⟩⟩ from by
    have e1 := (Kept.of_below (F := []) hk (Nat.le_refl _)).blk HN3.out (by simp)
    have hs3 := HBB.out.size
    have hsk := hk.size
    have k9 : Kept [w.heap.size] wk wz := by
      rw [hz]
      exact ((((((((Kept.refl [w.heap.size] wk).setCell _ _ (.inl (by simp))).setCell _ _ (.inl (by simp))).setCell _ _ (.inl (by simp))).setCell _ _ (.inl (by simp))).setCell _ _ (.inl (by simp))).setCell _ _ (.inl (by simp))).setCell _ _ (.inl (by simp))).setCell _ _ (.inl (by simp))
    have h3 : Blk wz w.heap.size 49 [.int .i64 pn, .slice qv.1 qv.2.1 qv.2.2, .slice q0.1 q0.2.1 q0.2.2, .slice q1.1 q1.2.1 q1.2.2, .slice q2.1 q2.2.1 q2.2.2, .bool eh, .int .i64 ed, .int .u32 ei] := by
      rw [hz]
      exact (((((((e1.set 0 (.int .i64 pn)).set 1 (.slice qv.1 qv.2.1 qv.2.2)).set 2 (.slice q0.1 q0.2.1 q0.2.2)).set 3 (.slice q1.1 q1.2.1 q1.2.2)).set 4 (.slice q2.1 q2.2.1 q2.2.2)).set 5 (.bool eh)).set 6 (.int .i64 ed)).set 7 (.int .u32 ei)
    have hbk : Below w.heap.size w wk := HBB.out.trans (hk.mono hs3)
    have hrow : ∀ {v : Value} {cs : List Value} {ty : TypeId} {n : Nat}, wk.ownsRow w3.heap.size ty 1 v n cs → wz.ownsRow w.heap.size ty 1 v n cs := fun ho => row_to (k9.own ho (fun gg hg hh => by
      have h1 := (World.ownsRow.lt ho gg hg).1
      have h2 := HN3.out.lt
      rw [List.mem_singleton] at hh
      omega)) hs3 (Below.refl _ _)
    exact ⟨h3, hbk.trans (k9.below (fun b hb => by rw [List.mem_singleton] at hb; omega) (by omega)), hrow ov, HV.out.1, HV.out.2, ⟨hrow o0.row, o0.wf, o0.len⟩, ⟨hrow o1.row, o1.wf, o1.len⟩, ⟨hrow o2.row, o2.wf, o2.len⟩⟩)
  obtain ⟨s1, s2, s3, s4, s5, s6, s7, s8, s9, s10, s11, s12, s13, s14, s15, s16, s17, s18, s19, s20, s21, s22, s23, s24⟩ := HS.out _ (Below.refl _ _)
  have hg3 : g < w3.heap.size := Nat.lt_of_lt_of_le (Nat.lt_of_lt_of_le HH.out.1.lt B2.out.size) B3.out.size
  have he3 : w2.heap.size < w3.heap.size := by rw [← hw3]; simp
  have RQ := Lib.hid (HI.out.on (B1.out.trans (B13.out.mono B1.out.size)))
  clear hw3 hl hpn
  refine AskR w3 g w2.heap.size pn va vn vc a0 n0 c0 a1 n1 c1 a2 n2 c2 eh ed ei vec all any none w.heap.size rfl (by kernel_rfl) (by kernel_rfl) ⟨_, rfl, rfl, rfl, rfl, by kernel_rfl⟩ ⟨_, rfl, rfl, rfl, rfl, by kernel_rfl⟩ ⟨_, rfl, rfl, rfl, rfl, by kernel_rfl⟩ ⟨_, rfl, rfl, rfl, rfl, by kernel_rfl⟩ ⟨_, rfl, rfl, rfl, rfl, by kernel_rfl⟩ ⟨_, rfl, rfl, rfl, rfl, by kernel_rfl⟩ ⟨_, rfl, rfl, rfl, rfl, by kernel_rfl⟩ ⟨_, rfl, rfl, rfl, rfl, by kernel_rfl⟩ ⟨_, rfl, rfl, rfl, rfl, by kernel_rfl⟩ ⟨_, rfl, rfl, rfl, rfl, by kernel_rfl⟩ ⟨_, rfl, rfl, rfl, rfl, by kernel_rfl⟩ ⟨_, rfl, rfl, rfl, rfl, by kernel_rfl⟩ ⟨_, rfl, rfl, rfl, rfl, by kernel_rfl⟩ ⟨_, rfl, rfl, rfl, rfl, by kernel_rfl⟩ ⟨_, rfl, rfl, rfl, rfl, by kernel_rfl⟩ ⟨_, rfl, rfl, rfl, rfl, by kernel_rfl⟩ ⟨_, rfl, rfl, rfl, rfl, by kernel_rfl⟩ ⟨_, rfl, rfl, rfl, rfl, by kernel_rfl⟩ ⟨_, rfl, rfl, rfl, rfl, by kernel_rfl⟩ ⟨_, rfl, rfl, rfl, rfl, by kernel_rfl⟩ rfl rfl rfl rfl s1 s2 s3 s4 s5 s6 s7 s8 hg3 he3 RQ.out.vec RQ.out HN3.out ?_
  intro a wk y hdf h4 hb hq hrows
  have R := Lib.hid (FIN.out wk hb y.pv y.p0 y.p1 y.p2 (by have := hrows.1; rw [hq] at this; exact this) (by have := hrows.2.1; rw [hq] at this; exact this) (by have := hrows.2.2.1; rw [hq] at this; exact this) (by have := hrows.2.2.2; rw [hq] at this; exact this) _ rfl)
  have HQ := Lib.hid hq
  clear FIN HS hb hq hrows RQ hg3 he3 s1 s2 s3 s4 s5 s6 s7 s8 s9 s10 s11 s12 s13 s14 s15 s16 s17 s18 s19 s20 s21 s22 s23 s24
  have h4' : a.tmps.getD 4 undef = .pointer (some ⟨w.heap.size, 0, Option.none⟩) := by
    rw [Array.getD_eq_getD_getElem?, h4]
    rfl
  clear h4
  go_wp2
  refine bodyPost_ret (results_cell_row rfl _ _ w.heap.size 49 #[.int .i64 pn, .slice y.pv.1 y.pv.2.1 y.pv.2.2, .slice y.p0.1 y.p0.2.1 y.p0.2.2, .slice y.p1.1 y.p1.2.1 y.p1.2.2, .slice y.p2.1 y.p2.2.1 y.p2.2.2, .bool eh, .int .i64 ed, .int .u32 ei] (0, 0) _ h4' R.out.1 Try.underlying49 rfl ask_info) hdf ?_
  exact (show AskPost t page w _ _ from ⟨⟨y.pv, y.p0, y.p1, y.p2, ⟨vec, all, any, none⟩⟩, HLL.out.symm, by rw [HE.out, HPN.out]; rfl, R.out.2⟩)
