/-
  FlatMore holds: the first hits of a greater k begin with those of a lesser one; one more item pushes at most one out; whatever comes in. Its two regions that draw their order first.
-/
import Derived.Test.YteaomjabanhblaaLz
namespace Go.Proofs.Yteaomjabanhblaa
open Go.ChangeShapes Go.WideShapes Go.ChangeAt Go.RowKit

theorem EachI.on2 {lo : Nat} {w w' : World} {css : List (List Value)} {xs : List shItem.T} (h : EachI lo w css xs) (hb : Below w.heap.size w w') : EachI lo w' css xs :=
  ⟨h.1, fun i x hx => by
    obtain ⟨cs, h1, h2⟩ := h.2 i x hx
    exact ⟨cs, h1, h2.on hb⟩⟩
theorem o_ldit (b id : Nat) (va ta : Option Addr) (vn vc tn tc : Nat) (w : World) (h0 : w.cell? ⟨b, 0, none⟩ = some (.int .u32 (id : Int))) (h1 : w.cell? ⟨b, 1, none⟩ = some (.slice va vn vc)) (h2 : w.cell? ⟨b, 2, none⟩ = some (.slice ta tn tc)) : (Instr.loadAt 44 (.pointer (some ⟨b, 0, none⟩))).run Try.prog w = .ok (.agg #[.int .u32 (id : Int), .slice va vn vc, .slice ta tn tc]) w := by go_simp
theorem rd_nilS (w : World) : Rd (fun _ => True) w shTags [.slice none 0 0] [] := Rd.slice_mk (e := .str) ⟨none, 0, 0, rfl, rfl, by decide, by decide, by decide, fun _ => ⟨rfl, rfl⟩, .inl rfl⟩
theorem o_bsit (w : World) : (Instr.buildSlice 22 0 #[]).run Try.prog w = .ok (.slice (some ⟨w.heap.size, 0, none⟩) 0 0) (w.alloc (.cells #[] 44)) := by go_simp
theorem o_bfl (w : World) : (Instr.build 26 #[]).run Try.prog w = .ok (.agg flt0.cells) w := by
  show _ = Result.ok (Value.agg #[.slice none 0 0, .slice none 0 0, .slice none 0 0]) w
  go_simp
theorem o_gt255 (k : Int) (w : World) : (binOp .gtr 3 (.int .i64 k) (.int .i64 255)).run Try.prog w = .ok (.bool (decide (255 < k))) w := by go_simp
theorem o_lt1 (k : Int) (w : World) : (binOp .lss 3 (.int .i64 k) (.int .i64 1)).run Try.prog w = .ok (.bool (decide (k < 1))) w := by go_simp
theorem updN_same (L : Nat → Bool) (i j : Nat) (h : L j = true) : updN L i j = true := by
  unfold updN
  split
  · rfl
  · exact h
theorem updN_off {L : Nat → Bool} {i j : Nat} (h : updN L i j = false) : L j = false := by
  unfold updN at h
  split at h
  · cases h
  · exact h
theorem updN_self (L : Nat → Bool) (i : Nat) : updN L i i = true := by
  unfold updN
  rw [if_pos rfl]

def dsM (i : Nat) : Nat := 19 + i
def factsM (w0 : World) (a : Option Addr) (n c : Nat) (xs : List shItem.T) (id : Nat) (vec : List Int) (tags : List ByteArray) (va : Option Addr) (vn vc : Nat) (ta : Option Addr) (tn tc : Nat) (k : Int) (L : Nat → Bool) (j : Nat) (E : Nat → Value) (w : World) : Prop :=
  match j with
  | 0 => ∃ g, E 0 = .slice (some ⟨g, 0, none⟩) 0 0 ∧ w0.heap.size ≤ g ∧ (L 2 = false → Blk w g 44 [])
  | 1 => E 1 = .slice a n c
  | 2 => L 5 = false → ∃ css, RowC w0.heap.size w 44 3 (E 2) css ∧ EachI w0.heap.size w css xs
  | 3 => E 3 = .agg #[.int .u32 (id : Int), .slice va vn vc, .slice ta tn tc]
  | 4 => ∃ g, E 4 = .slice (some ⟨g, 0, none⟩) 1 1 ∧ w0.heap.size ≤ g ∧ (L 5 = false → Blk w g 44 [.int .u32 (id : Int), .slice va vn vc, .slice ta tn tc])
  | 5 => ∃ css, RowC w0.heap.size w 44 3 (E 5) css ∧ EachI w0.heap.size w css (xs ++ [mkI id vec tags])
  | 6 => E 6 = .agg flt0.cells
  | 7 => ∃ g, E 7 = .bool g ∧ (g = false → n + 1 ≤ 300)
  | 8 => ∃ g, E 8 = .bool g ∧ (g = false → n + 1 ≤ 300)
  | 9 => L 8 = true ∧ (E 8 = .bool false → E 9 = .int .i64 k)
  | 10 => L 8 = true ∧ (E 8 = .bool false → E 10 = .bool (decide (k < 1)))
  | 11 => ∃ g, E 11 = .bool g ∧ (g = false → n + 1 ≤ 300 ∧ 1 ≤ k)
  | 12 => ∃ g, E 12 = .bool g ∧ (g = false → n + 1 ≤ 300 ∧ 1 ≤ k)
  | 13 => L 12 = true ∧ (E 12 = .bool false → E 13 = .int .i64 k)
  | 14 => L 12 = true ∧ (E 12 = .bool false → E 14 = .bool (decide (255 < k)))
  | 15 => ∃ g, E 15 = .bool g ∧ (g = false → n + 1 ≤ 300 ∧ 1 ≤ k ∧ k ≤ 255)
  | _ => True
section
variable (w0 : World) (a : Option Addr) (n c : Nat) (xs : List shItem.T) (id : Nat) (vec : List Int) (tags : List ByteArray) (va : Option Addr) (vn vc : Nat) (ta : Option Addr) (tn tc : Nat) (k : Int)
theorem factsM_on (L : Nat → Bool) (i' j : Nat) (E E' : Nat → Value) (w w' : World) (h : factsM w0 a n c xs id vec tags va vn vc ta tn tc k L j E w) (hj : L j = true) (hE : ∀ p, L p = true → E' p = E p) (hb : Below w.heap.size w w') : factsM w0 a n c xs id vec tags va vn vc ta tn tc k (updN L i') j E' w' := by
  match j, h, hj with
  | 0, h, hj => obtain ⟨g, e, h1, h2⟩ := h; exact ⟨g, (hE 0 hj).trans e, h1, fun hk => (h2 (updN_off hk)).of_eq (hb.block _ (h2 (updN_off hk)).lt)⟩
  | 1, h, hj => exact (hE 1 hj).trans h
  | 2, h, hj => exact fun hk => by obtain ⟨css, h1, h2⟩ := h (updN_off hk); rw [hE 2 hj]; exact ⟨css, h1.on hb, h2.on2 hb⟩
  | 3, h, hj => exact (hE 3 hj).trans h
  | 4, h, hj => obtain ⟨g, e, h1, h2⟩ := h; exact ⟨g, (hE 4 hj).trans e, h1, fun hk => (h2 (updN_off hk)).of_eq (hb.block _ (h2 (updN_off hk)).lt)⟩
  | 5, h, hj => obtain ⟨css, h1, h2⟩ := h; exact ⟨css, (hE 5 hj).symm ▸ h1.on hb, h2.on2 hb⟩
  | 6, h, hj => exact (hE 6 hj).trans h
  | 7, h, hj => obtain ⟨g, e, h⟩ := h; exact ⟨g, (hE 7 hj).trans e, h⟩
  | 8, h, hj => obtain ⟨g, e, h⟩ := h; exact ⟨g, (hE 8 hj).trans e, h⟩
  | 9, h, hj => exact ⟨updN_same _ _ _ h.1, fun he => (hE 9 hj).trans (h.2 ((hE 8 h.1).symm.trans he))⟩
  | 10, h, hj => exact ⟨updN_same _ _ _ h.1, fun he => (hE 10 hj).trans (h.2 ((hE 8 h.1).symm.trans he))⟩
  | 11, h, hj => obtain ⟨g, e, h⟩ := h; exact ⟨g, (hE 11 hj).trans e, h⟩
  | 12, h, hj => obtain ⟨g, e, h⟩ := h; exact ⟨g, (hE 12 hj).trans e, h⟩
  | 13, h, hj => exact ⟨updN_same _ _ _ h.1, fun he => (hE 13 hj).trans (h.2 ((hE 12 h.1).symm.trans he))⟩
  | 14, h, hj => exact ⟨updN_same _ _ _ h.1, fun he => (hE 14 hj).trans (h.2 ((hE 12 h.1).symm.trans he))⟩
  | 15, h, hj => obtain ⟨g, e, h⟩ := h; exact ⟨g, (hE 15 hj).trans e, h⟩
  | _ + 16, _, _ => exact trivial

set_option maxHeartbeats 6400000 in
theorem few_region10 {rid : Nat} {ops : Array Oper} {Q : Exit → Act → World → Prop} {T0 : Array Value} (bx : Nat)
    (hsize : ops.size = 16) (hb : edgesB ops = true)
    (op0 : OpGu ops 0 (.buildSlice 22 0 #[]) (some 19) none [])
    (op1 : OpGu ops 1 (.move (.tmp 1)) (some 20) none [])
    (op2 : OpGu ops 2 (.call { callee := .builtin .append, args := #[.tmp 19, .tmp 20], argTypes := #[22, 22] }) (some 21) none [0, 1])
    (op3 : OpGu ops 3 (.load 44 (.tmp 8)) (some 22) none [])
    (op4 : OpGu ops 4 (.buildSlice 22 1 #[(0, .tmp 22)]) (some 23) none [3])
    (op5 : OpGu ops 5 (.call { callee := .builtin .append, args := #[.tmp 21, .tmp 23], argTypes := #[22, 22] }) (some 24) none [2, 4])
    (op6 : OpGu ops 6 (.build 26 #[]) (some 25) none [])
    (op7 : OpGu ops 7 (.call { callee := .value (.func 10), args := #[.tmp 24, .tmp 25], argTypes := #[22, 26] }) (some 26) none [5, 6])
    (op8 : OpGu ops 8 (.move (.tmp 26)) (some 27) none [7])
    (op9 : OpGu ops 9 (.move (.tmp 4)) (some 28) (some (8, false)) [8])
    (op10 : OpGu ops 10 (.binOp .lss 3 (.tmp 28) (.const (.int .i64 1)) 3) (some 29) (some (8, false)) [9, 8])
    (op11 : OpGu ops 11 (.pick (.tmp 27) (.const (.bool true)) (.tmp 29)) (some 30) none [8, 10])
    (op12 : OpGu ops 12 (.move (.tmp 30)) (some 31) none [11])
    (op13 : OpGu ops 13 (.move (.tmp 4)) (some 32) (some (12, false)) [12])
    (op14 : OpGu ops 14 (.binOp .gtr 3 (.tmp 32) (.const (.int .i64 255)) 3) (some 33) (some (12, false)) [13, 12])
    (op15 : OpGu ops 15 (.pick (.tmp 31) (.const (.bool true)) (.tmp 33)) (some 34) none [12, 14])
    (hT : T0.size = 108) (t1 : T0[1]? = some (.slice a n c)) (t8 : T0[8]? = some (.pointer (some ⟨bx, 0, none⟩))) (t4 : T0[4]? = some (.int .i64 k))
    (hr1 : Rd (· < w0.heap.size) w0 shItems [.slice a n c] xs) (hx : Blk w0 bx 44 [.int .u32 (id : Int), .slice va vn vc, .slice ta tn tc]) (hxi : Rd (· < w0.heap.size) w0 shItem [.int .u32 (id : Int), .slice va vn vc, .slice ta tn tc] (mkI id vec tags))
    (hQ : ∀ E w' g, E 15 = .bool g → (g = false → n + 1 ≤ 300 ∧ 1 ≤ k ∧ k ≤ 255) → Below w0.heap.size w0 w' → Q .normal ⟨filledR T0 dsM E 16, []⟩ w') :
    (Code.region rid ops true).wp Try.prog Q ⟨T0, []⟩ w0 := by
  obtain ⟨_, _, _, hcs, hxl, hms, hns, _, _, _⟩ := Rd.slice_part (e := shItem) hr1
  simp only [List.cons.injEq, Value.slice.injEq, and_true] at hcs
  obtain ⟨rfl, rfl, rfl⟩ := hcs
  obtain ⟨css, he, hf1, hf2, hf3, hf4, hf5⟩ := rd_cells hr1
  have hxlt := hx.lt
  have hinj : ∀ p q, p < ops.size → q < ops.size → dsM p = dsM q → p = q := by
    intro p q hp hq
    unfold dsM
    omega
  have hds : ∀ p, p < ops.size → dsM p < T0.size := by
    intro p hp
    unfold dsM
    omega
  refine wp_growE w0 dsM (factsM w0 a n c xs id vec tags va vn vc ta tn tc k) (by kernel_rfl) hb (factsM_on w0 a n c xs id vec tags va vn vc ta tn tc k) hinj hds ?_ ?_
  · intro l a w j o hI ho hl hd K hK
    have far : ∀ k, k < 10 → ∀ p, p < ops.size → l.getD p false = true → dsM p ≠ k := by
      intro k hk p hp hlp
      unfold dsM
      omega
    have e1 : a.eval (.tmp 1) = _ := hI.ev 1 _ t1 (far 1 (by decide))
    have e4 : a.eval (.tmp 4) = _ := hI.ev 4 _ t4 (far 4 (by decide))
    have e8 : a.eval (.tmp 8) = _ := hI.ev 8 _ t8 (far 8 (by decide))
    have hw0 := hI.below.size
    have hxw := hx.of_eq (hI.below.block _ hx.lt)
    have hji : j < 16 := by rw [← hsize]; exact (Array.getElem?_eq_some_iff.1 ho).1
    have hcase : j = 0 ∨ j = 1 ∨ j = 2 ∨ j = 3 ∨ j = 4 ∨ j = 5 ∨ j = 6 ∨ j = 7 ∨ j = 8 ∨ j = 9 ∨ j = 10 ∨ j = 11 ∨ j = 12 ∨ j = 13 ∨ j = 14 ∨ j = 15 := by omega
    rcases hcase with rfl | rfl | rfl | rfl | rfl | rfl | rfl | rfl | rfl | rfl | rfl | rfl | rfl | rfl | rfl | rfl
    · obtain ⟨hop, hdst, hgd, hL⟩ := op0.useG ho
      refine g_if hgd (g_bs0 hop (o_bsit w) ?_)
      rw [hdst]
      exact hK _ _ ⟨fun E' e _ => ⟨w.heap.size, e, hw0, fun _ => Blk.new w _ _⟩, .inl ((Below.refl _ w).alloc (Nat.le_refl _) _)⟩
    · obtain ⟨hop, hdst, hgd, hL⟩ := op1.useG ho
      refine g_if hgd (g_move hop ?_)
      rw [hdst]
      exact hK _ _ ⟨fun E' e _ => e.trans e1, (.inl (Below.refl _ _))⟩
    · obtain ⟨hop, hdst, hgd, hL⟩ := op2.useG ho
      obtain ⟨g0, f0, hg0, hblk⟩ := (hI.fact 0 (hd 0 (hL 0 (by simp))))
      have hbl := hblk hl
      have hrow : w.ownsRow w0.heap.size 44 3 (.slice (some ⟨g0, 0, none⟩) 0 0) 0 [] := ⟨by simp, .inr ⟨_, 0, #[], rfl, hg0, hbl, by simp, by simp, by simp, by simp⟩⟩
      refine g_if hgd (g_app0 (.tmp 19) (.tmp 20) 22 44 hop Try.underlying22 (.agg #[.int .u32 0, .slice none 0 0, .slice none 0 0]) 3 56 item_info10 rfl (by decide) w0.heap.size f0 hrow _ _ _ css.flatten (hI.fact 1 (hd 1 (hL 1 (by simp)))) hf1 hf4 (hf5.imp_right fun ⟨b, off, e1, e2, e3⟩ => ⟨b, off, e1, fun i hi => (hI.below.cell (p := ⟨b, off + i, none⟩) e2).trans (e3 i hi)⟩) hf3 (by omega) (by omega) hw0 ?_)
      intro v' w' g1 g2
      rw [hdst]
      have hkk : Kept [g0] w w' := (Kept.refl _ _).grown g2 (fun k hk => .inl (by simpa [Value.ownBlock, eq_comm] using hk))
      have hbel : Below w0.heap.size w w' := hkk.below (fun x hx => by rw [List.mem_singleton.1 hx]; exact hg0) hw0
      have he' : EachI w0.heap.size w' css xs := (he.on hI.below).on hbel
      have hrc : RowC w0.heap.size w' 44 3 v' css := ⟨hf2, by rw [he.1, hxl]; exact g1⟩
      refine hK _ _ ⟨fun E' e _ _ => ⟨css, by rw [e]; exact hrc, he'⟩, .inr ⟨hbel, fun p hp hf E' hE => ?_⟩⟩
      have hno : ∀ p' o', ops[p']? = some o' → waits o' 2 = true → Lof l p' = true → False := fun p' o' ho' hw' hp' => by
        have := hI.closed p' o' ho' hp' 2 hw'
        rw [hl] at this
        cases this
      have n5 : Lof l 5 = true → False := fun h => hno 5 _ op5.choose_spec.1 ((op5.useG op5.choose_spec.1).2.2.2 2 (by simp)) h
      have n7 : Lof l 7 = true → False := fun h => n5 (hI.closed 7 _ op7.choose_spec.1 h 5 ((op7.useG op7.choose_spec.1).2.2.2 5 (by simp)))
      have n8 : Lof l 8 = true → False := fun h => n7 (hI.closed 8 _ op8.choose_spec.1 h 7 ((op8.useG op8.choose_spec.1).2.2.2 7 (by simp)))
      have n9 : Lof l 9 = true → False := fun h => n8 (hI.closed 9 _ op9.choose_spec.1 h 8 ((op9.useG op9.choose_spec.1).2.2.2 8 (by simp)))
      have n10 : Lof l 10 = true → False := fun h => n9 (hI.closed 10 _ op10.choose_spec.1 h 9 ((op10.useG op10.choose_spec.1).2.2.2 9 (by simp)))
      have n11 : Lof l 11 = true → False := fun h => n8 (hI.closed 11 _ op11.choose_spec.1 h 8 ((op11.useG op11.choose_spec.1).2.2.2 8 (by simp)))
      have n12 : Lof l 12 = true → False := fun h => n11 (hI.closed 12 _ op12.choose_spec.1 h 11 ((op12.useG op12.choose_spec.1).2.2.2 11 (by simp)))
      have n13 : Lof l 13 = true → False := fun h => n12 (hI.closed 13 _ op13.choose_spec.1 h 12 ((op13.useG op13.choose_spec.1).2.2.2 12 (by simp)))
      have n14 : Lof l 14 = true → False := fun h => n13 (hI.closed 14 _ op14.choose_spec.1 h 13 ((op14.useG op14.choose_spec.1).2.2.2 13 (by simp)))
      have n15 : Lof l 15 = true → False := fun h => n12 (hI.closed 15 _ op15.choose_spec.1 h 12 ((op15.useG op15.choose_spec.1).2.2.2 12 (by simp)))
      match p, hf, hp with
      | 0, hf, hp => obtain ⟨g, e, h1, h2⟩ := hf; exact ⟨g, (hE 0 hp).trans e, h1, fun hk => by first | (rw [updN_self] at hk; cases hk) | (rw [updN_same _ _ _ hA] at hk; cases hk)⟩
      | 1, hf, hp => exact (hE 1 hp).trans hf
      | 2, _, hp => exact absurd hp (by unfold Lof; rw [hl]; simp)
      | 3, hf, hp => exact (hE 3 hp).trans hf
      | 4, hf, hp =>
        obtain ⟨g, e, h1, h2⟩ := hf
        exact ⟨g, (hE 4 hp).trans e, h1, fun hk => (h2 (updN_off hk)).of_eq (hkk.block _ (h2 (updN_off hk)).lt (fun hm => by
          have hgg : g = g0 := by simpa using hm
          subst hgg
          have := (h2 (updN_off hk)).symm.trans hbl
          simp at this))⟩
      | 5, _, hp => exact (n5 hp).elim
      | 6, hf, hp => exact (hE 6 hp).trans hf
      | 7, _, hp => exact (n7 hp).elim
      | 8, _, hp => exact (n8 hp).elim
      | 9, _, hp => exact (n9 hp).elim
      | 10, _, hp => exact (n10 hp).elim
      | 11, _, hp => exact (n11 hp).elim
      | 12, _, hp => exact (n12 hp).elim
      | 13, _, hp => exact (n13 hp).elim
      | 14, _, hp => exact (n14 hp).elim
      | 15, _, hp => exact (n15 hp).elim
      | _ + 16, _, _ => exact trivial
    · obtain ⟨hop, hdst, hgd, hL⟩ := op3.useG ho
      refine g_if hgd (g_load hop e8 (o_ldit bx id va ta vn vc tn tc w (hxw.cell 0) (hxw.cell 1) (hxw.cell 2)) ?_)
      rw [hdst]
      exact hK _ _ ⟨fun E' e _ => e, (.inl (Below.refl _ _))⟩
    · obtain ⟨hop, hdst, hgd, hL⟩ := op4.useG ho
      refine g_if hgd (g_bs1 hop (hI.fact 3 (hd 3 (hL 3 (by simp)))) (o_bs1 id va ta vn vc tn tc w) ?_)
      rw [hdst]
      exact hK _ _ ⟨fun E' e _ => ⟨w.heap.size, e, hw0, fun _ => Blk.new w _ _⟩, .inl ((Below.refl _ w).alloc (Nat.le_refl _) _)⟩
    · obtain ⟨hop, hdst, hgd, hL⟩ := op5.useG ho
      have hprev := (hI.fact 2 (hd 2 (hL 2 (by simp)))) hl
      obtain ⟨css1, hrow, he1⟩ := hprev
      obtain ⟨g0, f0, hg0, hblk⟩ := (hI.fact 4 (hd 4 (hL 4 (by simp))))
      have hbl := hblk hl
      have hc1 : css1.length = n := by rw [he1.1, hxl]
      refine g_if hgd (g_appC (.tmp 21) (.tmp 23) 22 hop Try.underlying22 (.agg #[.int .u32 0, .slice none 0 0, .slice none 0 0]) 56 item_info10 rfl (by decide) [.int .u32 (id : Int), .slice va vn vc, .slice ta tn tc] g0 rfl f0 hbl hrow rfl (by simp [Value.oneCell']) hw0 (by omega) (by omega) ?_)
      intro v' w' g1 hkk
      rw [hdst]
      have hbel : Below w0.heap.size w w' := hkk.below (fun x hx => (hrow.lt x (mem_ownB.1 hx)).1) hw0
      have he' : EachI w0.heap.size w' (css1 ++ [[.int .u32 (id : Int), .slice va vn vc, .slice ta tn tc]]) (xs ++ [mkI id vec tags]) := (he1.on hbel).snoc ((hxi.under hI.below).under hbel)
      refine hK _ _ ⟨fun E' e _ => ⟨_, by rw [e]; exact g1, he'⟩, .inr ⟨hbel, fun p hp hf E' hE => ?_⟩⟩
      have hno : ∀ p' o', ops[p']? = some o' → waits o' 5 = true → Lof l p' = true → False := fun p' o' ho' hw' hp' => by
        have := hI.closed p' o' ho' hp' 5 hw'
        rw [hl] at this
        cases this
      have hA : Lof l 2 = true := hd 2 (hL 2 (by simp))
      have hB0 : Lof l 0 = true := hI.closed 2 _ op2.choose_spec.1 hA 0 ((op2.useG op2.choose_spec.1).2.2.2 0 (by simp))
      have n7 : Lof l 7 = true → False := fun h => hno 7 _ op7.choose_spec.1 ((op7.useG op7.choose_spec.1).2.2.2 5 (by simp)) h
      have n8 : Lof l 8 = true → False := fun h => n7 (hI.closed 8 _ op8.choose_spec.1 h 7 ((op8.useG op8.choose_spec.1).2.2.2 7 (by simp)))
      have n9 : Lof l 9 = true → False := fun h => n8 (hI.closed 9 _ op9.choose_spec.1 h 8 ((op9.useG op9.choose_spec.1).2.2.2 8 (by simp)))
      have n10 : Lof l 10 = true → False := fun h => n9 (hI.closed 10 _ op10.choose_spec.1 h 9 ((op10.useG op10.choose_spec.1).2.2.2 9 (by simp)))
      have n11 : Lof l 11 = true → False := fun h => n8 (hI.closed 11 _ op11.choose_spec.1 h 8 ((op11.useG op11.choose_spec.1).2.2.2 8 (by simp)))
      have n12 : Lof l 12 = true → False := fun h => n11 (hI.closed 12 _ op12.choose_spec.1 h 11 ((op12.useG op12.choose_spec.1).2.2.2 11 (by simp)))
      have n13 : Lof l 13 = true → False := fun h => n12 (hI.closed 13 _ op13.choose_spec.1 h 12 ((op13.useG op13.choose_spec.1).2.2.2 12 (by simp)))
      have n14 : Lof l 14 = true → False := fun h => n13 (hI.closed 14 _ op14.choose_spec.1 h 13 ((op14.useG op14.choose_spec.1).2.2.2 13 (by simp)))
      have n15 : Lof l 15 = true → False := fun h => n12 (hI.closed 15 _ op15.choose_spec.1 h 12 ((op15.useG op15.choose_spec.1).2.2.2 12 (by simp)))
      match p, hf, hp with
      | 0, hf, hp => obtain ⟨g, e, h1, h2⟩ := hf; exact ⟨g, (hE 0 hp).trans e, h1, fun hk => by first | (rw [updN_self] at hk; cases hk) | (rw [updN_same _ _ _ hA] at hk; cases hk)⟩
      | 1, hf, hp => exact (hE 1 hp).trans hf
      | 2, hf, hp => exact fun hk => by rw [updN_self] at hk; cases hk
      | 3, hf, hp => exact (hE 3 hp).trans hf
      | 4, hf, hp => obtain ⟨g, e, h1, h2⟩ := hf; exact ⟨g, (hE 4 hp).trans e, h1, fun hk => by rw [updN_self] at hk; cases hk⟩
      | 5, _, hp => exact absurd hp (by unfold Lof; rw [hl]; simp)
      | 6, hf, hp => exact (hE 6 hp).trans hf
      | 7, _, hp => exact (n7 hp).elim
      | 8, _, hp => exact (n8 hp).elim
      | 9, _, hp => exact (n9 hp).elim
      | 10, _, hp => exact (n10 hp).elim
      | 11, _, hp => exact (n11 hp).elim
      | 12, _, hp => exact (n12 hp).elim
      | 13, _, hp => exact (n13 hp).elim
      | 14, _, hp => exact (n14 hp).elim
      | 15, _, hp => exact (n15 hp).elim
      | _ + 16, _, _ => exact trivial
    · obtain ⟨hop, hdst, hgd, hL⟩ := op6.useG ho
      refine g_if hgd (g_build0 hop (o_bfl w) ?_)
      rw [hdst]
      exact hK _ _ ⟨fun E' e _ => e, (.inl (Below.refl _ _))⟩
    · obtain ⟨hop, hdst, hgd, hL⟩ := op7.useG ho
      obtain ⟨css1, hrow, he1⟩ := (hI.fact 5 (hd 5 (hL 5 (by simp))))
      have hlx : (xs ++ [mkI id vec tags]).length = n + 1 := by rw [List.length_append, hxl]; rfl
      obtain ⟨a4, c4, f4, hr4⟩ := hrow.itemsN he1 (by omega)
      rw [hlx] at f4 hr4
      refine g_if hgd (g_call (fun _ _ => by go_simp) hop (us := #[.slice a4 (n + 1) c4, .agg flt0.cells]) (by rw [← f4, ← show Eof dsM a 6 = .agg flt0.cells from (hI.fact 6 (hd 6 (hL 6 (by simp))))]; simp only [List.map_toArray, List.map_cons, List.map_nil]; rfl) (rgreatN_any w _ a4 (n + 1) c4 _ flt0 hr4 ⟨(rd_nilS w), (rd_nilS w), (rd_nilS w)⟩) ?_)
      rintro e w' ⟨g, rfl, hg, hb'⟩
      refine ⟨_, rfl, ?_⟩
      rw [hdst]
      exact hK _ _ ⟨fun E' e _ => ⟨g, e, hg⟩, .inl hb'⟩
    · obtain ⟨hop, hdst, hgd, hL⟩ := op8.useG ho
      obtain ⟨g, f, hg⟩ := (hI.fact 7 (hd 7 (hL 7 (by simp))))
      refine g_if hgd (g_move hop ?_)
      rw [hdst]
      exact hK _ _ ⟨fun E' e _ => ⟨g, e.trans f, hg⟩, (.inl (Below.refl _ _))⟩
    · obtain ⟨hop, hdst, hgd, hL⟩ := op9.useG ho
      obtain ⟨og, hog, _, hdg, _⟩ := op8
      have hlg := hd 8 (hL 8 (by simp))
      obtain ⟨g, fg, hg⟩ := hI.fact 8 hlg
      refine g_gu hgd hog hdg fg (fun hgf => ?_) (fun hgf => ?_)
      · refine g_move hop ?_
        rw [hdst]
        exact hK _ _ ⟨fun E' e _ => ⟨updN_same _ _ _ hlg, fun _ => e.trans e4⟩, (.inl (Below.refl _ _))⟩
      · rw [hdst]
        refine hK _ _ ⟨fun E' e hE => ⟨updN_same _ _ _ hlg, fun he => ?_⟩, (.inl (Below.refl _ _))⟩
        have := (hE 8 hlg).symm.trans he
        rw [show Eof dsM a 8 = .bool g from fg] at this
        simp only [Value.bool.injEq] at this
        exact absurd this hgf
    · obtain ⟨hop, hdst, hgd, hL⟩ := op10.useG ho
      obtain ⟨og, hog, _, hdg, _⟩ := op8
      have hlg := hd 8 (hL 8 (by simp))
      obtain ⟨g, fg, hg⟩ := hI.fact 8 hlg
      refine g_gu hgd hog hdg fg (fun hgf => ?_) (fun hgf => ?_)
      · subst hgf
        refine g_bin hop ((hI.fact 9 (hd 9 (hL 9 (by simp)))).2 fg) rfl (by go_simp) (o_lt1 k w) ?_
        rw [hdst]
        exact hK _ _ ⟨fun E' e _ => ⟨updN_same _ _ _ hlg, fun _ => e⟩, (.inl (Below.refl _ _))⟩
      · rw [hdst]
        refine hK _ _ ⟨fun E' e hE => ⟨updN_same _ _ _ hlg, fun he => ?_⟩, (.inl (Below.refl _ _))⟩
        have := (hE 8 hlg).symm.trans he
        rw [show Eof dsM a 8 = .bool g from fg] at this
        simp only [Value.bool.injEq] at this
        exact absurd this hgf
    · obtain ⟨hop, hdst, hgd, hL⟩ := op11.useG ho
      have hlg := hd 8 (hL 8 (by simp))
      obtain ⟨g, fg, hg⟩ := hI.fact 8 hlg
      refine g_if hgd (g_pick hop fg ?_)
      rw [hdst]
      cases g with
      | true => exact hK _ _ ⟨fun E' e _ => ⟨true, e, by simp⟩, (.inl (Below.refl _ _))⟩
      | false =>
        have h2 := (hI.fact 10 (hd 10 (hL 10 (by simp)))).2 fg
        have h3 := hg rfl
        refine hK _ _ ⟨fun E' e _ => ⟨_, e.trans h2, fun hk => ?_⟩, (.inl (Below.refl _ _))⟩
        have := of_decide_eq_false hk
        exact ⟨h3, by omega⟩
    · obtain ⟨hop, hdst, hgd, hL⟩ := op12.useG ho
      obtain ⟨g, f, hg⟩ := (hI.fact 11 (hd 11 (hL 11 (by simp))))
      refine g_if hgd (g_move hop ?_)
      rw [hdst]
      exact hK _ _ ⟨fun E' e _ => ⟨g, e.trans f, hg⟩, (.inl (Below.refl _ _))⟩
    · obtain ⟨hop, hdst, hgd, hL⟩ := op13.useG ho
      obtain ⟨og, hog, _, hdg, _⟩ := op12
      have hlg := hd 12 (hL 12 (by simp))
      obtain ⟨g, fg, hg⟩ := hI.fact 12 hlg
      refine g_gu hgd hog hdg fg (fun hgf => ?_) (fun hgf => ?_)
      · refine g_move hop ?_
        rw [hdst]
        exact hK _ _ ⟨fun E' e _ => ⟨updN_same _ _ _ hlg, fun _ => e.trans e4⟩, (.inl (Below.refl _ _))⟩
      · rw [hdst]
        refine hK _ _ ⟨fun E' e hE => ⟨updN_same _ _ _ hlg, fun he => ?_⟩, (.inl (Below.refl _ _))⟩
        have := (hE 12 hlg).symm.trans he
        rw [show Eof dsM a 12 = .bool g from fg] at this
        simp only [Value.bool.injEq] at this
        exact absurd this hgf
    · obtain ⟨hop, hdst, hgd, hL⟩ := op14.useG ho
      obtain ⟨og, hog, _, hdg, _⟩ := op12
      have hlg := hd 12 (hL 12 (by simp))
      obtain ⟨g, fg, hg⟩ := hI.fact 12 hlg
      refine g_gu hgd hog hdg fg (fun hgf => ?_) (fun hgf => ?_)
      · subst hgf
        refine g_bin hop ((hI.fact 13 (hd 13 (hL 13 (by simp)))).2 fg) rfl (by go_simp) (o_gt255 k w) ?_
        rw [hdst]
        exact hK _ _ ⟨fun E' e _ => ⟨updN_same _ _ _ hlg, fun _ => e⟩, (.inl (Below.refl _ _))⟩
      · rw [hdst]
        refine hK _ _ ⟨fun E' e hE => ⟨updN_same _ _ _ hlg, fun he => ?_⟩, (.inl (Below.refl _ _))⟩
        have := (hE 12 hlg).symm.trans he
        rw [show Eof dsM a 12 = .bool g from fg] at this
        simp only [Value.bool.injEq] at this
        exact absurd this hgf
    · obtain ⟨hop, hdst, hgd, hL⟩ := op15.useG ho
      have hlg := hd 12 (hL 12 (by simp))
      obtain ⟨g, fg, hg⟩ := hI.fact 12 hlg
      refine g_if hgd (g_pick hop fg ?_)
      rw [hdst]
      cases g with
      | true => exact hK _ _ ⟨fun E' e _ => ⟨true, e, by simp⟩, (.inl (Below.refl _ _))⟩
      | false =>
        have h2 := (hI.fact 14 (hd 14 (hL 14 (by simp)))).2 fg
        have h3 := hg rfl
        refine hK _ _ ⟨fun E' e _ => ⟨_, e.trans h2, fun hk => ?_⟩, (.inl (Below.refl _ _))⟩
        have := of_decide_eq_false hk
        exact ⟨h3.1, h3.2, by omega⟩
  · rintro a w ha hbw ⟨L, hL, hf⟩
    obtain ⟨g, e, hg⟩ := hf 15 (by omega)
    rw [ha, hsize]
    exact hQ _ w g e (fun h => by have := hg h; omega) hbw
end

def dsW (i : Nat) : Nat := if i = 11 then 13 else 48 + i
def factsW (w0 : World) (a : Option Addr) (n c : Nat) (xs : List shItem.T) (id : Nat) (vec : List Int) (tags : List ByteArray) (va : Option Addr) (vn vc : Nat) (ta : Option Addr) (tn tc : Nat) (k : Int) (m : Nat) (qa : Option Addr) (qn qc : Nat) (q : List Int) (r : Nat) (L : Nat → Bool) (j : Nat) (E : Nat → Value) (w : World) : Prop :=
  match j with
  | 0 => E 0 = .int .u8 (m : Int)
  | 1 => ∃ g, E 1 = .slice (some ⟨g, 0, none⟩) 0 0 ∧ w0.heap.size ≤ g ∧ (L 3 = false → Blk w g 44 [])
  | 2 => E 2 = .slice a n c
  | 3 => L 6 = false → ∃ css, RowC w0.heap.size w 44 3 (E 3) css ∧ EachI w0.heap.size w css xs
  | 4 => E 4 = .agg #[.int .u32 (id : Int), .slice va vn vc, .slice ta tn tc]
  | 5 => ∃ g, E 5 = .slice (some ⟨g, 0, none⟩) 1 1 ∧ w0.heap.size ≤ g ∧ (L 6 = false → Blk w g 44 [.int .u32 (id : Int), .slice va vn vc, .slice ta tn tc])
  | 6 => ∃ css, RowC w0.heap.size w 44 3 (E 6) css ∧ EachI w0.heap.size w css (xs ++ [mkI id vec tags])
  | 7 => E 7 = .slice qa qn qc
  | 8 => E 8 = .agg flt0.cells
  | 9 => E 9 = .int .i64 k
  | 10 => ∃ a n c, E 10 = .slice a n c ∧ HReads w a n (keepL r (wantL m q flt0.f (xs ++ [mkI id vec tags])))
  | 11 => ∃ a n c, E 11 = .slice a n c ∧ HReads w a n (keepL r (wantL m q flt0.f (xs ++ [mkI id vec tags])))
  | _ => True
section
variable (w0 : World) (a : Option Addr) (n c : Nat) (xs : List shItem.T) (id : Nat) (vec : List Int) (tags : List ByteArray) (va : Option Addr) (vn vc : Nat) (ta : Option Addr) (tn tc : Nat) (k : Int) (m : Nat) (qa : Option Addr) (qn qc : Nat) (q : List Int) (r : Nat)
theorem factsW_on (L : Nat → Bool) (i' j : Nat) (E E' : Nat → Value) (w w' : World) (h : factsW w0 a n c xs id vec tags va vn vc ta tn tc k m qa qn qc q r L j E w) (hj : L j = true) (hE : ∀ p, L p = true → E' p = E p) (hb : Below w.heap.size w w') : factsW w0 a n c xs id vec tags va vn vc ta tn tc k m qa qn qc q r (updN L i') j E' w' := by
  match j, h, hj with
  | 0, h, hj => exact (hE 0 hj).trans h
  | 1, h, hj => obtain ⟨g, e, h1, h2⟩ := h; exact ⟨g, (hE 1 hj).trans e, h1, fun hk => (h2 (updN_off hk)).of_eq (hb.block _ (h2 (updN_off hk)).lt)⟩
  | 2, h, hj => exact (hE 2 hj).trans h
  | 3, h, hj => exact fun hk => by obtain ⟨css, h1, h2⟩ := h (updN_off hk); rw [hE 3 hj]; exact ⟨css, h1.on hb, h2.on2 hb⟩
  | 4, h, hj => exact (hE 4 hj).trans h
  | 5, h, hj => obtain ⟨g, e, h1, h2⟩ := h; exact ⟨g, (hE 5 hj).trans e, h1, fun hk => (h2 (updN_off hk)).of_eq (hb.block _ (h2 (updN_off hk)).lt)⟩
  | 6, h, hj => obtain ⟨css, h1, h2⟩ := h; exact ⟨css, (hE 6 hj).symm ▸ h1.on hb, h2.on2 hb⟩
  | 7, h, hj => exact (hE 7 hj).trans h
  | 8, h, hj => exact (hE 8 hj).trans h
  | 9, h, hj => exact (hE 9 hj).trans h
  | 10, h, hj => obtain ⟨a, n, c, e, h⟩ := h; exact ⟨a, n, c, (hE 10 hj).trans e, h.below (Nat.le_refl _) hb⟩
  | 11, h, hj => obtain ⟨a, n, c, e, h⟩ := h; exact ⟨a, n, c, (hE 11 hj).trans e, h.below (Nat.le_refl _) hb⟩
  | _ + 12, _, _ => exact trivial

set_option maxHeartbeats 6400000 in
theorem more_region10 {rid : Nat} {ops : Array Oper} {Q : Exit → Act → World → Prop} {T0 : Array Value} (bx : Nat)
    (hsize : ops.size = 12) (hb : edgesB ops = true)
    (op0 : OpGu ops 0 (.move (.tmp 0)) (some 48) none [])
    (op1 : OpGu ops 1 (.buildSlice 22 0 #[]) (some 49) none [])
    (op2 : OpGu ops 2 (.move (.tmp 1)) (some 50) none [])
    (op3 : OpGu ops 3 (.call { callee := .builtin .append, args := #[.tmp 49, .tmp 50], argTypes := #[22, 22] }) (some 51) none [1, 2])
    (op4 : OpGu ops 4 (.load 44 (.tmp 8)) (some 52) none [])
    (op5 : OpGu ops 5 (.buildSlice 22 1 #[(0, .tmp 52)]) (some 53) none [4])
    (op6 : OpGu ops 6 (.call { callee := .builtin .append, args := #[.tmp 51, .tmp 53], argTypes := #[22, 22] }) (some 54) none [3, 5])
    (op7 : OpGu ops 7 (.move (.tmp 2)) (some 55) none [])
    (op8 : OpGu ops 8 (.build 26 #[]) (some 56) none [])
    (op9 : OpGu ops 9 (.move (.tmp 4)) (some 57) none [])
    (op10 : OpGu ops 10 (.call { callee := .value (.func 13), args := #[.tmp 48, .tmp 54, .tmp 55, .tmp 56, .tmp 57], argTypes := #[35, 22, 23, 26, 3] }) (some 58) none [0, 6, 7, 8, 9])
    (op11 : OpGu ops 11 (.assign (.tmp 58)) (some 13) none [10])
    (hT : T0.size = 108) (t1 : T0[1]? = some (.slice a n c)) (t8 : T0[8]? = some (.pointer (some ⟨bx, 0, none⟩))) (t4 : T0[4]? = some (.int .i64 k)) (t0 : T0[0]? = some (.int .u8 (m : Int))) (t2 : T0[2]? = some (.slice qa qn qc)) (hm : m < 256) (hq : Reads .i32 w0 qa qn q) (hr : Hid ((r : Int) = min (max k 0) 256))
    (hr1 : Rd (· < w0.heap.size) w0 shItems [.slice a n c] xs) (hx : Blk w0 bx 44 [.int .u32 (id : Int), .slice va vn vc, .slice ta tn tc]) (hxi : Rd (· < w0.heap.size) w0 shItem [.int .u32 (id : Int), .slice va vn vc, .slice ta tn tc] (mkI id vec tags)) (hn : n ≤ 10000)
    (hQ : ∀ E w' a n c, E 11 = .slice a n c → HReads w' a n (keepL r (wantL m q flt0.f (xs ++ [mkI id vec tags]))) → Below w0.heap.size w0 w' → Q .normal ⟨filledR T0 dsW E 12, []⟩ w') :
    (Code.region rid ops true).wp Try.prog Q ⟨T0, []⟩ w0 := by
  obtain ⟨_, _, _, hcs, hxl, hms, hns, _, _, _⟩ := Rd.slice_part (e := shItem) hr1
  simp only [List.cons.injEq, Value.slice.injEq, and_true] at hcs
  obtain ⟨rfl, rfl, rfl⟩ := hcs
  obtain ⟨css, he, hf1, hf2, hf3, hf4, hf5⟩ := rd_cells hr1
  have hxlt := hx.lt
  have hinj : ∀ p q, p < ops.size → q < ops.size → dsW p = dsW q → p = q := by
    intro p q hp hq
    unfold dsW
    split <;> split <;> omega
  have hds : ∀ p, p < ops.size → dsW p < T0.size := by
    intro p hp
    unfold dsW
    split <;> omega
  refine wp_growE w0 dsW (factsW w0 a n c xs id vec tags va vn vc ta tn tc k m qa qn qc q r) (by kernel_rfl) hb (factsW_on w0 a n c xs id vec tags va vn vc ta tn tc k m qa qn qc q r) hinj hds ?_ ?_
  · intro l a w j o hI ho hl hd K hK
    have far : ∀ k, k < 10 → ∀ p, p < ops.size → l.getD p false = true → dsW p ≠ k := by
      intro k hk p hp hlp
      unfold dsW
      split <;> omega
    have e1 : a.eval (.tmp 1) = _ := hI.ev 1 _ t1 (far 1 (by decide))
    have e4 : a.eval (.tmp 4) = _ := hI.ev 4 _ t4 (far 4 (by decide))
    have e8 : a.eval (.tmp 8) = _ := hI.ev 8 _ t8 (far 8 (by decide))
    have e0 : a.eval (.tmp 0) = _ := hI.ev 0 _ t0 (far 0 (by decide))
    have e2 : a.eval (.tmp 2) = _ := hI.ev 2 _ t2 (far 2 (by decide))
    have hw0 := hI.below.size
    have hxw := hx.of_eq (hI.below.block _ hx.lt)
    have hji : j < 12 := by rw [← hsize]; exact (Array.getElem?_eq_some_iff.1 ho).1
    have hcase : j = 0 ∨ j = 1 ∨ j = 2 ∨ j = 3 ∨ j = 4 ∨ j = 5 ∨ j = 6 ∨ j = 7 ∨ j = 8 ∨ j = 9 ∨ j = 10 ∨ j = 11 := by omega
    rcases hcase with rfl | rfl | rfl | rfl | rfl | rfl | rfl | rfl | rfl | rfl | rfl | rfl
    · obtain ⟨hop, hdst, hgd, hL⟩ := op0.useG ho
      refine g_if hgd (g_move hop ?_)
      rw [hdst]
      exact hK _ _ ⟨fun E' e _ => e.trans e0, (.inl (Below.refl _ _))⟩
    · obtain ⟨hop, hdst, hgd, hL⟩ := op1.useG ho
      refine g_if hgd (g_bs0 hop (o_bsit w) ?_)
      rw [hdst]
      exact hK _ _ ⟨fun E' e _ => ⟨w.heap.size, e, hw0, fun _ => Blk.new w _ _⟩, .inl ((Below.refl _ w).alloc (Nat.le_refl _) _)⟩
    · obtain ⟨hop, hdst, hgd, hL⟩ := op2.useG ho
      refine g_if hgd (g_move hop ?_)
      rw [hdst]
      exact hK _ _ ⟨fun E' e _ => e.trans e1, (.inl (Below.refl _ _))⟩
    · obtain ⟨hop, hdst, hgd, hL⟩ := op3.useG ho
      obtain ⟨g0, f0, hg0, hblk⟩ := (hI.fact 1 (hd 1 (hL 1 (by simp))))
      have hbl := hblk hl
      have hrow : w.ownsRow w0.heap.size 44 3 (.slice (some ⟨g0, 0, none⟩) 0 0) 0 [] := ⟨by simp, .inr ⟨_, 0, #[], rfl, hg0, hbl, by simp, by simp, by simp, by simp⟩⟩
      refine g_if hgd (g_app0 (.tmp 49) (.tmp 50) 22 44 hop Try.underlying22 (.agg #[.int .u32 0, .slice none 0 0, .slice none 0 0]) 3 56 item_info10 rfl (by decide) w0.heap.size f0 hrow _ _ _ css.flatten (hI.fact 2 (hd 2 (hL 2 (by simp)))) hf1 hf4 (hf5.imp_right fun ⟨b, off, e1, e2, e3⟩ => ⟨b, off, e1, fun i hi => (hI.below.cell (p := ⟨b, off + i, none⟩) e2).trans (e3 i hi)⟩) hf3 (by omega) (by omega) hw0 ?_)
      intro v' w' g1 g2
      rw [hdst]
      have hkk : Kept [g0] w w' := (Kept.refl _ _).grown g2 (fun k hk => .inl (by simpa [Value.ownBlock, eq_comm] using hk))
      have hbel : Below w0.heap.size w w' := hkk.below (fun x hx => by rw [List.mem_singleton.1 hx]; exact hg0) hw0
      have he' : EachI w0.heap.size w' css xs := (he.on hI.below).on hbel
      have hrc : RowC w0.heap.size w' 44 3 v' css := ⟨hf2, by rw [he.1, hxl]; exact g1⟩
      refine hK _ _ ⟨fun E' e _ _ => ⟨css, by rw [e]; exact hrc, he'⟩, .inr ⟨hbel, fun p hp hf E' hE => ?_⟩⟩
      have hno : ∀ p' o', ops[p']? = some o' → waits o' 3 = true → Lof l p' = true → False := fun p' o' ho' hw' hp' => by
        have := hI.closed p' o' ho' hp' 3 hw'
        rw [hl] at this
        cases this
      have n6 : Lof l 6 = true → False := fun h => hno 6 _ op6.choose_spec.1 ((op6.useG op6.choose_spec.1).2.2.2 3 (by simp)) h
      have n10 : Lof l 10 = true → False := fun h => n6 (hI.closed 10 _ op10.choose_spec.1 h 6 ((op10.useG op10.choose_spec.1).2.2.2 6 (by simp)))
      have n11 : Lof l 11 = true → False := fun h => n10 (hI.closed 11 _ op11.choose_spec.1 h 10 ((op11.useG op11.choose_spec.1).2.2.2 10 (by simp)))
      match p, hf, hp with
      | 0, hf, hp => exact (hE 0 hp).trans hf
      | 1, hf, hp => obtain ⟨g, e, h1, h2⟩ := hf; exact ⟨g, (hE 1 hp).trans e, h1, fun hk => by first | (rw [updN_self] at hk; cases hk) | (rw [updN_same _ _ _ hA] at hk; cases hk)⟩
      | 2, hf, hp => exact (hE 2 hp).trans hf
      | 3, _, hp => exact absurd hp (by unfold Lof; rw [hl]; simp)
      | 4, hf, hp => exact (hE 4 hp).trans hf
      | 5, hf, hp =>
        obtain ⟨g, e, h1, h2⟩ := hf
        exact ⟨g, (hE 5 hp).trans e, h1, fun hk => (h2 (updN_off hk)).of_eq (hkk.block _ (h2 (updN_off hk)).lt (fun hm => by
          have hgg : g = g0 := by simpa using hm
          subst hgg
          have := (h2 (updN_off hk)).symm.trans hbl
          simp at this))⟩
      | 6, _, hp => exact (n6 hp).elim
      | 7, hf, hp => exact (hE 7 hp).trans hf
      | 8, hf, hp => exact (hE 8 hp).trans hf
      | 9, hf, hp => exact (hE 9 hp).trans hf
      | 10, _, hp => exact (n10 hp).elim
      | 11, _, hp => exact (n11 hp).elim
      | _ + 12, _, _ => exact trivial
    · obtain ⟨hop, hdst, hgd, hL⟩ := op4.useG ho
      refine g_if hgd (g_load hop e8 (o_ldit bx id va ta vn vc tn tc w (hxw.cell 0) (hxw.cell 1) (hxw.cell 2)) ?_)
      rw [hdst]
      exact hK _ _ ⟨fun E' e _ => e, (.inl (Below.refl _ _))⟩
    · obtain ⟨hop, hdst, hgd, hL⟩ := op5.useG ho
      refine g_if hgd (g_bs1 hop (hI.fact 4 (hd 4 (hL 4 (by simp)))) (o_bs1 id va ta vn vc tn tc w) ?_)
      rw [hdst]
      exact hK _ _ ⟨fun E' e _ => ⟨w.heap.size, e, hw0, fun _ => Blk.new w _ _⟩, .inl ((Below.refl _ w).alloc (Nat.le_refl _) _)⟩
    · obtain ⟨hop, hdst, hgd, hL⟩ := op6.useG ho
      have hprev := (hI.fact 3 (hd 3 (hL 3 (by simp)))) hl
      obtain ⟨css1, hrow, he1⟩ := hprev
      obtain ⟨g0, f0, hg0, hblk⟩ := (hI.fact 5 (hd 5 (hL 5 (by simp))))
      have hbl := hblk hl
      have hc1 : css1.length = n := by rw [he1.1, hxl]
      refine g_if hgd (g_appC (.tmp 51) (.tmp 53) 22 hop Try.underlying22 (.agg #[.int .u32 0, .slice none 0 0, .slice none 0 0]) 56 item_info10 rfl (by decide) [.int .u32 (id : Int), .slice va vn vc, .slice ta tn tc] g0 rfl f0 hbl hrow rfl (by simp [Value.oneCell']) hw0 (by omega) (by omega) ?_)
      intro v' w' g1 hkk
      rw [hdst]
      have hbel : Below w0.heap.size w w' := hkk.below (fun x hx => (hrow.lt x (mem_ownB.1 hx)).1) hw0
      have he' : EachI w0.heap.size w' (css1 ++ [[.int .u32 (id : Int), .slice va vn vc, .slice ta tn tc]]) (xs ++ [mkI id vec tags]) := (he1.on hbel).snoc ((hxi.under hI.below).under hbel)
      refine hK _ _ ⟨fun E' e _ => ⟨_, by rw [e]; exact g1, he'⟩, .inr ⟨hbel, fun p hp hf E' hE => ?_⟩⟩
      have hno : ∀ p' o', ops[p']? = some o' → waits o' 6 = true → Lof l p' = true → False := fun p' o' ho' hw' hp' => by
        have := hI.closed p' o' ho' hp' 6 hw'
        rw [hl] at this
        cases this
      have hA : Lof l 3 = true := hd 3 (hL 3 (by simp))
      have hB0 : Lof l 1 = true := hI.closed 3 _ op3.choose_spec.1 hA 1 ((op3.useG op3.choose_spec.1).2.2.2 1 (by simp))
      have n10 : Lof l 10 = true → False := fun h => hno 10 _ op10.choose_spec.1 ((op10.useG op10.choose_spec.1).2.2.2 6 (by simp)) h
      have n11 : Lof l 11 = true → False := fun h => n10 (hI.closed 11 _ op11.choose_spec.1 h 10 ((op11.useG op11.choose_spec.1).2.2.2 10 (by simp)))
      match p, hf, hp with
      | 0, hf, hp => exact (hE 0 hp).trans hf
      | 1, hf, hp => obtain ⟨g, e, h1, h2⟩ := hf; exact ⟨g, (hE 1 hp).trans e, h1, fun hk => by first | (rw [updN_self] at hk; cases hk) | (rw [updN_same _ _ _ hA] at hk; cases hk)⟩
      | 2, hf, hp => exact (hE 2 hp).trans hf
      | 3, hf, hp => exact fun hk => by rw [updN_self] at hk; cases hk
      | 4, hf, hp => exact (hE 4 hp).trans hf
      | 5, hf, hp => obtain ⟨g, e, h1, h2⟩ := hf; exact ⟨g, (hE 5 hp).trans e, h1, fun hk => by rw [updN_self] at hk; cases hk⟩
      | 6, _, hp => exact absurd hp (by unfold Lof; rw [hl]; simp)
      | 7, hf, hp => exact (hE 7 hp).trans hf
      | 8, hf, hp => exact (hE 8 hp).trans hf
      | 9, hf, hp => exact (hE 9 hp).trans hf
      | 10, _, hp => exact (n10 hp).elim
      | 11, _, hp => exact (n11 hp).elim
      | _ + 12, _, _ => exact trivial
    · obtain ⟨hop, hdst, hgd, hL⟩ := op7.useG ho
      refine g_if hgd (g_move hop ?_)
      rw [hdst]
      exact hK _ _ ⟨fun E' e _ => e.trans e2, (.inl (Below.refl _ _))⟩
    · obtain ⟨hop, hdst, hgd, hL⟩ := op8.useG ho
      refine g_if hgd (g_build0 hop (o_bfl w) ?_)
      rw [hdst]
      exact hK _ _ ⟨fun E' e _ => e, (.inl (Below.refl _ _))⟩
    · obtain ⟨hop, hdst, hgd, hL⟩ := op9.useG ho
      refine g_if hgd (g_move hop ?_)
      rw [hdst]
      exact hK _ _ ⟨fun E' e _ => e.trans e4, (.inl (Below.refl _ _))⟩
    · obtain ⟨hop, hdst, hgd, hL⟩ := op10.useG ho
      obtain ⟨css1, hrow, he1⟩ := (hI.fact 6 (hd 6 (hL 6 (by simp))))
      have hlx : (xs ++ [mkI id vec tags]).length = n + 1 := by rw [List.length_append, hxl]; rfl
      obtain ⟨a4, c4, f4, hr4⟩ := hrow.items he1 (by omega)
      rw [hlx] at f4 hr4
      refine g_if hgd (g_call (fun _ _ => by go_simp) hop (us := #[.int .u8 (m : Int), .slice a4 (n + 1) c4, .slice qa qn qc, .agg flt0.cells, .int .i64 k]) (by rw [← f4, ← show Eof dsW a 8 = .agg flt0.cells from (hI.fact 8 (hd 8 (hL 8 (by simp)))), ← show Eof dsW a 0 = .int .u8 (m : Int) from (hI.fact 0 (hd 0 (hL 0 (by simp)))), ← show Eof dsW a 7 = .slice qa qn qc from (hI.fact 7 (hd 7 (hL 7 (by simp)))), ← show Eof dsW a 9 = .int .i64 k from (hI.fact 9 (hd 9 (hL 9 (by simp))))]; simp only [List.map_toArray, List.map_cons, List.map_nil]; rfl) (search_any w _ m a4 qa (n + 1) c4 qn qc _ q flt0 k r hr hm hr4 (hq.below (Nat.le_refl _) hI.below) (flt0_in w)) ?_)
      intro e w' hp
      obtain ⟨a5, n5, c5, rfl, hr5, hb'⟩ := hp.read (by rw [keepL, List.length_take]; have := hr.out; omega)
      refine ⟨_, rfl, ?_⟩
      rw [hdst]
      exact hK _ _ ⟨fun E' e _ => ⟨a5, n5, c5, e, hr5⟩, .inl hb'⟩
    · obtain ⟨hop, hdst, hgd, hL⟩ := op11.useG ho
      obtain ⟨a3, n3, c3, f, hr3⟩ := (hI.fact 10 (hd 10 (hL 10 (by simp))))
      refine g_if hgd (g_assign hop ?_)
      rw [hdst]
      exact hK _ _ ⟨fun E' e _ => ⟨a3, n3, c3, e.trans f, hr3⟩, (.inl (Below.refl _ _))⟩
  · rintro a w ha hbw ⟨L, hL, hf⟩
    obtain ⟨a5, n5, c5, e, hr5⟩ := hf 11 (by omega)
    rw [ha, hsize]
    exact hQ _ w a5 n5 c5 e hr5 hbw
end

/-- How many of l are in la. -/
def cntH (la l : List Hit) : Nat := (l.filter fun x => decide (x ∈ la)).length
theorem cntH_snoc (la l : List Hit) (x : Hit) : cntH la (l ++ [x]) = cntH la l + if x ∈ la then 1 else 0 := by
  unfold cntH
  rw [List.filter_append, List.length_append]
  by_cases h : x ∈ la <;> simp [h]
theorem cntH_le (la l : List Hit) : cntH la l ≤ l.length := List.length_filter_le _ _
theorem cntH_all (la l : List Hit) (h : ∀ x ∈ l, x ∈ la) : cntH la l = l.length := by
  unfold cntH
  rw [List.filter_eq_self.2 fun x hx => decide_eq_true (h x hx)]
theorem cntH_app (la l l' : List Hit) : cntH la (l ++ l') = cntH la l + cntH la l' := by
  unfold cntH
  rw [List.filter_append, List.length_append]
theorem ins_split (x : Hit) (l : List Hit) : ∃ l1 l2, l = l1 ++ l2 ∧ ins x l = l1 ++ x :: l2 := by
  induction l with
  | nil => exact ⟨[], [], rfl, rfl⟩
  | cons y l ih =>
    unfold ins
    split
    · exact ⟨[], y :: l, rfl, rfl⟩
    · obtain ⟨l1, l2, h1, h2⟩ := ih
      exact ⟨y :: l1, l2, by rw [h1]; rfl, by rw [h2]; rfl⟩
/-- One hit more: no fewer, and at most one that is new. -/
theorem keepL_more (r : Nat) (l : List Hit) (o : Option Hit) : (keepL r l).length ≤ (keepL r (l ++ o.toList)).length ∧ (keepL r (l ++ o.toList)).length ≤ cntH (keepL r l) (keepL r (l ++ o.toList)) + 1 := by
  cases o with
  | none =>
    simp only [Option.toList, List.append_nil]
    rw [cntH_all _ _ fun x hx => hx]
    omega
  | some x =>
    simp only [Option.toList]
    rw [keepL_snoc]
    obtain ⟨la, hla⟩ : ∃ la, keepL r l = la := ⟨_, rfl⟩
    have hr : la.length ≤ r := by rw [← hla, keepL, List.length_take]; omega
    rw [hla]
    refine ⟨by rw [List.length_take, ins_len]; omega, ?_⟩
    obtain ⟨l1, l2, h1, h2⟩ := ins_split x la
    rw [h2]
    by_cases hk : r ≤ l1.length
    · rw [List.take_append_of_le_length hk, cntH_all _ _ fun y hy => by rw [h1]; exact List.mem_append_left _ (List.mem_of_mem_take hy)]
      omega
    · obtain ⟨d, hd⟩ : ∃ d, r = l1.length + (d + 1) := ⟨r - l1.length - 1, by omega⟩
      subst hd
      rw [List.take_length_add_append, List.take_succ_cons, cntH_app, cntH_all _ l1 fun y hy => by rw [h1]; exact List.mem_append_left _ hy, show x :: l2.take d = [x] ++ l2.take d from rfl, cntH_app, cntH_all _ (l2.take d) fun y hy => by rw [h1]; exact List.mem_append_right _ (List.mem_of_mem_take hy)]
      simp only [List.length_append, List.length_singleton]
      omega
theorem keepL_pre (r : Nat) (l : List Hit) : (keepL (r + 1) l).take (keepL r l).length = keepL r l ∧ (keepL r l).length ≤ (keepL (r + 1) l).length := by
  unfold keepL
  refine ⟨?_, by rw [List.length_take, List.length_take]; omega⟩
  rw [List.take_take, List.length_take]
  by_cases h : r ≤ (sortL l).length
  · rw [show min (min r (sortL l).length) (r + 1) = r by omega]
  · rw [List.take_of_length_le (i := r) (by omega), List.take_of_length_le (by omega)]
theorem wantL_snoc (m : Nat) (q : List Int) (f : Filt) (xs : List shItem.T) (x : shItem.T) : wantL m q f (xs ++ [x]) = wantL m q f xs ++ (wantO m q f x).toList := by
  rw [wantL, wantL, List.filterMap_append]
  congr 1
theorem HReads.takes {w : World} {a : Option Addr} {n k : Nat} {xs : List Hit} (h : HReads w a n xs) (hk : k ≤ n) : HReads w a k (xs.take k) := by
  refine ⟨by rw [List.length_take, h.len]; omega, by have := h.small; omega, ?_⟩
  rcases h.cells with h0 | ⟨b, off, e, hlt, hc⟩
  · exact .inl (by omega)
  · refine .inr ⟨b, off, e, hlt, fun i hi => ?_⟩
    rw [show (xs.take k).getD i (0, 0) = xs.getD i (0, 0) from by rw [List.getD_eq_getElem?_getD, List.getD_eq_getElem?_getD, List.getElem?_take_of_lt hi]]
    exact hc i (by omega)
theorem take_get (xs : List Hit) (i : Nat) (h : i < xs.length) : xs.take (i + 1) = xs.take i ++ [xs.getD i (0, 0)] := by
  rw [List.take_succ_eq_append_getElem h]
  congr 2
  simp [List.getD, h]

set_option maxRecDepth 100000 in
set_option maxHeartbeats 12800000 in
theorem more_walk (w : World) (m : Nat) (a qa : Option Addr) (n c qn qc : Nat) (xs : List shItem.T) (q : List Int) (id : Nat) (vec : List Int) (tags : List ByteArray) (va : Option Addr) (vn vc : Nat) (ta : Option Addr) (tn tc : Nat) (kk : Int) (hm : m < 256) (h : Rd (fun _ => True) w shItems [.slice a n c] xs) (hq : Reads .i32 w qa qn q) (hx : Rd (fun _ => True) w shItem [.int .u32 (id : Int), .slice va vn vc, .slice ta tn tc] (mkI id vec tags)) :
    Calls Try.prog 8 #[.int .u8 (m : Int), .slice a n c, .slice qa qn qc, .agg #[.int .u32 (id : Int), .slice va vn vc, .slice ta tn tc], .int .i64 kk] w fun e w' => e = .returned (.bool true) ∧ Below w.heap.size w w' := by
  obtain ⟨_, _, _, hcs, HN, _, _⟩ := Rd.slice_is (e := shItem) h
  simp only [List.cons.injEq, Value.slice.injEq, and_true] at hcs
  obtain ⟨rfl, rfl, rfl⟩ := hcs
  obtain ⟨w1, hw1⟩ : ∃ w1, w.alloc (.cells #[.int .u32 (id : Int), .slice va vn vc, .slice ta tn tc] 44) = w1 := ⟨_, rfl⟩
  have hb1 : Below w.heap.size w w1 := by rw [← hw1]; exact (Below.refl _ w).alloc (Nat.le_refl _) _
  have bf : Blk w1 w.heap.size 44 [.int .u32 (id : Int), .slice va vn vc, .slice ta tn tc] := by rw [← hw1]; exact Blk.new _ _ _
  have HB1 := Lib.hid hb1
  have HH := Lib.hid (show ∀ w2, Below w1.heap.size w1 w2 → Rd (· < w2.heap.size) w2 shItems [.slice a n c] xs from fun w2 hb2 => ((h.on hb1).on hb2).lt.mono fun _ hk _ => hk.2)
  have HX := Lib.hid (show ∀ w2, Below w1.heap.size w1 w2 → Rd (· < w2.heap.size) w2 shItem [.int .u32 (id : Int), .slice va vn vc, .slice ta tn tc] (mkI id vec tags) from fun w2 hb2 => ((hx.on hb1).on hb2).lt.mono fun _ hk _ => hk.2)
  have HH' := Lib.hid (h.on hb1)
  have HQ := Lib.hid (hq.below (Nat.le_refl _) hb1)
  have HM := Lib.hid hm
  have HC := Lib.hid (show ∀ w2, Below w1.heap.size w1 w2 → Blk w2 w.heap.size 44 [.int .u32 (id : Int), .slice va vn vc, .slice ta tn tc] from fun w2 hb2 => bf.of_eq (hb2.block _ bf.lt))
  clear h hq hx hm hb1 bf
  go_enter Try.func8, Try.ntmps8
  go_wp2_with (first | (rw [hw1]) | fail)
  clear hw1
  refine (alive10 _).mono ?_
  rintro e w2 ⟨rfl, hb2⟩
  have HB2 := Lib.hid hb2
  clear hb2
  go_wp2_with (fail)
  refine few_region10 w2 a n c xs id vec tags va vn vc ta tn tc kk w.heap.size rfl (by kernel_rfl) ⟨_, rfl, rfl, rfl, rfl, by kernel_rfl⟩ ⟨_, rfl, rfl, rfl, rfl, by kernel_rfl⟩ ⟨_, rfl, rfl, rfl, rfl, by kernel_rfl⟩ ⟨_, rfl, rfl, rfl, rfl, by kernel_rfl⟩ ⟨_, rfl, rfl, rfl, rfl, by kernel_rfl⟩ ⟨_, rfl, rfl, rfl, rfl, by kernel_rfl⟩ ⟨_, rfl, rfl, rfl, rfl, by kernel_rfl⟩ ⟨_, rfl, rfl, rfl, rfl, by kernel_rfl⟩ ⟨_, rfl, rfl, rfl, rfl, by kernel_rfl⟩ ⟨_, rfl, rfl, rfl, rfl, by kernel_rfl⟩ ⟨_, rfl, rfl, rfl, rfl, by kernel_rfl⟩ ⟨_, rfl, rfl, rfl, rfl, by kernel_rfl⟩ ⟨_, rfl, rfl, rfl, rfl, by kernel_rfl⟩ ⟨_, rfl, rfl, rfl, rfl, by kernel_rfl⟩ ⟨_, rfl, rfl, rfl, rfl, by kernel_rfl⟩ ⟨_, rfl, rfl, rfl, rfl, by kernel_rfl⟩ rfl rfl rfl rfl (HH.out _ HB2.out) (HC.out _ HB2.out) (HX.out _ HB2.out) ?_
  intro E w3 g hE hg hb3
  have HB3 := Lib.hid (HB2.out.trans (hb3.mono HB2.out.size))
  clear hb3
  simp only [filledR, dsM, Nat.reduceAdd, hE]
  go_simp
  go_step
  cases g with
  | true =>
    clear hg hE
    go_wp2
    go_ret
    exact ⟨rfl, below_on HB1.out HB3.out⟩
  | false =>
    obtain ⟨hn, hk1, hk2⟩ := hg rfl
    clear hg
    obtain ⟨r, rfl⟩ : ∃ r : Nat, kk = (r : Int) := ⟨kk.toNat, by omega⟩
    have hr1 : 1 ≤ r := by omega
    have hr2 : r ≤ 255 := by omega
    clear hk1 hk2 hE
    go_wp2_with (fail)
    refine (search_any w3 _ m a qa n c qn qc xs q flt0 r r (show Hid _ from by unfold Hid; omega) HM.out (HH'.out.on HB3.out) (HQ.out.below (Nat.le_refl _) HB3.out) (flt0_in _)).mono ?_
    rintro e w4 ⟨g5, n5, rfl, ho5, hb4, _⟩
    have hl5 : (keepL r (wantL m q flt0.f xs)).length ≤ 256 := by rw [keepL, List.length_take]; omega
    have HR5 := Lib.hid (HReads.of_own ho5 (by omega))
    have hn5 : n5 ≤ 256 := by rw [← HR5.out.len]; exact hl5
    have HB4 := Lib.hid (HB3.out.trans (hb4.mono HB3.out.size))
    clear ho5 hb4 hl5
    go_wp2_with (fail)
    refine (search_any w4 _ m a qa n c qn qc xs q flt0 ((r : Int) + 1) (r + 1) (show Hid _ from by unfold Hid; omega) HM.out (HH'.out.on HB4.out) (HQ.out.below (Nat.le_refl _) HB4.out) (flt0_in _)).mono ?_
    rintro e w5 ⟨g6, n6, rfl, ho6, hb5, _⟩
    have hl6 : (keepL (r + 1) (wantL m q flt0.f xs)).length ≤ 256 := by rw [keepL, List.length_take]; omega
    have HR6 := Lib.hid (HReads.of_own ho6 (by omega))
    have K5 := Lib.hid hb5
    have HB5 := Lib.hid (HB4.out.trans (hb5.mono HB4.out.size))
    have hn56 : n5 ≤ n6 := by rw [← HR5.out.len, ← HR6.out.len]; exact (keepL_pre r _).2
    have HT6 := Lib.hid (show HReads w5 (some ⟨g6, 0, none⟩) n5 (keepL r (wantL m q flt0.f xs)) from by
      have := HR6.out.takes hn56
      rw [show n5 = (keepL r (wantL m q flt0.f xs)).length from HR5.out.len.symm, (keepL_pre r _).1] at this
      rw [← HR5.out.len]
      exact this)
    clear ho6 hb5 hl6
    go_wp2_with (fail)
    refine more_region10 w5 a n c xs id vec tags va vn vc ta tn tc r m qa qn qc q r w.heap.size rfl (by kernel_rfl) ⟨_, rfl, rfl, rfl, rfl, by kernel_rfl⟩ ⟨_, rfl, rfl, rfl, rfl, by kernel_rfl⟩ ⟨_, rfl, rfl, rfl, rfl, by kernel_rfl⟩ ⟨_, rfl, rfl, rfl, rfl, by kernel_rfl⟩ ⟨_, rfl, rfl, rfl, rfl, by kernel_rfl⟩ ⟨_, rfl, rfl, rfl, rfl, by kernel_rfl⟩ ⟨_, rfl, rfl, rfl, rfl, by kernel_rfl⟩ ⟨_, rfl, rfl, rfl, rfl, by kernel_rfl⟩ ⟨_, rfl, rfl, rfl, rfl, by kernel_rfl⟩ ⟨_, rfl, rfl, rfl, rfl, by kernel_rfl⟩ ⟨_, rfl, rfl, rfl, rfl, by kernel_rfl⟩ ⟨_, rfl, rfl, rfl, rfl, by kernel_rfl⟩ rfl rfl rfl rfl rfl rfl HM.out (HQ.out.below (Nat.le_refl _) HB5.out) (show Hid _ from by unfold Hid; omega) (HH.out _ HB5.out) (HC.out _ HB5.out) (HX.out _ HB5.out) (by omega) ?_
    intro E2 w6 a7 n7 c7 hE2 hr7 hb6
    have HR7 := Lib.hid hr7
    have hn7 : n7 ≤ 255 := by rw [← hr7.len, keepL, List.length_take]; omega
    have K6 := Lib.hid hb6
    have HB6 := Lib.hid (HB5.out.trans (hb6.mono HB5.out.size))
    have HMO := Lib.hid (keepL_more r (wantL m q flt0.f xs) (wantO m q flt0.f (mkI id vec tags)))
    rw [← wantL_snoc] at HMO
    clear hr7 hb6
    simp only [filledR, dsW, Nat.reduceEqDiff, if_true, if_false, Nat.reduceAdd, hE2]
    go_simp
    go_step
    have hd1 : decide ((n6 : Int) < (n5 : Int)) = false := decide_eq_false (by omega)
    go_wp2_with (fail)
    refine (same_any (some ⟨g5, 0, none⟩) (some ⟨g6, 0, none⟩) n5 n5 n5 n6 _ _ w6 ((HR5.out.below (Nat.le_refl _) K5.out).below (Nat.le_refl _) K6.out) (HT6.out.below (Nat.le_refl _) K6.out)).mono ?_
    rintro e w7 ⟨rfl, hb7⟩
    rw [decide_eq_true rfl]
    have HB7 := Lib.hid (HB6.out.trans (hb7.mono HB6.out.size))
    have HA := Lib.hid (((HR5.out.below (Nat.le_refl _) K5.out).below (Nat.le_refl _) K6.out).below (Nat.le_refl _) hb7)
    have HD := Lib.hid (HR7.out.below (Nat.le_refl _) hb7)
    clear hb7 hd1 HR5 HR6 HT6 HR7 K5 K6
    obtain ⟨la, hla⟩ : ∃ la, keepL r (wantL m q flt0.f xs) = la := ⟨_, rfl⟩
    obtain ⟨lc, hlc⟩ : ∃ lc, keepL r (wantL m q flt0.f (xs ++ [mkI id vec tags])) = lc := ⟨_, rfl⟩
    rw [hla, hlc] at HMO
    rw [hla] at HA
    rw [hlc] at HD
    clear hla hlc HH HH' HX HQ HM HC
    go_wp2
    go_loopw [14, 15] (fun s14 s15 wr => ∃ (i kp : Nat), i ≤ n7 ∧ kp ≤ i ∧ s15 = .int .i64 (i : Int) ∧ s14 = .int .i64 (kp : Int) ∧ Hid (kp = cntH la (lc.take i)) ∧ Hid (Below w7.heap.size w7 wr)) (fun _ s15 _ => n7 - (intOf s15).toNat)
    case atStart => exact ⟨0, 0, Nat.zero_le _, Nat.le_refl _, rfl, rfl, rfl, Below.refl _ _⟩
    case round =>
      obtain ⟨i, kp, hi, hkp, rfl, rfl, HK, HB⟩ := hrel
      by_cases h1 : i < n7
      · obtain ⟨p, hp⟩ : ∃ p, p = lc.getD i (0, 0) := ⟨_, rfl⟩
        have HTG := Lib.hid (take_get lc i (by rw [HD.out.len]; exact h1))
        rcases HD.out.cells with h0 | ⟨bc, oc, rfl, hltc, hcc⟩
        · omega
        have HCC := Lib.hid (show ∀ w2, Below w7.heap.size w7 w2 → w2.cell? ⟨bc, oc + i * 2, none⟩ = some (.int .i64 p.1) ∧ w2.cell? ⟨bc, oc + i * 2 + 1, none⟩ = some (.int .u32 p.2) from fun w2 hb2 => by
          rw [hp, hb2.cell (p := ⟨bc, oc + i * 2, none⟩) hltc, hb2.cell (p := ⟨bc, oc + i * 2 + 1, none⟩) hltc]
          exact hcc i h1)
        have HP := Lib.hid hp
        clear hp hcc hltc
        obtain ⟨wo, rfl⟩ : ∃ wo : World, wo = wr := ⟨_, rfl⟩
        go_wp2
        go_loopw [14, 16] (fun s14 s16 wr => ∃ (j : Nat), j ≤ n5 ∧ s16 = .int .i64 (j : Int) ∧ s14 = .int .i64 (kp : Int) ∧ Hid (p ∉ la.take j) ∧ Hid (Below w7.heap.size w7 wr)) (fun _ s16 _ => n5 - (intOf s16).toNat)
        case atStart => exact ⟨0, Nat.zero_le _, rfl, rfl, by simp [Hid], HB.out⟩
        case round =>
          clear HB
          obtain ⟨j, hj, rfl, rfl, HV, HB⟩ := hrel
          by_cases h2 : j < n5
          · obtain ⟨p2, hp2⟩ : ∃ p2, p2 = la.getD j (0, 0) := ⟨_, rfl⟩
            have HTA := Lib.hid (take_get la j (by rw [HA.out.len]; exact h2))
            have hda := HA.out.cells
            obtain ⟨c0, c1⟩ := HCC.out _ HB.out
            have hca : wr.cell? ⟨g5, j * 2, none⟩ = some (.int .i64 p2.1) ∧ wr.cell? ⟨g5, j * 2 + 1, none⟩ = some (.int .u32 p2.2) := by
              rcases hda with h0 | ⟨b, o, e, hlt, hcc⟩
              · omega
              · simp only [Option.some.injEq, Addr.mk.injEq, and_true] at e
                obtain ⟨rfl, rfl⟩ := e
                have := hcc j h2
                rw [hp2, HB.out.cell (p := ⟨g5, j * 2, none⟩) hlt, HB.out.cell (p := ⟨g5, j * 2 + 1, none⟩) hlt]
                simpa using this
            obtain ⟨d0, d1⟩ := hca
            have HP2 := Lib.hid hp2
            clear hp2 hda
            by_cases hpq : p = p2
            · have heq := fun w => run_eql_hit p p2 w true (by simp [hpq])
              have HIN := Lib.hid (show p ∈ la from by
                have h3 := HTA.out
                rw [← HP2.out, ← hpq] at h3
                exact List.mem_of_mem_take (i := j + 1) (by rw [h3]; simp))
              clear hpq
              go_wp2
              go_quiet (fail)
              have HB8 := Lib.hid (below_draws HB.out nq)
              clear c0 c1 d0 d1 HB heq
              generalize wr.drewN nq = wd at *
              go_wp2
              go_roundw
              case rel => exact ⟨i + 1, kp + 1, by omega, by omega, (by first | rfl | go_num), (by first | rfl | go_num), by rw [HTG.out, ← HP.out]; show kp + 1 = _; rw [cntH_snoc, if_pos HIN.out, ← show kp = _ from HK], HB8.out⟩
              case measure => simp [intOf]; omega
            · have heq := fun w => run_eql_hit p p2 w false (by simp [hpq])
              have HNE := Lib.hid hpq
              clear hpq
              go_wp2
              go_quiet (fail)
              have HB8 := Lib.hid (below_draws HB.out nq)
              clear c0 c1 d0 d1 HB heq
              generalize wr.drewN nq = wd at *
              go_wp2
              go_roundw
              case rel => exact ⟨j + 1, by omega, by go_num, (by first | rfl | go_num), by
                show p ∉ _
                rw [HTA.out, List.mem_append, List.mem_singleton, ← HP2.out]
                exact fun hh => hh.elim HV.out HNE.out, HB8.out⟩
              case measure => simp [intOf]; omega
          · have HNO := Lib.hid (show p ∉ la from by
              have := HV.out
              rwa [List.take_of_length_le (by rw [HA.out.len]; omega)] at this)
            go_wp2
            go_roundw
            case rel => exact ⟨i + 1, kp, by omega, by omega, (by first | rfl | go_num), (by first | rfl | go_num), by rw [HTG.out, ← HP.out]; show kp = _; rw [cntH_snoc, if_neg HNO.out]; exact HK, HB.out⟩
            case measure => simp [intOf]; omega
      · have hkl : n5 ≤ kp + 1 ∧ n7 ≤ kp + 1 := by
          have h3 := HMO.out
          have h4 : kp = cntH la (lc.take i) := HK
          rw [List.take_of_length_le (by rw [HD.out.len]; omega)] at h4
          rw [HA.out.len, HD.out.len, ← h4] at h3
          omega
        obtain ⟨hk5, hk7⟩ := hkl
        have hd5 : decide ((n5 : Int) - 1 ≤ (kp : Int)) = true := decide_eq_true (by omega)
        have hd7 : decide ((n7 : Int) - 1 ≤ (kp : Int)) = true := decide_eq_true (by omega)
        go_wp2
        go_ret
        exact ⟨rfl, below_on HB1.out (HB7.out.trans (HB.out.mono HB7.out.size))⟩

theorem flatMore_row : Rows.FlatMoreSaid :=
  OpenClaim.holds_of_wide 8 Try.f8 rfl rfl rfl rfl rfl rfl rfl ⟨rfl, rfl, rfl, rfl, rfl⟩ rfl rfl rfl rfl rfl (by kernel_rfl) Try.func8 (by kernel_rfl)
    (of_decide_eq_true (by kernel_rfl)) (by unfold Func.isWrapper; rw [if_neg (of_decide_eq_false (by kernel_rfl))]; exact ⟨rfl, rfl⟩)
    (fun os started H enc _ => lift (C := Try.checked) (s := Rows.flatMoreSpec) (conds := Rows.flatMoreRow.domain) os started H enc prog_own (by kernel_rfl) Try.func8 prog_laid rfl Try.underlying4 rfl
      (fun ds hl => by
        have hl : ds.length = 5 := hl
        match ds, hl with
        | [_, _, _, _, _], _ => rfl)
      (of_decide_eq_true (by kernel_rfl))
      (ChangeSpec.witness6 (enc := enc) (C := Try.checked) false ⟨#[], #[.int .u8 0, .slice none 0 0, .slice none 0 0, .agg #[.int .u32 0, .slice none 0 0, .slice none 0 0], .int .i64 0], []⟩ 8 (by kernel_rfl) (by kernel_rfl) (by kernel_rfl) (by kernel_rfl))
      (fun W base args ds p g => by
        rw [Try.params8] at g
        obtain ⟨m, e0, hm⟩ := g.u8 0 rfl Try.underlying5
        obtain ⟨a, n, c, xs, e1, h1⟩ := g.items10 1 rfl
        obtain ⟨qa, qn, qc, q, e2, h2⟩ := g.vec10 2 rfl
        obtain ⟨cs, x, e3, hx⟩ := g.shs 3 rfl shItem (by kernel_rfl) Try.underlying44
        obtain ⟨id, vec, tags, va, vn, vc, ta, tn, tc, rfl, hcs, _⟩ := rd_item hx
        obtain rfl : cs = #[.int .u32 (id : Int), .slice va vn vc, .slice ta tn tc] := by
          have : cs = cs.toList.toArray := by simp
          rw [this, hcs]
        obtain ⟨kk, e4, _⟩ := g.i64 4 rfl Try.underlying3
        rw [args5 g.count e0 e1 e2 e3 e4]
        exact more_walk W m a qa n c qn qc xs q id vec tags va vn vc ta tn tc kk hm h1 h2 hx))
end Go.Proofs.Yteaomjabanhblaa
