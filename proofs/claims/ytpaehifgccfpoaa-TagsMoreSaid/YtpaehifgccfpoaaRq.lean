/-
  The region of TagsMore's law, whole: whatever order is drawn, the filter is made, and what was there stays.
-/
import Derived.Test.YtpaehifgccfpoaaRo
namespace Go.Proofs.Ytpaehifgccfpoaa
open Go.RowKit

theorem OpIs.use {ops : Array Oper} {i : Nat} {op : Op} {dst : Option Tmp} {deps : List Nat} (h : OpIs ops i op dst deps) {o : Oper} (ho : ops[i]? = some o) {l : Array Bool}
    (hd : ∀ e ∈ o.after, Region.binds .any e = true → l.getD e.on false = true) : o.op = op ∧ o.dst = dst ∧ o.guard = none ∧ ∀ d ∈ deps, Lof l d = true := by
  obtain ⟨o', ho', h1, h2, h3, h4⟩ := h
  rw [ho] at ho'
  injection ho' with e
  subst e
  refine ⟨h1, h2, h3, fun d hdd => ?_⟩
  obtain ⟨e, he, hb⟩ := Array.any_eq_true'.1 (List.all_eq_true.1 h4 d hdd)
  rw [Bool.and_eq_true] at hb
  have e1 : e.on = d := Nat.eq_of_beq_eq_true hb.2
  rw [← e1]
  exact hd e he hb.1

theorem step_of {ops : Array Oper} {o : Oper} {a : Act} {w : World} {K : Act → World → Prop} {Q : Exit → Act → World → Prop} (hg : o.guard = none) (h : o.wp Try.prog a w K Q) :
    if Region.wanted o (yielded ops a.tmps) = true then o.wp Try.prog a w K Q else K (a.put o.dst undef) w := by
  rw [if_pos (by simp [Region.wanted, hg])]
  exact h

section
variable {w0 : World} {pb : Nat} {v0 v1 v2 : Value} {s0 s2 : List ByteArray} {t : ByteArray} {L : Nat → Bool} {E : Nat → Value} {w w' : World}
theorem RI.init (hL : ∀ k, L k = false) (hb : Below w0.heap.size w0 w) : RI w0 pb v0 v1 v2 s0 s2 t L E w := by
  have no : ∀ k, L k = true → False := fun k h => by rw [hL k] at h; cases h
  exact ⟨hb, fun h => (no _ h).elim, fun h => (no _ h).elim, fun h => (no _ h).elim, fun h => (no _ h).elim, fun h => (no _ h).elim, fun h => (no _ h).elim, fun h => (no _ h).elim, fun h => (no _ h).elim, fun h => (no _ h).elim, fun h => (no _ h).elim, fun h => (no _ h).elim, fun h => (no _ h).elim,
    fun h => (no _ h).elim, fun h => (no _ h).elim, fun h => (no _ h).elim, fun h => (no _ h).elim, fun h => (no _ h).elim, fun h => (no _ h).elim, fun h => (no _ h).elim, fun h => (no _ h).elim, fun h => (no _ h).elim, fun h => (no _ h).elim, fun h => (no _ h).elim⟩
theorem RI.own40 (h : RI w0 pb v0 v1 v2 s0 s2 t L E w) (h3 : L 3 = false) (h0 : L 0 = true) : OwnS w w0.heap.size 9 (E 40) [] := by
  have h6 : L 6 = false := no (fun a => (h.o6 a).1) h3
  have r := h.rowA h0
  unfold curA listA at r
  rw [h6, h3] at r
  exact r
theorem RI.own43 (h : RI w0 pb v0 v1 v2 s0 s2 t L E w) (h6 : L 6 = false) (h3 : L 3 = true) : OwnS w w0.heap.size 9 (E 43) s0 := by
  have r := h.rowA (h.o3 h3)
  unfold curA listA at r
  rw [h6, h3] at r
  exact r
theorem RI.own46 (h : RI w0 pb v0 v1 v2 s0 s2 t L E w) (h6 : L 6 = true) : OwnS w w0.heap.size 9 (E 46) (s0 ++ [t]) := by
  have r := h.rowA (h.o3 (h.o6 h6).1)
  unfold curA listA at r
  rw [h6] at r
  exact r
theorem RI.own49 (h : RI w0 pb v0 v1 v2 s0 s2 t L E w) (h12 : L 12 = false) (h9 : L 9 = true) : OwnS w w0.heap.size 9 (E 49) [] := by
  have h15 : L 15 = false := no (fun a => (h.o15 a).1) h12
  have r := h.rowB h9
  unfold curB listB at r
  rw [h15, h12] at r
  exact r
theorem RI.own52 (h : RI w0 pb v0 v1 v2 s0 s2 t L E w) (h15 : L 15 = false) (h12 : L 12 = true) : OwnS w w0.heap.size 9 (E 52) s2 := by
  have r := h.rowB (h.o12 h12).2
  unfold curB listB at r
  rw [h15, h12] at r
  exact r
theorem RI.own55 (h : RI w0 pb v0 v1 v2 s0 s2 t L E w) (h15 : L 15 = true) : OwnS w w0.heap.size 9 (E 55) (s2 ++ [t]) := by
  have r := h.rowB (h.o12 (h.o15 h15).1).2
  unfold curB listB at r
  rw [h15] at r
  exact r
theorem own_far {B bb : Nat} {cs : List Value} {u : Value} {zs : List ByteArray} (h : OwnS w B 9 u zs) (hb : Blk w bb 24 cs) : ∀ k, u.ownBlock = some k → k ∉ [bb] := by
  intro k hk hm
  have hm : k = bb := by simpa using hm
  subst hm
  rcases h.form with ⟨rfl, _⟩ | ⟨g, cap, rest, rfl, _, hg, _⟩
  · cases hk
  · rw [own_slice] at hk
    injection hk with hk
    subst hk
    exact Blk.ne hg hb (by decide) rfl
end

theorem Lk.eval {T0 : Array Value} {l : Array Bool} {a : Act} (h : Lk T0 l a) {k : Nat} {v : Value} (h9 : k ≠ 9) (h4 : ¬ (40 ≤ k ∧ k ≤ 56)) (hT : T0[k]? = some v) : a.eval (.tmp k) = v := by
  show a.tmps.getD k undef = v
  rw [Array.getD_eq_getD_getElem?, h.far k h9 h4, hT]
  rfl

set_option maxHeartbeats 1600000 in
theorem more_region {id : Nat} {ops : Array Oper} {Q : Exit → Act → World → Prop} {T0 : Array Value} (w0 : World) (pb : Nat) (a0 a1 a2 : Option Addr) (n0 c0 n1 c1 n2 c2 : Nat) (s0 s2 : List ByteArray) (t : ByteArray)
    (hsize : ops.size = 19) (hb : edgesB ops = true)
    (op0 : OpIs ops 0 (.buildSlice 22 0 #[]) (some 40) [])
    (op1 : OpIs ops 1 (.fieldAddr 24 (.tmp 3) 0) (some 41) [])
    (op2 : OpIs ops 2 (.load 22 (.tmp 41)) (some 42) [1])
    (op3 : OpIs ops 3 (.call { callee := .builtin .append, args := #[.tmp 40, .tmp 42], argTypes := #[22, 22] }) (some 43) [0, 2])
    (op4 : OpIs ops 4 (.move (.tmp 2)) (some 44) [])
    (op5 : OpIs ops 5 (.buildSlice 22 1 #[(0, .tmp 44)]) (some 45) [4])
    (op6 : OpIs ops 6 (.call { callee := .builtin .append, args := #[.tmp 43, .tmp 45], argTypes := #[22, 22] }) (some 46) [3, 5])
    (op7 : OpIs ops 7 (.fieldAddr 24 (.tmp 3) 1) (some 47) [])
    (op8 : OpIs ops 8 (.load 22 (.tmp 47)) (some 48) [7])
    (op9 : OpIs ops 9 (.buildSlice 22 0 #[]) (some 49) [])
    (op10 : OpIs ops 10 (.fieldAddr 24 (.tmp 3) 2) (some 50) [])
    (op11 : OpIs ops 11 (.load 22 (.tmp 50)) (some 51) [10])
    (op12 : OpIs ops 12 (.call { callee := .builtin .append, args := #[.tmp 49, .tmp 51], argTypes := #[22, 22] }) (some 52) [9, 11, 6])
    (op13 : OpIs ops 13 (.move (.tmp 2)) (some 53) [])
    (op14 : OpIs ops 14 (.buildSlice 22 1 #[(0, .tmp 53)]) (some 54) [13])
    (op15 : OpIs ops 15 (.call { callee := .builtin .append, args := #[.tmp 52, .tmp 54], argTypes := #[22, 22] }) (some 55) [12, 14])
    (op16 : OpIs ops 16 (.build 24 #[(0, .tmp 46), (1, .tmp 48), (2, .tmp 55)]) (some 56) [6, 8, 15])
    (op17 : OpIs ops 17 (.alloc 24) (some 9) [])
    (op18 : OpIs ops 18 (.store 24 (.tmp 9) (.tmp 56)) (none) [0, 1, 2, 3, 4, 5, 6, 7, 8, 9, 10, 11, 12, 13, 14, 15, 16, 17])
    (hT : T0.size = 77) (t2 : T0[2]? = some (.string t)) (t3 : T0[3]? = some (.pointer (some ⟨pb, 0, none⟩)))
    (k0 : w0.cell? ⟨pb, 0, none⟩ = some (.slice a0 n0 c0)) (k1 : w0.cell? ⟨pb, 1, none⟩ = some (.slice a1 n1 c1)) (k2 : w0.cell? ⟨pb, 2, none⟩ = some (.slice a2 n2 c2)) (lt : pb < w0.heap.size)
    (r0 : SReads w0 a0 n0 c0 s0) (r2 : SReads w0 a2 n2 c2 s2) (hn0 : n0 ≤ 300) (hn2 : n2 ≤ 300)
    (hQ : ∀ E w', Fin w0 (.slice a1 n1 c1) s0 s2 t E w' → Q .normal ⟨filled T0 E, []⟩ w') :
    (Code.region id ops true).wp Try.prog Q ⟨T0, []⟩ w0 := by
  refine wp_region_any (by kernel_rfl) ?_
  refine wpAny_inv (MInv w0 pb (.slice a0 n0 c0) (.slice a1 n1 c1) (.slice a2 n2 c2) s0 s2 t T0) (fun l a w h => by rw [h.1.lsz, hsize]) (edges_of hb) ?_ ?_ ops.size _ _ _ ?_ ?_
  · intro l a w i o hI ho hl hd K hK
    have hi : i < 19 := by
      have := (Array.getElem?_eq_some_iff.1 ho).1
      omega
    have hk := hI.1
    have hLi : Lof l i = false := by
      have hs := hk.lsz
      unfold Lof
      rw [Array.getD_eq_getD_getElem?, Array.getElem?_eq_getElem (by omega)] at hl ⊢
      exact hl
    have hL' : Lof l 18 = false ∧ RI w0 pb (.slice a0 n0 c0) (.slice a1 n1 c1) (.slice a2 n2 c2) s0 s2 t (Lof l) (Eof a) w := by
      rcases hI.2 with h | ⟨hall, _⟩
      · exact h
      · rw [hall i hi] at hLi
        cases hLi
    obtain ⟨h18, h⟩ := hL'
    have e2 : a.eval (.tmp 2) = .string t := hk.eval (by omega) (by omega) t2
    have e3 : a.eval (.tmp 3) = .pointer (some ⟨pb, 0, none⟩) := hk.eval (by omega) (by omega) t3
    have q0 := (h.below.cell (p := ⟨pb, 0, none⟩) lt).trans k0
    have q1 := (h.below.cell (p := ⟨pb, 1, none⟩) lt).trans k1
    have q2 := (h.below.cell (p := ⟨pb, 2, none⟩) lt).trans k2
    have hw0 := h.below.size
    have hl0 := r0.len
    have hl2 := r2.len
    have hcase : i = 0 ∨ i = 1 ∨ i = 2 ∨ i = 3 ∨ i = 4 ∨ i = 5 ∨ i = 6 ∨ i = 7 ∨ i = 8 ∨ i = 9 ∨ i = 10 ∨ i = 11 ∨ i = 12 ∨ i = 13 ∨ i = 14 ∨ i = 15 ∨ i = 16 ∨ i = 17 ∨ i = 18 := by omega
    rcases hcase with rfl | rfl | rfl | rfl | rfl | rfl | rfl | rfl | rfl | rfl | rfl | rfl | rfl | rfl | rfl | rfl | rfl | rfl | rfl
    · obtain ⟨hop, hdst, hgd, hL⟩ := op0.use ho hd
      refine step_of hgd ?_
      refine wp_bs0 hop (run_bs0 w) ?_
      rw [hdst]
      exact hK _ _ (MInv.next hk (by omega) (by omega) h18 (h.st0 hLi))
    · obtain ⟨hop, hdst, hgd, hL⟩ := op1.use ho hd
      refine step_of hgd ?_
      refine wp_field hop e3 (run_field0 pb w) ?_
      rw [hdst]
      exact hK _ _ (MInv.next hk (by omega) (by omega) h18 (h.st1))
    · obtain ⟨hop, hdst, hgd, hL⟩ := op2.use ho hd
      refine step_of hgd ?_
      refine wp_load hop (h.p1 (hL 1 (by simp))) (run_loadS pb 0 n0 c0 a0 w q0) ?_
      rw [hdst]
      exact hK _ _ (MInv.next hk (by omega) (by omega) h18 (h.st2))
    · obtain ⟨hop, hdst, hgd, hL⟩ := op3.use ho hd
      refine step_of hgd ?_
      refine wp_app w (.tmp 40) (.tmp 42) hop w0.heap.size (Eof a 40) [] rfl (h.own40 hLi (hL 0 (by simp))) a0 n0 c0 s0 (h.p2 (hL 2 (by simp))) (r0.on h.below) (by simp; omega) hw0 ?_
      intro v' w' h1 h2 h3
      rw [hdst]
      exact hK _ _ (MInv.next hk (by omega) (by omega) h18 (h.st3 hLi (hL 0 (by simp)) h1 h2 h3))
    · obtain ⟨hop, hdst, hgd, hL⟩ := op4.use ho hd
      refine step_of hgd ?_
      refine wp_move hop ?_
      rw [hdst, e2]
      exact hK _ _ (MInv.next hk (by omega) (by omega) h18 (h.st4))
    · obtain ⟨hop, hdst, hgd, hL⟩ := op5.use ho hd
      refine step_of hgd ?_
      refine wp_bs1 hop (h.p4 (hL 4 (by simp))) (run_bs1 t w) ?_
      rw [hdst]
      exact hK _ _ (MInv.next hk (by omega) (by omega) h18 (h.st5))
    · obtain ⟨hop, hdst, hgd, hL⟩ := op6.use ho hd
      refine step_of hgd ?_
      obtain ⟨b, e, r⟩ := (h.one5 (hL 5 (by simp)) hLi).reads
      refine wp_app w (.tmp 43) (.tmp 45) hop w0.heap.size (Eof a 43) s0 rfl (h.own43 hLi (hL 3 (by simp))) _ 1 1 [t] e r (by omega) hw0 ?_
      intro v' w' h1 h2 h3
      rw [hdst]
      exact hK _ _ (MInv.next hk (by omega) (by omega) h18 (h.st6 hLi (hL 3 (by simp)) (hL 5 (by simp)) h1 h2 h3))
    · obtain ⟨hop, hdst, hgd, hL⟩ := op7.use ho hd
      refine step_of hgd ?_
      refine wp_field hop e3 (run_field1 pb w) ?_
      rw [hdst]
      exact hK _ _ (MInv.next hk (by omega) (by omega) h18 (h.st7))
    · obtain ⟨hop, hdst, hgd, hL⟩ := op8.use ho hd
      refine step_of hgd ?_
      refine wp_load hop (h.p7 (hL 7 (by simp))) (run_loadS pb 1 n1 c1 a1 w q1) ?_
      rw [hdst]
      exact hK _ _ (MInv.next hk (by omega) (by omega) h18 (h.st8 hLi))
    · obtain ⟨hop, hdst, hgd, hL⟩ := op9.use ho hd
      refine step_of hgd ?_
      refine wp_bs0 hop (run_bs0 w) ?_
      rw [hdst]
      exact hK _ _ (MInv.next hk (by omega) (by omega) h18 (h.st9 hLi))
    · obtain ⟨hop, hdst, hgd, hL⟩ := op10.use ho hd
      refine step_of hgd ?_
      refine wp_field hop e3 (run_field2 pb w) ?_
      rw [hdst]
      exact hK _ _ (MInv.next hk (by omega) (by omega) h18 (h.st10))
    · obtain ⟨hop, hdst, hgd, hL⟩ := op11.use ho hd
      refine step_of hgd ?_
      refine wp_load hop (h.p10 (hL 10 (by simp))) (run_loadS pb 2 n2 c2 a2 w q2) ?_
      rw [hdst]
      exact hK _ _ (MInv.next hk (by omega) (by omega) h18 (h.st11))
    · obtain ⟨hop, hdst, hgd, hL⟩ := op12.use ho hd
      refine step_of hgd ?_
      refine wp_app w (.tmp 49) (.tmp 51) hop w0.heap.size (Eof a 49) [] rfl (h.own49 hLi (hL 9 (by simp))) a2 n2 c2 s2 (h.p11 (hL 11 (by simp))) (r2.on h.below) (by simp; omega) hw0 ?_
      intro v' w' h1 h2 h3
      rw [hdst]
      exact hK _ _ (MInv.next hk (by omega) (by omega) h18 (h.st12 hLi (hL 6 (by simp)) (hL 9 (by simp)) h1 h2 h3))
    · obtain ⟨hop, hdst, hgd, hL⟩ := op13.use ho hd
      refine step_of hgd ?_
      refine wp_move hop ?_
      rw [hdst, e2]
      exact hK _ _ (MInv.next hk (by omega) (by omega) h18 (h.st13))
    · obtain ⟨hop, hdst, hgd, hL⟩ := op14.use ho hd
      refine step_of hgd ?_
      refine wp_bs1 hop (h.p13 (hL 13 (by simp))) (run_bs1 t w) ?_
      rw [hdst]
      exact hK _ _ (MInv.next hk (by omega) (by omega) h18 (h.st14))
    · obtain ⟨hop, hdst, hgd, hL⟩ := op15.use ho hd
      refine step_of hgd ?_
      obtain ⟨b, e, r⟩ := (h.one14 (hL 14 (by simp))).reads
      refine wp_app w (.tmp 52) (.tmp 54) hop w0.heap.size (Eof a 52) s2 rfl (h.own52 hLi (hL 12 (by simp))) _ 1 1 [t] e r (by omega) hw0 ?_
      intro v' w' h1 h2 h3
      rw [hdst]
      exact hK _ _ (MInv.next hk (by omega) (by omega) h18 (h.st15 hLi (hL 12 (by simp)) (hL 14 (by simp)) h1 h2 h3))
    · obtain ⟨hop, hdst, hgd, hL⟩ := op16.use ho hd
      refine step_of hgd ?_
      obtain ⟨x0, m0, d0, f0, _⟩ := (h.own46 (hL 6 (by simp))).parts
      obtain ⟨x2, m2, d2, f2, _⟩ := (h.own55 (hL 15 (by simp))).parts
      have f1 := h.p8 (hL 8 (by simp))
      refine wp_build hop f0 f1 f2 (run_build3 x0 a1 x2 m0 d0 n1 c1 m2 d2 w) ?_
      rw [hdst]
      have g := h.st16 (hL 6 (by simp)) (hL 8 (by simp)) (hL 15 (by simp))
      rw [f0, f1, f2] at g
      exact hK _ _ (MInv.next hk (by omega) (by omega) h18 g)
    · obtain ⟨hop, hdst, hgd, hL⟩ := op17.use ho hd
      refine step_of hgd ?_
      refine wp_alloc hop (run_allocF w) ?_
      rw [hdst]
      exact hK _ _ (MInv.next hk (by omega) (by omega) h18 (h.st17))
    · obtain ⟨hop, hdst, hgd, hL⟩ := op18.use ho hd
      refine step_of hgd ?_
      obtain ⟨x0, m0, d0, f0, _⟩ := (h.own46 (hL 6 (by simp))).parts
      obtain ⟨x2, m2, d2, f2, _⟩ := (h.own55 (hL 15 (by simp))).parts
      have f1 := h.p8 (hL 8 (by simp))
      have f3 := h.p16 (hL 16 (by simp))
      rw [f0, f1, f2] at f3
      obtain ⟨bb, f4, hB, hblk⟩ := h.box (hL 17 (by simp))
      refine wp_store hop f4 f3 (run_storeF bb x0 a1 x2 m0 d0 n1 c1 m2 d2 _ w hblk rfl) ?_
      rw [hdst]
      have hkept : Kept [bb] w (((w.setCell ⟨bb, 0, none⟩ (.slice x0 m0 d0)).setCell ⟨bb, 1, none⟩ (.slice a1 n1 c1)).setCell ⟨bb, 2, none⟩ (.slice x2 m2 d2)) := (((Kept.refl _ w).setCell _ _ (.inl (by simp))).setCell _ _ (.inl (by simp))).setCell _ _ (.inl (by simp))
      refine hK _ _ ⟨⟨by simp [hk.lsz], hk.tsz, hk.dfs, hk.far⟩, .inr ⟨fun k hlt => ?_, bb, f4, ?_, (h.own46 (hL 6 (by simp))).kept hkept (own_far (h.own46 (hL 6 (by simp))) hblk), (h.own55 (hL 15 (by simp))).kept hkept (own_far (h.own55 (hL 15 (by simp))) hblk), ((h.below.setCell hB _).setCell hB _).setCell hB _⟩⟩
      · unfold Lof
        rw [Array.getD_eq_getD_getElem?, Array.getElem?_setIfInBounds]
        by_cases he : 18 = k
        · subst he
          simp [hk.lsz]
        · rw [if_neg he]
          have := hL k (by simp; omega)
          rw [Lof, Array.getD_eq_getD_getElem?] at this
          exact this
      · have g := ((hblk.set 0 (.slice x0 m0 d0)).set 1 (.slice a1 n1 c1)).set 2 (.slice x2 m2 d2)
        show Blk _ bb _ [Eof a 46, _, Eof a 55]
        rw [show Eof a 46 = .slice x0 m0 d0 from f0, show Eof a 55 = .slice x2 m2 d2 from f2]
        exact g
  · intro l a w hI hall
    rw [hsize] at hall
    obtain ⟨hk, ⟨h18, _⟩ | ⟨_, hf⟩⟩ := hI
    · have := hall 18 (by omega)
      unfold Lof at h18
      rw [h18] at this
      cases this
    · have e := filled_eq hk hT
      have := hQ (Eof a) w hf
      rw [← e] at this
      have hd := hk.dfs
      cases a
      simp only at hd
      subst hd
      exact this
  · rw [hsize]
    refine ⟨⟨by simp, hT, rfl, fun _ _ _ => rfl⟩, .inl ⟨by simp [Lof, Array.getD_eq_getD_getElem?], RI.init (fun k => ?_) (Below.refl _ w0).drew⟩⟩
    unfold Lof
    rw [Array.getD_eq_getD_getElem?, Array.getElem?_replicate]
    split <;> rfl
  · simp
end Go.Proofs.Ytpaehifgccfpoaa
