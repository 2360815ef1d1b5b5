/-
  The region of PastOwn's law, whole: whatever order is drawn, the copies are laid, and what was there stays.
-/
import Derived.Test.YtkfoakabdhllkaaCr
namespace Go.Proofs.Ytkfoakabdhllkaa
open Go.RowKit

def filledO (T0 : Array Value) (E : Nat → Value) : Array Value := (((((((((((((T0)).setIfInBounds 4 (E 4)).setIfInBounds 22 (E 22)).setIfInBounds 23 (E 23)).setIfInBounds 24 (E 24)).setIfInBounds 25 (E 25)).setIfInBounds 26 (E 26)).setIfInBounds 27 (E 27)).setIfInBounds 28 (E 28)).setIfInBounds 29 (E 29)).setIfInBounds 30 (E 30)).setIfInBounds 31 (E 31)).setIfInBounds 32 (E 32)
theorem filledO_eq {T0 : Array Value} {l : Array Bool} {a : Act} (hk : LkO T0 l a) (hT : T0.size = 125) : a.tmps = filledO T0 (EofO a) := by
  have h2 := hk.tsz
  have he : ∀ k, k < 125 → a.tmps[k]? = some (EofO a k) := fun k hlt => by
    unfold EofO
    rw [Array.getD_eq_getD_getElem?, Array.getElem?_eq_getElem (by omega)]
    rfl
  apply Array.ext_getElem?
  intro k
  unfold filledO
  simp only [Array.getElem?_setIfInBounds, Array.size_setIfInBounds, hT]
  by_cases h9 : k = 4 ∨ (22 ≤ k ∧ k ≤ 32)
  · have hlt : k < 125 := by omega
    have hcase : k = 4 ∨ k = 22 ∨ k = 23 ∨ k = 24 ∨ k = 25 ∨ k = 26 ∨ k = 27 ∨ k = 28 ∨ k = 29 ∨ k = 30 ∨ k = 31 ∨ k = 32 := by omega
    rw [he k hlt]
    rcases hcase with rfl | rfl | rfl | rfl | rfl | rfl | rfl | rfl | rfl | rfl | rfl | rfl <;> simp
  · rw [hk.far k (fun e => h9 (.inl e)) (fun e => h9 (.inr e))]
    have hns : 4 ≠ k ∧ 22 ≠ k ∧ 23 ≠ k ∧ 24 ≠ k ∧ 25 ≠ k ∧ 26 ≠ k ∧ 27 ≠ k ∧ 28 ≠ k ∧ 29 ≠ k ∧ 30 ≠ k ∧ 31 ≠ k ∧ 32 ≠ k := by omega
    simp [hns]
theorem OpIs.useO {ops : Array Oper} {i : Nat} {op : Op} {dst : Option Tmp} {deps : List Nat} (h : OpIs ops i op dst deps) {o : Oper} (ho : ops[i]? = some o) {l : Array Bool}
    (hd : ∀ e ∈ o.after, Region.binds .any e = true → l.getD e.on false = true) : o.op = op ∧ o.dst = dst ∧ o.guard = none ∧ ∀ d ∈ deps, LofO l d = true := by
  obtain ⟨o', ho', h1, h2, h3, h4⟩ := h
  rw [ho] at ho'
  injection ho' with e
  subst e
  refine ⟨h1, h2, h3, fun d hdd => ?_⟩
  obtain ⟨e, he, hb⟩ := Array.any_eq_true'.1 (List.all_eq_true.1 h4 d hdd)
  rw [Bool.and_eq_true] at hb
  have e1 : e.on = d := Nat.eq_of_beq_eq_true hb.2
  rw [← e1]
  exact hd e he hb.1
theorem stepO {ops : Array Oper} {o : Oper} {a : Act} {w : World} {K : Act → World → Prop} {Q : Exit → Act → World → Prop} (hg : o.guard = none) (h : o.wp Try.prog a w K Q) :
    if Region.wanted o (yielded ops a.tmps) = true then o.wp Try.prog a w K Q else K (a.put o.dst undef) w := by
  rw [if_pos (by simp [Region.wanted, hg])]
  exact h
theorem RO.init {w0 : World} {pb id : Nat} {v1 v2 : Value} {vec : List Int} {tags : List ByteArray} {L : Nat → Bool} {E : Nat → Value} {w : World} (hL : ∀ k, L k = false) (hb : Below w0.heap.size w0 w) : RO w0 pb id v1 v2 vec tags L E w := by
  have no : ∀ k, L k = true → False := fun k h => by rw [hL k] at h; cases h
  exact ⟨hb, fun h => (no _ h).elim, fun h => (no _ h).elim, fun h => (no _ h).elim, fun h => (no _ h).elim, fun h => (no _ h).elim, fun h => (no _ h).elim, fun h => (no _ h).elim, fun h => (no _ h).elim, fun h => (no _ h).elim, fun h => (no _ h).elim, fun h => (no _ h).elim, fun h => (no _ h).elim, fun h => (no _ h).elim⟩
theorem LkO.eval {T0 : Array Value} {l : Array Bool} {a : Act} (h : LkO T0 l a) {k : Nat} {v : Value} (h9 : k ≠ 4) (h4 : ¬ (22 ≤ k ∧ k ≤ 32)) (hT : T0[k]? = some v) : a.eval (.tmp k) = v := by
  show a.tmps.getD k undef = v
  rw [Array.getD_eq_getD_getElem?, h.far k h9 h4, hT]
  rfl
theorem own_form {w : World} {lo n : Nat} {t : TypeId} {v : Value} {xs : List Value} (h : w.ownsRow lo t 1 v n xs) : ∃ a c, v = .slice a n c := by
  rcases h.2 with ⟨rfl, rfl⟩ | ⟨g, cap, cur, rfl, _⟩
  · exact ⟨none, 0, rfl⟩
  · exact ⟨_, cap, rfl⟩
/-- What reads in a world as a list of such cells. -/
def ReadsO (w : World) (a : Option Addr) (n c : Nat) (cs : List Value) : Prop := cs.length = n ∧ (a = none → n = 0 ∧ c = 0) ∧ (n = 0 ∨ ∃ b off, a = some ⟨b, off, none⟩ ∧ b < w.heap.size ∧ ∀ i, i < n → w.cell? ⟨b, off + i, none⟩ = cs[i]?)
theorem ReadsO.on {w w' : World} {a : Option Addr} {n c : Nat} {cs : List Value} (h : ReadsO w a n c cs) (hb : Below w.heap.size w w') : cs.length = n ∧ (a = none → n = 0 ∧ c = 0) ∧ (n = 0 ∨ ∃ b off, a = some ⟨b, off, none⟩ ∧ ∀ i, i < n → w'.cell? ⟨b, off + i, none⟩ = cs[i]?) := by
  obtain ⟨h1, h2, h3⟩ := h
  refine ⟨h1, h2, ?_⟩
  rcases h3 with h3 | ⟨b, off, e, hlt, h3⟩
  · exact .inl h3
  · exact .inr ⟨b, off, e, fun i hi => (hb.cell (p := ⟨b, _, none⟩) hlt).trans (h3 i hi)⟩

set_option maxHeartbeats 3200000 in
theorem own_region {rid : Nat} {ops : Array Oper} {Q : Exit → Act → World → Prop} {T0 : Array Value} (w0 : World) (pb id : Nat) (a1 a2 : Option Addr) (n1 c1 n2 c2 : Nat) (vec : List Int) (tags : List ByteArray)
    (hsize : ops.size = 13) (hb : edgesB ops = true)
    (op0 : OpIs ops 0 (.fieldAddr 37 (.tmp 1) 0) (some 22) [])
    (op1 : OpIs ops 1 (.load 33 (.tmp 22)) (some 23) [0])
    (op2 : OpIs ops 2 (.buildSlice 34 0 #[]) (some 24) [])
    (op3 : OpIs ops 3 (.fieldAddr 37 (.tmp 1) 1) (some 25) [])
    (op4 : OpIs ops 4 (.load 34 (.tmp 25)) (some 26) [3])
    (op5 : OpIs ops 5 (.call { callee := .builtin .append, args := #[.tmp 24, .tmp 26], argTypes := #[34, 34] }) (some 27) [2, 4])
    (op6 : OpIs ops 6 (.buildSlice 35 0 #[]) (some 28) [])
    (op7 : OpIs ops 7 (.fieldAddr 37 (.tmp 1) 2) (some 29) [])
    (op8 : OpIs ops 8 (.load 35 (.tmp 29)) (some 30) [7])
    (op9 : OpIs ops 9 (.call { callee := .builtin .append, args := #[.tmp 28, .tmp 30], argTypes := #[35, 35] }) (some 31) [6, 8])
    (op10 : OpIs ops 10 (.build 37 #[(0, .tmp 23), (1, .tmp 27), (2, .tmp 31)]) (some 32) [1, 5, 9])
    (op11 : OpIs ops 11 (.alloc 37) (some 4) [])
    (op12 : OpIs ops 12 (.store 37 (.tmp 4) (.tmp 32)) (none) [0, 1, 2, 3, 4, 5, 6, 7, 8, 9, 10, 11])
    (hT : T0.size = 125) (t1 : T0[1]? = some (.pointer (some ⟨pb, 0, none⟩)))
    (k0 : w0.cell? ⟨pb, 0, none⟩ = some (.int .u32 (id : Int))) (k1 : w0.cell? ⟨pb, 1, none⟩ = some (.slice a1 n1 c1)) (k2 : w0.cell? ⟨pb, 2, none⟩ = some (.slice a2 n2 c2)) (lt : pb < w0.heap.size)
    (r1 : ReadsO w0 a1 n1 c1 (vec.map (Value.int .i32))) (r2 : ReadsO w0 a2 n2 c2 (tags.map Value.string)) (hn1 : n1 * 4 ≤ 140737488351232) (hn2 : n2 * 16 ≤ 140737488351232)
    (hQ : ∀ E w', FinO w0 id vec tags E w' → Q .normal ⟨filledO T0 E, []⟩ w') :
    (Code.region rid ops true).wp Try.prog Q ⟨T0, []⟩ w0 := by
  refine wp_region_any (by kernel_rfl) ?_
  refine wpAny_inv (MInvO w0 pb id (.slice a1 n1 c1) (.slice a2 n2 c2) vec tags T0) (fun l a w h => by rw [h.1.lsz, hsize]) (edges_of hb) ?_ ?_ ops.size _ _ _ ?_ ?_
  · intro l a w i o hI ho hl hd K hK
    have hi : i < 13 := by
      have := (Array.getElem?_eq_some_iff.1 ho).1
      omega
    have hk := hI.1
    have hLi : LofO l i = false := by
      have hs := hk.lsz
      unfold LofO
      rw [Array.getD_eq_getD_getElem?, Array.getElem?_eq_getElem (by omega)] at hl ⊢
      exact hl
    have hL' : LofO l 12 = false ∧ RO w0 pb id (.slice a1 n1 c1) (.slice a2 n2 c2) vec tags (LofO l) (EofO a) w := by
      rcases hI.2 with h | ⟨hall, _⟩
      · exact h
      · rw [hall i hi] at hLi
        cases hLi
    obtain ⟨h12, h⟩ := hL'
    have e1 : a.eval (.tmp 1) = .pointer (some ⟨pb, 0, none⟩) := hk.eval (by omega) (by omega) t1
    have q0 := (h.below.cell (p := ⟨pb, 0, none⟩) lt).trans k0
    have q1 := (h.below.cell (p := ⟨pb, 1, none⟩) lt).trans k1
    have q2 := (h.below.cell (p := ⟨pb, 2, none⟩) lt).trans k2
    have hw0 := h.below.size
    have hcase : i = 0 ∨ i = 1 ∨ i = 2 ∨ i = 3 ∨ i = 4 ∨ i = 5 ∨ i = 6 ∨ i = 7 ∨ i = 8 ∨ i = 9 ∨ i = 10 ∨ i = 11 ∨ i = 12 := by omega
    rcases hcase with rfl | rfl | rfl | rfl | rfl | rfl | rfl | rfl | rfl | rfl | rfl | rfl | rfl
    · obtain ⟨hop, hdst, hgd, hL⟩ := op0.useO ho hd
      refine stepO hgd (wo_field hop e1 (o_field0 pb w) ?_)
      rw [hdst]
      exact hK _ _ (MInvO.next hk (by omega) (by omega) h12 h.st0)
    · obtain ⟨hop, hdst, hgd, hL⟩ := op1.useO ho hd
      refine stepO hgd (wo_load hop (h.p0 (hL 0 (by simp))) (o_load0 pb id w q0) ?_)
      rw [hdst]
      exact hK _ _ (MInvO.next hk (by omega) (by omega) h12 (h.st1 (noO (fun a => (h.o10 a).1) hLi)))
    · obtain ⟨hop, hdst, hgd, hL⟩ := op2.useO ho hd
      refine stepO hgd (wo_bs0 hop (o_bsI w) ?_)
      rw [hdst]
      exact hK _ _ (MInvO.next hk (by omega) (by omega) h12 h.st2)
    · obtain ⟨hop, hdst, hgd, hL⟩ := op3.useO ho hd
      refine stepO hgd (wo_field hop e1 (o_field1 pb w) ?_)
      rw [hdst]
      exact hK _ _ (MInvO.next hk (by omega) (by omega) h12 h.st3)
    · obtain ⟨hop, hdst, hgd, hL⟩ := op4.useO ho hd
      refine stepO hgd (wo_load hop (h.p3 (hL 3 (by simp))) (o_load1 pb n1 c1 a1 w q1) ?_)
      rw [hdst]
      exact hK _ _ (MInvO.next hk (by omega) (by omega) h12 h.st4)
    · obtain ⟨hop, hdst, hgd, hL⟩ := op5.useO ho hd
      obtain ⟨f1, f2, f3⟩ := r1.on h.below
      refine stepO hgd (wp_app8 w (.tmp 24) (.tmp 26) 34 21 hop Try.underlying34 (.int .i32 0) 4 i32_info8 rfl w0.heap.size (EofO a 24) rfl (h.rowA (hL 2 (by simp)) hLi) a1 n1 c1 (vec.map (Value.int .i32)) (h.p4 (hL 4 (by simp))) f1 f2 f3 (by simp [Value.oneCell']) (by omega) (by omega) hw0 ?_)
      intro v' w' g1 g2
      rw [hdst]
      rw [List.length_map] at f1
      rw [← f1] at g1
      exact hK _ _ (MInvO.next hk (by omega) (by omega) h12 (h.st5 hLi (hL 2 (by simp)) (noO (fun a => (h.o10 a).2.1) hLi) g1 g2))
    · obtain ⟨hop, hdst, hgd, hL⟩ := op6.useO ho hd
      refine stepO hgd (wo_bs0 hop (o_bsS w) ?_)
      rw [hdst]
      exact hK _ _ (MInvO.next hk (by omega) (by omega) h12 h.st6)
    · obtain ⟨hop, hdst, hgd, hL⟩ := op7.useO ho hd
      refine stepO hgd (wo_field hop e1 (o_field2 pb w) ?_)
      rw [hdst]
      exact hK _ _ (MInvO.next hk (by omega) (by omega) h12 h.st7)
    · obtain ⟨hop, hdst, hgd, hL⟩ := op8.useO ho hd
      refine stepO hgd (wo_load hop (h.p7 (hL 7 (by simp))) (o_load2 pb n2 c2 a2 w q2) ?_)
      rw [hdst]
      exact hK _ _ (MInvO.next hk (by omega) (by omega) h12 h.st8)
    · obtain ⟨hop, hdst, hgd, hL⟩ := op9.useO ho hd
      obtain ⟨f1, f2, f3⟩ := r2.on h.below
      refine stepO hgd (wp_app8 w (.tmp 28) (.tmp 30) 35 9 hop Try.underlying35 (.string ⟨#[]⟩) 16 str_info8 rfl w0.heap.size (EofO a 28) rfl (h.rowB (hL 6 (by simp)) hLi) a2 n2 c2 (tags.map Value.string) (h.p8 (hL 8 (by simp))) f1 f2 f3 (by simp [Value.oneCell']) (by omega) (by omega) hw0 ?_)
      intro v' w' g1 g2
      rw [hdst]
      rw [List.length_map] at f1
      rw [← f1] at g1
      exact hK _ _ (MInvO.next hk (by omega) (by omega) h12 (h.st9 hLi (hL 6 (by simp)) (noO (fun a => (h.o10 a).2.2) hLi) g1 g2))
    · obtain ⟨hop, hdst, hgd, hL⟩ := op10.useO ho hd
      obtain ⟨x1, d1, f1⟩ := own_form (h.rowA2 (hL 5 (by simp)))
      obtain ⟨x2, d2, f2⟩ := own_form (h.rowB2 (hL 9 (by simp)))
      have f0 := h.p1 (hL 1 (by simp))
      refine stepO hgd (wo_build hop f0 f1 f2 (o_build id x1 x2 _ d1 _ d2 w) ?_)
      rw [hdst]
      have g := h.st10 ⟨hL 1 (by simp), hL 5 (by simp), hL 9 (by simp)⟩
      rw [f0, f1, f2] at g
      exact hK _ _ (MInvO.next hk (by omega) (by omega) h12 g)
    · obtain ⟨hop, hdst, hgd, hL⟩ := op11.useO ho hd
      refine stepO hgd (wo_alloc hop (o_alloc w) ?_)
      rw [hdst]
      exact hK _ _ (MInvO.next hk (by omega) (by omega) h12 h.st11)
    · obtain ⟨hop, hdst, hgd, hL⟩ := op12.useO ho hd
      have oA := h.rowA2 (hL 5 (by simp))
      have oB := h.rowB2 (hL 9 (by simp))
      obtain ⟨x1, d1, f1⟩ := own_form oA
      obtain ⟨x2, d2, f2⟩ := own_form oB
      have f0 := h.p1 (hL 1 (by simp))
      have f3 := h.p10 (hL 10 (by simp))
      rw [f0, f1, f2] at f3
      rw [f1] at oA
      rw [f2] at oB
      obtain ⟨bb, f4, hB, hblk⟩ := h.box (hL 11 (by simp))
      refine stepO hgd (wo_store hop f4 f3 (o_store bb id x1 x2 _ d1 _ d2 w hblk) ?_)
      rw [hdst]
      have hkept : Kept [bb] w (((w.setCell ⟨bb, 0, none⟩ (.int .u32 (id : Int))).setCell ⟨bb, 1, none⟩ (.slice x1 vec.length d1)).setCell ⟨bb, 2, none⟩ (.slice x2 tags.length d2)) := (((Kept.refl _ w).setCell _ _ (.inl (by simp))).setCell _ _ (.inl (by simp))).setCell _ _ (.inl (by simp))
      have hF : ∀ x ∈ [bb], w0.heap.size ≤ x := fun x hx => by rw [List.mem_singleton.1 hx]; exact hB
      refine hK _ _ ⟨⟨by simp [hk.lsz], hk.tsz, hk.dfs, hk.far⟩, .inr ⟨fun k hlt => ?_, bb, x1, vec.length, d1, x2, tags.length, d2, f4, hB, ((hblk.set 0 _).set 1 _).set 2 _, own_keep oA hkept (fun g hg hh => row_blk8 oA hblk (by decide) (by rw [hg]; simpa using hh)), own_keep oB hkept (fun g hg hh => row_blk8 oB hblk (by decide) (by rw [hg]; simpa using hh)), h.below.trans (hkept.below hF hw0)⟩⟩
      unfold LofO
      rw [Array.getD_eq_getD_getElem?, Array.getElem?_setIfInBounds]
      by_cases he : 12 = k
      · subst he
        simp [hk.lsz]
      · rw [if_neg he]
        have := hL k (by simp; omega)
        rw [LofO, Array.getD_eq_getD_getElem?] at this
        exact this
  · intro l a w hI hall
    rw [hsize] at hall
    obtain ⟨hk, ⟨h12, _⟩ | ⟨_, hf⟩⟩ := hI
    · have := hall 12 (by omega)
      unfold LofO at h12
      rw [h12] at this
      cases this
    · have e := filledO_eq hk hT
      have := hQ (EofO a) w hf
      rw [← e] at this
      have hd := hk.dfs
      cases a
      simp only at hd
      subst hd
      exact this
  · rw [hsize]
    refine ⟨⟨by simp, hT, rfl, fun _ _ _ => rfl⟩, .inl ⟨by simp [LofO, Array.getD_eq_getD_getElem?], RO.init (fun k => ?_) (Below.refl _ w0).drew⟩⟩
    unfold LofO
    rw [Array.getD_eq_getD_getElem?, Array.getElem?_replicate]
    split <;> rfl
  · simp
end Go.Proofs.Ytkfoakabdhllkaa
