/-
  Layer 14: the program's cursors and their table as they lie.
-/
import Derived.Test.YtadkfedglkhgjaaQra
import Derived.Test.YtadkfedglkhgjaaQrc
import Derived.Test.YtadkfedglkhgjaaQk
import Derived.Test.YtadkfedglkhgjaaMe
import Derived.Test.YtadkfedglkhgjaaProg
namespace Go.Proofs.Ytadkfedglkhgjaa
open Go.RowKit Go.ChangeShapes Go.WideShapes Go.ChangeAt Go.Maps

/-- What is asked for, as it lies: the slices of a vector and of a filter's lists. -/
structure QryL where
  pv : Option Addr × Nat × Nat
  p0 : Option Addr × Nat × Nat
  p1 : Option Addr × Nat × Nat
  p2 : Option Addr × Nat × Nat
  q : QryV
def QryL.v (x : QryL) : Value := .slice x.pv.1 x.pv.2.1 x.pv.2.2
def QryL.f0 (x : QryL) : Value := .slice x.p0.1 x.p0.2.1 x.p0.2.2
def QryL.f1 (x : QryL) : Value := .slice x.p1.1 x.p1.2.1 x.p1.2.2
def QryL.f2 (x : QryL) : Value := .slice x.p2.1 x.p2.2.1 x.p2.2.2
/-- It reads. -/
structure QryL.In (ok : Nat → Prop) (w : World) (x : QryL) : Prop where
  vec : Rd ok w shVec [.slice x.pv.1 x.pv.2.1 x.pv.2.2] x.q.vec
  all : Rd ok w shTags [.slice x.p0.1 x.p0.2.1 x.p0.2.2] x.q.all
  any : Rd ok w shTags [.slice x.p1.1 x.p1.2.1 x.p1.2.2] x.q.any
  none : Rd ok w shTags [.slice x.p2.1 x.p2.2.1 x.p2.2.2] x.q.none
theorem QryL.In.on {ok : Nat → Prop} {w w' : World} {x : QryL} (h : x.In ok w) (hb : Below w.heap.size w w') : x.In ok w' := ⟨h.vec.on hb, h.all.on hb, h.any.on hb, h.none.on hb⟩
theorem QryL.In.under {B : Nat} {w w' : World} {x : QryL} (h : x.In (· < B) w) (hb : Below B w w') : x.In (· < B) w' := ⟨h.vec.under hb, h.all.under hb, h.any.under hb, h.none.under hb⟩
theorem QryL.In.mono {ok ok' : Nat → Prop} {w : World} {x : QryL} (h : x.In ok w) (hk : ∀ k, ok k → k < w.heap.size → ok' k) : x.In ok' w := ⟨h.vec.mono hk, h.all.mono hk, h.any.mono hk, h.none.mono hk⟩
/-- It lies in rows of the call's own. -/
structure StrsOwn (lo : Nat) (w : World) (p : Option Addr × Nat × Nat) (xs : List ByteArray) : Prop where
  row : w.ownsRow lo 9 1 (.slice p.1 p.2.1 p.2.2) xs.length (xs.map Value.string)
  wf : ∀ s ∈ xs, s.size ≤ 140737488351232
  len : xs.length * 16 ≤ 140737488351232
structure QryL.Own (lo : Nat) (w : World) (x : QryL) : Prop where
  vec : w.ownsRow lo 21 1 (.slice x.pv.1 x.pv.2.1 x.pv.2.2) x.q.vec.length (x.q.vec.map (Value.int .i32))
  wv : ∀ a ∈ x.q.vec, (Lit.int .i32 a).wf = true
  lv : x.q.vec.length * 4 ≤ 140737488351232
  all : StrsOwn lo w x.p0 x.q.all
  any : StrsOwn lo w x.p1 x.q.any
  none : StrsOwn lo w x.p2 x.q.none
/-- The blocks of its rows. -/
def QryL.bs (x : QryL) : List Nat := ownB (.slice x.pv.1 x.pv.2.1 x.pv.2.2) ++ (ownB (.slice x.p0.1 x.p0.2.1 x.p0.2.2) ++ (ownB (.slice x.p1.1 x.p1.2.1 x.p1.2.2) ++ ownB (.slice x.p2.1 x.p2.2.1 x.p2.2.2)))
theorem QryL.mem_bs {x : QryL} {g : Nat} : g ∈ x.bs ↔ (Value.slice x.pv.1 x.pv.2.1 x.pv.2.2).ownBlock = some g ∨ (Value.slice x.p0.1 x.p0.2.1 x.p0.2.2).ownBlock = some g ∨ (Value.slice x.p1.1 x.p1.2.1 x.p1.2.2).ownBlock = some g ∨ (Value.slice x.p2.1 x.p2.2.1 x.p2.2.2).ownBlock = some g := by
  unfold QryL.bs
  simp only [List.mem_append, mem_ownB]
section
variable {w w' : World} {lo : Nat} {x : QryL} {F : List Nat} {p : Option Addr × Nat × Nat} {xs : List ByteArray}
theorem StrsOwn.kept (h : StrsOwn lo w p xs) (hk : Kept F w w') (hF : ∀ k, (Value.slice p.1 p.2.1 p.2.2).ownBlock = some k → k ∉ F) : StrsOwn lo w' p xs := ⟨hk.own h.row hF, h.wf, h.len⟩
theorem QryL.Own.kept (h : x.Own lo w) (hk : Kept F w w') (hF : ∀ g ∈ x.bs, g ∉ F) : x.Own lo w' :=
  ⟨hk.own h.vec fun k e => hF k (QryL.mem_bs.2 (.inl e)), h.wv, h.lv, h.all.kept hk fun k e => hF k (QryL.mem_bs.2 (.inr (.inl e))), h.any.kept hk fun k e => hF k (QryL.mem_bs.2 (.inr (.inr (.inl e)))), h.none.kept hk fun k e => hF k (QryL.mem_bs.2 (.inr (.inr (.inr e))))⟩
theorem QryL.Own.on (h : x.Own lo w) (hb : Below w.heap.size w w') : x.Own lo w' := h.kept (F := []) (Kept.of_below hb (Nat.le_refl _)) (by simp)
theorem QryL.Own.inn (h : x.Own lo w) {ok : Nat → Prop} (hok : ∀ g ∈ x.bs, ok g) : x.In ok w :=
  ⟨own_ints h.vec (fun g e => hok g (QryL.mem_bs.2 (.inl e))) h.wv (by decide) h.lv, own_strs h.all.row (fun g e => hok g (QryL.mem_bs.2 (.inr (.inl e)))) h.all.wf (by decide) h.all.len, own_strs h.any.row (fun g e => hok g (QryL.mem_bs.2 (.inr (.inr (.inl e))))) h.any.wf (by decide) h.any.len, own_strs h.none.row (fun g e => hok g (QryL.mem_bs.2 (.inr (.inr (.inr e))))) h.none.wf (by decide) h.none.len⟩
theorem QryL.Own.lt (h : x.Own lo w) : ∀ g ∈ x.bs, lo ≤ g ∧ g < w.heap.size := by
  intro g hg
  rcases QryL.mem_bs.1 hg with e | e | e | e
  · exact World.ownsRow.lt h.vec g e
  · exact World.ownsRow.lt h.all.row g e
  · exact World.ownsRow.lt h.any.row g e
  · exact World.ownsRow.lt h.none.row g e
theorem QryL.Own.not_blk (h : x.Own lo w) {g : Nat} {t : TypeId} {cs : List Value} (hb : Blk w g t cs) (h1 : 21 ≠ t) (h2 : 9 ≠ t) : g ∉ x.bs := by
  intro hg
  rcases QryL.mem_bs.1 hg with e | e | e | e
  · exact row_blk8 h.vec hb h1 e
  · exact row_blk8 h.all.row hb h2 e
  · exact row_blk8 h.any.row hb h2 e
  · exact row_blk8 h.none.row hb h2 e
theorem row_not_map {lo k n b : Nat} {t tk : TypeId} {P : Program} {v : Value} {xs : List Value} {E : List (Lit × Value)} (h : w.ownsRow lo t k v n xs) (hm : MapE w P tk b E) : v.ownBlock ≠ some b := by
  intro hg
  obtain ⟨es, c, hh'⟩ := hm.obj
  rcases h.2 with ⟨rfl, _⟩ | ⟨a, cap, cur, rfl, _, hh, _⟩
  · cases hg
  cases hg
  rw [hh] at hh'
  cases hh'
theorem QryL.Own.not_map (h : x.Own lo w) {b : Nat} {tk : TypeId} {P : Program} {E : List (Lit × Value)} (hm : MapE w P tk b E) : b ∉ x.bs := by
  intro hg
  rcases QryL.mem_bs.1 hg with e | e | e | e
  · exact row_not_map h.vec hm e
  · exact row_not_map h.all.row hm e
  · exact row_not_map h.any.row hm e
  · exact row_not_map h.none.row hm e
end

/-- A cursor as it lies: its block, its rows, its plain words. -/
structure CurL where
  g : Nat
  l : QryL
  c : CurV
def EndV.cells (e : EndV) : List Value := [.bool e.has, .int .i64 e.dist, .int .u32 e.id]
def CurL.cells (t : CurL) : List Value := [.int .u64 (t.c.owner : Int), .int .i64 t.c.pin, t.l.v, t.l.f0, t.l.f1, t.l.f2, .int .u32 (t.c.used : Int), .int .u32 (t.c.told : Int), .bool t.c.ahead.has, .int .i64 t.c.ahead.dist, .int .u32 t.c.ahead.id, .bool t.c.last.has, .int .i64 t.c.last.dist, .int .u32 t.c.last.id]
structure CurL.At (w : World) (lo : Nat) (t : CurL) : Prop where
  blk : Blk w t.g 85 t.cells
  glo : lo ≤ t.g
  rows : t.l.Own lo w
  hq : t.c.q = t.l.q
  n32 : t.c.n < 4294967296
  o64 : t.c.owner < 18446744073709551616
  u32 : t.c.used < 4294967296
  t32 : t.c.told < 4294967296
def fpC (t : CurL) : List Nat := t.g :: t.l.bs
theorem mem_fpC {t : CurL} {b : Nat} : b ∈ fpC t ↔ b = t.g ∨ b ∈ t.l.bs := by simp [fpC]
def cuE (L : List CurL) : List (Lit × Value) := L.map fun t => (key32 t.c.n, .pointer (some ⟨t.g, 0, none⟩))
structure TabQ (w : World) (lo x m : Nat) (L : List CurL) (last idle : Nat) : Prop where
  blk : Blk w x 76 [.int .u32 (idle : Int), .map (some m), .int .u32 (last : Int)]
  xlo : lo ≤ x
  mlo : lo ≤ m
  map : MapE w Try.prog 22 m (cuE L)
  each : ∀ t ∈ L, t.At w lo
  apart : L.Pairwise fun s t => s.g ≠ t.g
  eight : L.length ≤ 8
  l32 : last < 4294967296
  i32 : idle < 4294967296
def fpQ (x m : Nat) (L : List CurL) : List Nat := x :: m :: L.flatMap fpC
theorem mem_fpQ {x m b : Nat} {L : List CurL} : b ∈ fpQ x m L ↔ b = x ∨ b = m ∨ ∃ t ∈ L, b ∈ fpC t := by simp [fpQ]
/-- The program's table in plain words: in block x; F are all its blocks. -/
def CIs (w : World) (lo x : Nat) (F : List Nat) (s : CTab) : Prop := ∃ (m : Nat) (L : List CurL), TabQ w lo x m L s.last s.idle ∧ s.cs = L.map (·.c) ∧ F = fpQ x m L

section
variable {w w' : World} {lo x m last idle : Nat} {F G : List Nat} {s : CTab} {L : List CurL} {t : CurL}
theorem CurL.At.kept (h : t.At w lo) (hk : Kept G w w') (hG : ∀ b ∈ fpC t, b ∉ G) : t.At w' lo :=
  ⟨hk.blk h.blk (hG _ (mem_fpC.2 (.inl rfl))), h.glo, h.rows.kept hk fun g hg => hG g (mem_fpC.2 (.inr hg)), h.hq, h.n32, h.o64, h.u32, h.t32⟩
theorem CurL.At.lt (h : t.At w lo) : ∀ b ∈ fpC t, lo ≤ b ∧ b < w.heap.size := by
  intro b hb
  rcases mem_fpC.1 hb with rfl | hb
  · exact ⟨h.glo, h.blk.lt⟩
  · exact h.rows.lt b hb
theorem TabQ.kept (h : TabQ w lo x m L last idle) (hk : Kept G w w') (hG : ∀ b ∈ fpQ x m L, b ∉ G) : TabQ w' lo x m L last idle :=
  ⟨hk.blk h.blk (hG _ (mem_fpQ.2 (.inl rfl))), h.xlo, h.mlo, h.map.kept hk (hG _ (mem_fpQ.2 (.inr (.inl rfl)))), fun t ht => (h.each t ht).kept hk fun b hb => hG b (mem_fpQ.2 (.inr (.inr ⟨t, ht, hb⟩))), h.apart, h.eight, h.l32, h.i32⟩
theorem TabQ.on (h : TabQ w lo x m L last idle) (hb : Below w.heap.size w w') : TabQ w' lo x m L last idle := h.kept (G := []) (Kept.of_below hb (Nat.le_refl _)) (by simp)
theorem TabQ.lt (h : TabQ w lo x m L last idle) : ∀ b ∈ fpQ x m L, lo ≤ b ∧ b < w.heap.size := by
  intro b hb
  rcases mem_fpQ.1 hb with rfl | rfl | ⟨t, ht, hb⟩
  · exact ⟨h.xlo, h.blk.lt⟩
  · exact ⟨h.mlo, h.map.lt⟩
  · exact (h.each t ht).lt b hb
theorem TabQ.xm (h : TabQ w lo x m L last idle) : m ≠ x := h.map.ne_blk h.blk
theorem TabQ.x_not (h : TabQ w lo x m L last idle) : ∀ t ∈ L, x ∉ fpC t := by
  intro t ht hb
  rcases mem_fpC.1 hb with e | e
  · exact h.blk.ne (h.each t ht).blk (by decide) e
  · exact (h.each t ht).rows.not_blk h.blk (by decide) (by decide) e
theorem TabQ.m_not (h : TabQ w lo x m L last idle) : ∀ t ∈ L, m ∉ fpC t := by
  intro t ht hb
  rcases mem_fpC.1 hb with e | e
  · exact h.map.ne_blk (h.each t ht).blk e
  · exact (h.each t ht).rows.not_map h.map e
theorem TabQ.g_not (h : TabQ w lo x m L last idle) : ∀ t ∈ L, ∀ u ∈ L, u.g ∉ t.l.bs := fun t ht u hu => (h.each t ht).rows.not_blk (h.each u hu).blk (by decide) (by decide)
theorem TabQ.nums (h : TabQ w lo x m L last idle) : L.Pairwise fun u v => u.c.n ≠ v.c.n := by
  have h1 := h.map.apart
  unfold cuE at h1
  rw [List.pairwise_map] at h1
  exact h1.imp fun hh e => hh (by simp only [e])
theorem pair_two {α : Type} {R : α → α → Prop} (hs : ∀ a b, R a b → R b a) : ∀ {l : List α}, l.Pairwise R → ∀ a ∈ l, ∀ b ∈ l, a = b ∨ R a b
  | [], _, a, ha, _, _ => by simp at ha
  | c :: l, h, a, ha, b, hb => by
    obtain ⟨h1, h2⟩ := List.pairwise_cons.1 h
    rcases List.mem_cons.1 ha with ea | ha
    · rcases List.mem_cons.1 hb with eb | hb
      · exact .inl (ea.trans eb.symm)
      · exact .inr (ea ▸ h1 b hb)
    · rcases List.mem_cons.1 hb with eb | hb
      · exact .inr (hs _ _ (eb ▸ h1 a ha))
      · exact pair_two hs h2 a ha b hb
theorem TabQ.uniq (h : TabQ w lo x m L last idle) : ∀ a ∈ L, ∀ b ∈ L, a.c.n = b.c.n → a = b := by
  intro a ha b hb e
  rcases pair_two (fun a b hh ee => hh ee.symm) h.nums a ha b hb with h2 | h2
  · exact h2
  · exact absurd e h2
theorem TabQ.g_apart (h : TabQ w lo x m L last idle) : ∀ a ∈ L, ∀ b ∈ L, a.c.n ≠ b.c.n → a.g ≠ b.g := by
  intro a ha b hb hne e
  rcases pair_two (R := fun s t : CurL => s.g ≠ t.g) (fun a b hh ee => hh ee.symm) h.apart a ha b hb with rfl | h2
  · exact hne rfl
  · exact h2 e
/-- Some cursors are gone. -/
theorem TabQ.fewer {q : CurL → Bool} (h : TabQ w lo x m L last idle) (hm : MapE w' Try.prog 22 m (cuE (L.filter q))) (hk : Kept [m] w w') : TabQ w' lo x m (L.filter q) last idle :=
  ⟨hk.blk h.blk (by simpa using h.xm.symm), h.xlo, h.mlo, hm, fun t ht => (h.each t (List.mem_filter.1 ht).1).kept hk (fun b hb e => by
    rw [List.mem_singleton] at e
    subst e
    exact h.m_not t (List.mem_filter.1 ht).1 hb), h.apart.filter _, Nat.le_trans (List.length_filter_le _ _) h.eight, h.l32, h.i32⟩
/-- One cursor has turned; its rows stay. -/
def turnC (L : List CurL) (t' : CurL) : List CurL := L.map fun s => if s.c.n = t'.c.n then t' else s
theorem TabQ.turned {t' : CurL} (h : TabQ w lo x m L last idle) (ht : t ∈ L) (hg : t'.g = t.g) (hn : t'.c.n = t.c.n) (ha : t'.At w' lo) (hk : Kept [t.g] w w') : TabQ w' lo x m (turnC L t') last idle := by
  have hE : cuE (turnC L t') = cuE L := by
    unfold cuE turnC
    rw [List.map_map]
    refine List.map_congr_left fun s hs => ?_
    show (key32 (if s.c.n = t'.c.n then t' else s).c.n, Value.pointer (some ⟨(if s.c.n = t'.c.n then t' else s).g, 0, none⟩)) = _
    split
    · rename_i e
      have := h.uniq s hs t ht (e.trans hn)
      subst this
      rw [hn, hg]
    · rfl
  have hxg : x ∉ [t.g] := by
    intro e
    exact h.x_not t ht (mem_fpC.2 (.inl (List.mem_singleton.1 e)))
  have hmg : m ∉ [t.g] := by
    intro e
    exact h.m_not t ht (mem_fpC.2 (.inl (List.mem_singleton.1 e)))
  refine ⟨hk.blk h.blk hxg, h.xlo, h.mlo, by rw [hE]; exact h.map.kept hk hmg, fun s hs => ?_, ?_, by unfold turnC; simpa using h.eight, h.l32, h.i32⟩
  · obtain ⟨s0, hs0, rfl⟩ := List.mem_map.1 hs
    split
    · exact ha
    · rename_i e
      refine (h.each s0 hs0).kept hk fun b hb e2 => ?_
      rw [List.mem_singleton] at e2
      subst e2
      rcases mem_fpC.1 hb with e3 | e3
      · exact h.g_apart s0 hs0 t ht (by rw [← hn]; exact e) e3.symm
      · exact h.g_not s0 hs0 t ht e3
  · unfold turnC
    rw [List.pairwise_map]
    refine List.Pairwise.imp_of_mem ?_ h.apart
    intro a b ha' hb' hab
    by_cases h1 : a.c.n = t'.c.n <;> by_cases h2 : b.c.n = t'.c.n
    · have e1 := h.uniq a ha' t ht (h1.trans hn)
      have e2 := h.uniq b hb' t ht (h2.trans hn)
      subst e1 e2
      exact absurd rfl hab
    · rw [if_pos h1, if_neg h2, hg]
      exact h.g_apart t ht b hb' (by rw [← hn]; exact fun e => h2 e.symm)
    · rw [if_neg h1, if_pos h2, hg]
      exact h.g_apart a ha' t ht (by rw [← hn]; exact h1)
    · rw [if_neg h1, if_neg h2]
      exact hab
/-- One cursor more. -/
theorem TabQ.more {last' : Nat} {t : CurL} (h : TabQ w lo x m L last idle) (hb : Blk w' x 76 [.int .u32 (idle : Int), .map (some m), .int .u32 (last' : Int)]) (hm : MapE w' Try.prog 22 m (cuE (L ++ [t]))) (hk : Kept [x, m] w w') (ha : t.At w' lo) (hg : w.heap.size ≤ t.g) (hl : L.length < 8) (h32 : last' < 4294967296) : TabQ w' lo x m (L ++ [t]) last' idle := by
  refine ⟨hb, h.xlo, h.mlo, hm, fun s hs => ?_, List.pairwise_append.2 ⟨h.apart, by simp, fun s hs u hu => ?_⟩, by simp; omega, h32, h.i32⟩
  · rcases List.mem_append.1 hs with hs | hs
    · refine (h.each s hs).kept hk fun c hc e => ?_
      simp only [List.mem_cons, List.not_mem_nil, or_false] at e
      rcases e with e | e
      · exact h.x_not s hs (e ▸ hc)
      · exact h.m_not s hs (e ▸ hc)
    · rw [List.mem_singleton.1 hs]
      exact ha
  · rw [List.mem_singleton.1 hu]
    have := (h.each s hs).blk.lt
    omega
theorem CIs.kept (h : CIs w lo x F s) (hk : Kept G w w') (hF : Apart G F) : CIs w' lo x F s := by
  obtain ⟨m, L, h1, h2, rfl⟩ := h
  exact ⟨m, L, h1.kept hk fun b hb e => hF b e hb, h2, rfl⟩
theorem CIs.on (h : CIs w lo x F s) (hb : Below w.heap.size w w') : CIs w' lo x F s := h.kept (G := []) (Kept.of_below hb (Nat.le_refl _)) (fun x hx => by simp at hx)
theorem CIs.lt (h : CIs w lo x F s) : ∀ b ∈ F, lo ≤ b ∧ b < w.heap.size := by
  obtain ⟨m, L, h1, h2, rfl⟩ := h
  exact h1.lt
theorem CIs.size1 (h : CIs w lo x F s) : lo ≤ w.heap.size := by
  obtain ⟨m, L, h1, h2, rfl⟩ := h
  exact Nat.le_of_lt (Nat.lt_of_le_of_lt h1.xlo h1.blk.lt)
theorem CIs.below (h : CIs w lo x F s) (hk : Kept F w w') : Below lo w w' := hk.below (fun b hb => (h.lt b hb).1) h.size1
end
/-- What a call that may turn the table leaves. -/
def QPost (lo x : Nat) (F : List Nat) (s' : CTab) (w w' : World) : Prop := ∃ F', CIs w' lo x F' s' ∧ Kept F w w' ∧ Grows w F F'
theorem QPost.same {lo x : Nat} {F : List Nat} {s : CTab} {w : World} (h : CIs w lo x F s) : QPost lo x F s w w := ⟨F, h, Kept.refl _ _, Grows.refl _ _⟩
end Go.Proofs.Ytadkfedglkhgjaa
