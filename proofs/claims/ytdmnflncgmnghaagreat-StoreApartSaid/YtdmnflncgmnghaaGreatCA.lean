/-
  The program's past: All, by a walk over its text.
-/
import Derived.Test.YtdmnflncgmnghaaGreatCa
namespace Go.Proofs.YtdmnflncgmnghaaGreat
open Go.RowKit Go.Shelf Go.ChangeShapes Go.WideShapes Go.ChangeAt

attribute [local go_sem] Oper.semAt_some

/-- What All tells: items of the call's own, in a row of the call's own. -/
def AllPostC (r : List ItemV × Nat) (w : World) (e : Ending) (w' : World) : Prop := Below w.heap.size w w' ∧ ∃ (sv : Value) (xs : List ItL), e = .returned (.tuple #[sv, .int .i64 (r.2 : Int)]) ∧ ItsAt w.heap.size w' sv xs ∧ (∀ x ∈ xs, x.OwnI w.heap.size w') ∧ xs.map ItL.toI = r.1
/-- append(v, x) as one step of a region that draws, within a fence, x one struct that the text has laid as a row of one. -/
theorem step_cIn {l : Nat} {nF : Nat} {P : Program} {ops : Array Oper} {o : Oper} {act : Act} {K : Act → World → Prop} {Q : Exit → Act → World → Prop} {E : Prop} {lo k : Nat} {t : TypeId} {v : Value} {css : List (List Value)} (w : World) (hg : o.guard = none) (s y : Operand) (st : TypeId)
    (hop : o.op = .call { callee := .builtin .append, args := #[s, y], argTypes := #[st, st] }) (hu : P.underlying st = some (.slice t)) (z : Value) (sz : Nat) (hi : (P.info? t).map (fun i => (i.zero, i.size, i.bytes)) = some (some z, k, sz)) (hzc : z.cells.size = k) (hc0 : 0 < k)
    (cs : List Value) (hs : act.eval s = v) (hy : act.eval y = .slice (some ⟨w.heap.size, 0, none⟩) 1 1) (hown : RowC lo w t k v css) (hcs : cs.length = k) (h1 : ∀ u ∈ cs, u.oneCell' = true) (hlo : lo ≤ w.heap.size) (hb : (css.length + 1) * sz ≤ 140737488355328) (hll : css.length ≤ 2000000)
    (hK : ∀ v' w', RowC lo w' t k v' (css ++ [cs]) → Kept (ownB v) w w' → Grows w (ownB v) (ownB v') → (w.alloc (.cells cs.toArray t)).grownBy w' v.ownBlock → K (act.put o.dst v') w') : if Region.wanted o (yielded ops act.tmps) = true then Oper.wpIn (Fence.wide.inRound l) nF P o act (w.alloc (.cells cs.toArray t)) K Q else E := by
  have hw : Region.wanted o (yielded ops act.tmps) = true := by simp [Region.wanted, hg]
  rw [if_pos hw]
  obtain ⟨i0, hi, hz0, hz1, hz2⟩ := info_parts hi
  have hcl : cs.length = 1 * k := by rw [hcs, Nat.one_mul]
  have hnews : ∀ j u, cs[j]? = some u → (w.alloc (.cells cs.toArray t)).cell? ((⟨w.heap.size, 0, none⟩ : Addr).add j) = some u := by
    intro j u hj
    rw [add_plain, Nat.zero_add, World.cell?_alloc_at _ _ _ _ rfl, ← hj]
    simp
  obtain ⟨v', w', hr, ho, hgr, _, hloc⟩ := run_append_own_at (P := P) (w.alloc (.cells cs.toArray t)) lo st o.type t i0 z k sz hu hi hz0 hz1 hz2 hzc hc0 v css.length css.flatten (World.ownsRow.alloc hown.2 _) ⟨w.heap.size, 0, none⟩ 1 1 cs hcl hnews h1 (by unfold maxLen; omega) hb (by simp; omega)
  refine ⟨fun _ _ => trivial, ?_⟩
  rw [Oper.semAt_plain (Fence.wide.inRound l) _ _ (by rw [hop]; intro c hc; cases hc)]
  unfold execOp
  simp only [hop, resolve, invoke, builtin, Sem.run_bind, Sem.run_pure, Result.andThen_ok, List.map_toArray, List.map_cons, List.map_nil, hs, hy, hr]
  refine hK v' w' ⟨fun c hc => ?_, ?_⟩ (((Kept.refl _ _).alloc _).grown hgr (fun g hg => .inl (mem_ownB.2 hg))) (fun g hg => ?_) hgr
  · rcases List.mem_append.1 hc with hc | hc
    · exact hown.1 c hc
    · rw [List.mem_singleton.1 hc]
      exact hcs
  · rw [List.flatten_append, List.length_append]
    simpa using ho
  · rcases hloc with e | e
    · exact .inl (mem_ownB.2 (by rw [← e]; exact mem_ownB.1 hg))
    · have := mem_ownB.1 hg
      rw [e] at this
      simp at this
      exact .inr (by omega)
theorem colS_le {L : List RowL} (pre : List (BackT L)) : (colS pre).2.length ≤ pre.length := by
  induction pre using snoc_ind with
  | h0 => exact Nat.le_refl _
  | h1 l x ih =>
    rw [colS_snoc]
    simp only
    split
    · simp
      omega
    · simp
      omega
theorem row_blk8' {lo k n g : Nat} {w : World} {t t' : TypeId} {u : Value} {xs cs : List Value} (h : w.ownsRow lo t k u n xs) (hg : u.ownBlock = some g) (ht : t ≠ t') : ¬ Blk w g t' cs := fun hb => row_blk8 h hb ht hg
/-- What is collected behind one append. -/
theorem colEnd {w w1 w2 w8 : World} {q : Nat} {sa : Option Addr} {sc : Nat} {xs : List ItL} {y : ItL} {it : ItL} {l : List ItemV} {v8 : Value} (hws : w.heap.size ≤ w1.heap.size) (hb2 : Below w1.drew.heap.size w1.drew w2) (hy : y.OwnI w1.drew.heap.size w2) (hyi : y.toI = it.toI)
    (c1 : Blk w1 w.heap.size 45 [.slice sa q sc]) (c2 : ItsAt w.heap.size w1 (.slice sa q sc) xs) (c3 : ∀ x ∈ xs, x.OwnI w.heap.size w1 ∧ ∀ b ∈ x.bs, (Value.slice sa q sc).ownBlock ≠ some b) (c4 : xs.map ItL.toI = l)
    (hr8 : RowC w.heap.size w8 73 3 v8 (xs.map ItL.cells ++ [y.cells])) (hk8 : Kept (ownB (.slice sa q sc)) w2 w8) (hg8 : Grows w2 (ownB (.slice sa q sc)) (ownB v8)) :
    Blk w8 w.heap.size 45 [.slice sa q sc] ∧ ∀ {W : World} {g v B : Nat} {L : List RowL} {pre : List (BackT L)} {x : BackT L}, KeepsFrom B W w1 → KpB w.heap.size (w.heap.size + 3) (w.heap.size + 4) W w1 →
      ((Blk w1 (w.heap.size + 2) 153 [.map (some (w.heap.size + 1))] ∧ Blk w1 (w.heap.size + 3) 102 [.pointer (some ⟨g, 0, none⟩)] ∧ Blk w1 (w.heap.size + 4) 27 [.int .u64 (v : Int)]) ∧ Below w.heap.size w w1) →
      SetAt w1 (w.heap.size + 1) ((colS pre).1 ++ [x.1.2.id]) → colS (pre ++ [x]) = ((colS pre).1 ++ [x.1.2.id], l ++ [it.toI]) →
      KeepsFrom B W (w8.setCell ⟨w.heap.size, 0, none⟩ v8) ∧ KpB w.heap.size (w.heap.size + 3) (w.heap.size + 4) W (w8.setCell ⟨w.heap.size, 0, none⟩ v8) ∧ AllInv w g v L (pre ++ [x]) (w8.setCell ⟨w.heap.size, 0, none⟩ v8) := by
  have hb12 : Below w1.heap.size w1 w2 := ⟨hb2.os, hb2.tape, hb2.output, hb2.size, hb2.block⟩
  have c1' := (Kept.of_below (F := []) hb12 (Nat.le_refl _)).blk c1 (by simp)
  have hgt : ∀ j, (Value.slice sa q sc).ownBlock = some j → w.heap.size ≤ j ∧ j < w1.heap.size ∧ ∀ (t : TypeId) (cs : List Value), Blk w1 j t cs → t = 73 := fun j hj => by
    have h1 := c2.lt j hj
    refine ⟨h1.1, h1.2, fun t cs hb => ?_⟩
    rcases c2.2.2 with ⟨h0, _⟩ | ⟨g', cap, cur, hv, _, hh, _⟩
    · rw [h0] at hj
      cases hj
    · rw [hv] at hj
      cases hj
      unfold Blk at hb
      rw [hh] at hb
      simp only [Option.some.injEq, Obj.cells.injEq] at hb
      exact hb.2.1.symm
  have hcell : ∀ j, (Value.slice sa q sc).ownBlock = some j → ∃ o, w1.heap[j]? = some o ∧ o.isCells = true := fun j hj => by
    rcases c2.2.2 with ⟨h0, _⟩ | ⟨g', cap, cur, hv, _, hh, _⟩
    · rw [h0] at hj
      cases hj
    · rw [hv] at hj
      cases hj
      exact ⟨_, hh, rfl⟩
  have hn0 : (Value.slice sa q sc).ownBlock ≠ some w.heap.size := fun h => by
    have := (hgt _ h).2.2 _ _ c1
    exact absurd this (by decide)
  have c18 := hk8.blk c1' (fun hh => hn0 (mem_ownB.1 hh))
  have k9 : Kept [w.heap.size] w8 (w8.setCell ⟨w.heap.size, 0, none⟩ v8) := (Kept.refl [w.heap.size] w8).setCell _ _ (.inl (by simp))
  have hlt0 := c1.lt
  have hs12 := hb12.size
  have hs28 := hk8.size
  have same : ∀ j, j < w1.heap.size → j ≠ w.heap.size → (Value.slice sa q sc).ownBlock ≠ some j → (w8.setCell ⟨w.heap.size, 0, none⟩ v8).heap[j]? = w1.heap[j]? := fun j hj h1 h2 =>
    ((k9.block j (by omega) (by simpa using h1)).trans (hk8.block j (by omega) (fun hh => h2 (mem_ownB.1 hh)))).trans (hb12.block j hj)
  have hbel : Below w.heap.size w1 (w8.setCell ⟨w.heap.size, 0, none⟩ v8) :=
    ((hb12.mono hws).trans (hk8.below (fun x hx => (hgt x (mem_ownB.1 hx)).1) (by omega))).setCell (p := ⟨w.heap.size, 0, none⟩) (Nat.le_refl _) v8
  refine ⟨c18, fun {W g v B L pre x} hp1 hp2 hp3 hs1 hcs => ?_⟩
  obtain ⟨⟨d2, d3, d4⟩, hbw⟩ := hp3
  have far : ∀ (j : Nat) (t : TypeId) (cs : List Value), Blk w1 j t cs → j ≠ w.heap.size → t ≠ 73 → (w8.setCell ⟨w.heap.size, 0, none⟩ v8).heap[j]? = w1.heap[j]? := fun j t cs hb hj ht => same j hb.lt hj (fun h => ht ((hgt j h).2.2 t cs hb))
  have e3 := far _ _ _ d3 (by omega) (by decide)
  have e4 := far _ _ _ d4 (by omega) (by decide)
  obtain ⟨es, cl, hob⟩ := hs1.obj
  have e1 := same _ hs1.lt (by omega) (fun h => by
    obtain ⟨o, ho, hc⟩ := hcell _ h
    rw [hob] at ho
    cases ho
    cases hc)
  refine ⟨hp1.trans ⟨by simp [World.setCell]; omega, fun k o hB hk ho => ?_⟩, kpB_t hp2 ⟨hbel, e3, e4⟩, ⟨⟨⟨d2.of_eq (far _ _ _ d2 (by omega) (by decide)), ?_⟩, d3.of_eq e3, d4.of_eq e4⟩, hbw.trans hbel⟩, ?_⟩
  · refine (same k (Array.getElem?_eq_some_iff.1 hk).1 (fun h => ?_) (fun h => ?_)).trans hk
    · subst h
      rw [show w1.heap[w.heap.size]? = _ from c1] at hk
      cases hk
      cases ho
    · obtain ⟨o', ho', hc⟩ := hcell k h
      rw [hk] at ho'
      cases ho'
      rw [ho] at hc
      cases hc
  · rw [hcs]
    exact hs1.far e1
  · rw [hcs]
    have hv8 : v8.ownBlock ≠ some w.heap.size := fun h => by
      rcases hg8 _ (mem_ownB.2 h) with h1 | h1
      · exact hn0 (mem_ownB.1 h1)
      · omega
    have hyl := hy.lo
    have hy9 : y.OwnI w.heap.size (w8.setCell ⟨w.heap.size, 0, none⟩ v8) := by
      have h1 := (hy.kept hk8 (fun b hb hh => by
        have h2 := (hyl b hb).1
        have h3 := (hgt b (mem_ownB.1 hh)).2.1
        have h4 : w1.drew.heap.size = w1.heap.size := rfl
        omega)).kept k9 (fun b hb hh => by
        have h2 := (hyl b hb).1
        have h4 : w1.drew.heap.size = w1.heap.size := rfl
        simp at hh
        omega)
      have h4 : w1.drew.heap.size = w1.heap.size := rfl
      exact ⟨h1.hid, own_on h1.vec (by omega) (Below.refl _ _), own_on h1.tags (by omega) (Below.refl _ _), h1.wv, h1.wt, h1.lv, h1.lt⟩
    refine ⟨v8, xs ++ [y], c18.set 0 v8, ?_, fun z hz => ?_, by rw [List.map_append, c4, List.map_cons, hyi]; rfl⟩
    · unfold ItsAt
      rw [List.map_append]
      exact hr8.kept k9 (fun g hg hh => hv8 (by rw [hg]; simpa using hh))
    · rcases List.mem_append.1 hz with hz | hz
      · have h1 := c3 z hz
        have hzl := h1.1.lo
        refine ⟨((h1.1.on hb12).kept hk8 (fun b hb hh => h1.2 b hb (mem_ownB.1 hh))).kept k9 (fun b hb hh => ?_), fun b hb hh => ?_⟩
        · simp at hh
          subst hh
          rcases List.mem_append.1 hb with h5 | h5
          · have h6 := h1.1.vec
            exact absurd c1 (row_blk8' h6 (mem_ownB.1 h5) (by decide))
          · have h6 := h1.1.tags
            exact absurd c1 (row_blk8' h6 (mem_ownB.1 h5) (by decide))
        · rcases hg8 b (mem_ownB.2 hh) with h5 | h5
          · exact h1.2 b hb (mem_ownB.1 h5)
          · have := (hzl b hb).2
            omega
      · rw [List.mem_singleton.1 hz]
        refine ⟨hy9, fun b hb hh => ?_⟩
        have h2 := hyl b hb
        have h4 : w1.drew.heap.size = w1.heap.size := rfl
        rcases hg8 b (mem_ownB.2 hh) with h5 | h5
        · have := (hgt b (mem_ownB.1 h5)).2.1
          omega
        · omega
/-- What stands behind the store into the map. -/
theorem AllInv.put {w W w1 : World} {g v B : Nat} {L : List RowL} {pre : List (BackT L)} {o : Obj} (h : AllInv w g v L pre W) (hg1 : (W.alloc o).grownBy w1 (some (w.heap.size + 1))) (hB : w.heap.size + 1 < B) :
    KeepsFrom B W w1 ∧ KpB w.heap.size (w.heap.size + 3) (w.heap.size + 4) W w1 ∧ ((Blk w1 (w.heap.size + 2) 153 [.map (some (w.heap.size + 1))] ∧ Blk w1 (w.heap.size + 3) 102 [.pointer (some ⟨g, 0, none⟩)] ∧ Blk w1 (w.heap.size + 4) 27 [.int .u64 (v : Int)]) ∧ Below w.heap.size w w1) ∧ ColAt w1 w.heap.size (colS pre).2 := by
  obtain ⟨⟨⟨⟨d2, d1⟩, d3, d4⟩, hb⟩, hc⟩ := h
  have hne : ∀ j, j ≠ w.heap.size + 1 → (some (w.heap.size + 1) : Option Nat) ≠ some j := fun j hj e => hj (by cases e; rfl)
  obtain ⟨es, cl, hob⟩ := d1.obj
  have hob2 : (W.alloc o).heap[w.heap.size + 1]? = some (.map es cl) := (Below.heap_alloc _ _ _ d1.lt).trans hob
  have hws := hb.size
  have hbel : Below w.heap.size W w1 := ((Below.refl _ W).alloc hws _).grown hg1 (by simp; omega) (fun k e => by cases e; omega)
  refine ⟨((KeepsOthers.alloc W o).from B).trans (KeepsFrom.of_grownBy hg1 (fun j e => by cases e; omega)), ⟨hbel, (hg1.block _ (by simp; have := d3.lt; omega) (fun e => by simp at e)).trans (Below.heap_alloc _ _ _ d3.lt), (hg1.block _ (by simp; have := d4.lt; omega) (fun e => by simp at e)).trans (Below.heap_alloc _ _ _ d4.lt)⟩,
    ⟨⟨(d2.alloc o).grown hg1 (hne _ (by omega)), (d3.alloc o).grown hg1 (hne _ (by omega)), (d4.alloc o).grown hg1 (hne _ (by omega))⟩, hb.trans hbel⟩, (hc.grown (World.grownBy_alloc W o none) (fun r e => by cases e)).grown hg1 (fun r e => by cases e; exact ⟨_, hob2, rfl⟩)⟩

/-- Behind the sort, and the loop's mark. -/
theorem allFin {w W w9 : World} {sv : Value} {xs ys : List ItL} {L : List RowL} {v D : Nat} (c2 : ItsAt w.heap.size W sv xs) (c3 : ∀ x ∈ xs, x.OwnI w.heap.size W ∧ ∀ b ∈ x.bs, sv.ownBlock ≠ some b) (c4 : xs.map ItL.toI = (colS (bk L v L.length)).2) (hB : Below w.heap.size w W)
    (hp : ys.Perm xs) (hs : ys.Pairwise fun a b => a.id ≤ b.id) (hr9 : ItsAt w.heap.size w9 sv ys) (hk9 : Kept (ownB sv) W w9) {o o' : Obj} (hD : w9.heap[D]? = some o) (hle : w.heap.size ≤ D) (ho : o.isCells = false) :
    Below w.heap.size w (w9.putObj D o') ∧ ItsAt w.heap.size (w9.putObj D o') sv ys ∧ (∀ x ∈ ys, x.OwnI w.heap.size (w9.putObj D o')) ∧ ys.map ItL.toI = allI (rowsV L) v (rowsV L).length := by
  have hg : w9.grownBy (w9.putObj D o') (some D) := grownBy_putObj' w9 D o'
  have hr : ∀ r, some D = some r → ∃ o : Obj, w9.heap[r]? = some o ∧ o.isCells = false := fun r e => by
    cases e
    exact ⟨o, hD, ho⟩
  have hb9 : Below w.heap.size w w9 := hB.trans (hk9.below (fun x hx => (c2.lt x (mem_ownB.1 hx)).1) hB.size)
  refine ⟨hb9.grown hg hb9.size (fun k e => by cases e; exact hle), ⟨hr9.1, own_grown hr9.2 hg hr⟩, fun x hx => ?_, ?_⟩
  · have h1 := c3 x (hp.mem_iff.1 hx)
    exact (h1.1.kept hk9 (fun b hb hh => h1.2 b hb (mem_ownB.1 hh))).grown hg hr
  · refine colS_all L v _ ?_ ?_
    · rw [← c4]
      exact hp.map _
    · rw [List.pairwise_map]
      exact hs

set_option maxRecDepth 100000 in
set_option maxHeartbeats 6400000 in
theorem all_in (w : World) (lo g : Nat) (It : List Nat) (u k : Value) (L : List RowL) (last floor : Nat) (kept : List Nat) (v : Nat) (hv : v < 18446744073709551616) (PC : PastC w lo g It u k L last floor kept) :
    CallsIn Fence.wide 9 Tryz.prog 50 #[.pointer (some ⟨g, 0, none⟩), .int .u64 (v : Int)] w fun e W' => AllPostC ((PastC.st L last floor kept).all v) w e W' := by
  have hmm := @run_makeMap Tryz.prog
  obtain ⟨z, hz⟩ : ∃ z, (PastC.st L last floor kept).known v = z := ⟨_, rfl⟩
  have KN := Lib.hid (fun (w' : World) (hb : Below w.heap.size w w') => known_any w' lo g It u k L last floor kept v hv (PC.on hb))
  rw [hz] at KN
  have HZ := Lib.hid hz
  clear hz
  refine callsIn_of_wp_marks Tryz.func50 rfl trivial ?_ rfl
  simp only [Tryz.ntmps50, List.size_toArray, List.length_cons, List.length_nil, Nat.reduceAdd, Nat.reduceSub, Array.replicate_succ, Array.replicate_zero, List.push_toArray, List.append_toArray, List.nil_append, List.cons_append]
  cases z
  · have G := Lib.hid (show (PastC.st L last floor kept).all v = ([], 80) from by rw [PastV.all, HZ.out]; rfl)
    gi_wp2_with (refine ⟨trivial, ?_⟩; gi_at_call 76; refine (callsIn_wide.2 (KN.out w (Below.refl _ _))).mono ?_; rintro e w' ⟨rfl, hw'⟩; have hw'' := hw'.symm; subst hw''; clear hw')
    refine ⟨_, results_tmp2 rfl _ _ _, ?_⟩
    exact ⟨Below.refl _ _, _, [], by rw [G.out]; rfl, RowC.nil _ _ _ _, by simp, by rw [G.out]; rfl⟩
  · gi_wp2_with (first
      | (refine ⟨trivial, ?_⟩; gi_at_call 76; refine (callsIn_wide.2 (KN.out w (Below.refl _ _))).mono ?_; rintro e w' ⟨rfl, hw'⟩; have hw'' := hw'.symm; subst hw''; clear hw')
      | (refine ⟨trivial, ?_⟩; gi_at_call 77; refine (back_in _ g v _).mono ?_; rintro e w' ⟨rfl, rfl⟩))
    obtain ⟨W0, hW0⟩ : ∃ W0, (((((w.alloc (.cells #[.slice none 0 0] 45)).alloc (.map #[] 0)).alloc (.cells #[.map (some (w.heap.size + 1))] 153)).alloc (.cells #[.pointer (some ⟨g, 0, none⟩)] 102)).alloc (.cells #[.int .u64 (v : Int)] 27)) = W0 := ⟨_, rfl⟩
    have hB0 : Below w.heap.size w W0 := by
      rw [← hW0]
      exact (((((Below.refl _ w).alloc (Nat.le_refl _) _).alloc (by simp) _).alloc (by simp; omega) _).alloc (by simp; omega) _).alloc (by simp; omega) _
    have hsz : W0.heap.size = w.heap.size + 5 := by rw [← hW0]; simp
    have b0 : Blk W0 w.heap.size 45 [.slice none 0 0] := by
      rw [← hW0]
      exact ((((Blk.new w _ _).alloc _).alloc _).alloc _).alloc _
    have b1 : SetAt W0 (w.heap.size + 1) [] := by
      rw [← hW0]
      have h1 := SetAt.made (w.alloc (.cells #[.slice none 0 0] 45))
      rw [show (w.alloc (.cells #[.slice none 0 0] 45)).heap.size = w.heap.size + 1 by simp] at h1
      exact ((h1.kept (World.grownBy_alloc _ _ none) (by simp)).kept (World.grownBy_alloc _ _ none) (by simp)).kept (World.grownBy_alloc _ _ none) (by simp)
    have b2 : Blk W0 (w.heap.size + 2) 153 [.map (some (w.heap.size + 1))] := by
      rw [← hW0]
      have := ((Blk.new ((w.alloc (.cells #[.slice none 0 0] 45)).alloc (.map #[] 0)) 153 #[.map (some (w.heap.size + 1))]).alloc (.cells #[.pointer (some ⟨g, 0, none⟩)] 102)).alloc (.cells #[.int .u64 (v : Int)] 27)
      simpa using this
    have b3 : Blk W0 (w.heap.size + 3) 102 [.pointer (some ⟨g, 0, none⟩)] := by
      rw [← hW0]
      have := (Blk.new (((w.alloc (.cells #[.slice none 0 0] 45)).alloc (.map #[] 0)).alloc (.cells #[.map (some (w.heap.size + 1))] 153)) 102 #[.pointer (some ⟨g, 0, none⟩)]).alloc (.cells #[.int .u64 (v : Int)] 27)
      simpa using this
    have b4 : Blk W0 (w.heap.size + 4) 27 [.int .u64 (v : Int)] := by
      rw [← hW0]
      have := Blk.new ((((w.alloc (.cells #[.slice none 0 0] 45)).alloc (.map #[] 0)).alloc (.cells #[.map (some (w.heap.size + 1))] 153)).alloc (.cells #[.pointer (some ⟨g, 0, none⟩)] 102)) 27 #[.int .u64 (v : Int)]
      simpa using this
    rw [hW0]
    clear hW0 KN
    refine wpIn_rangeFunc_ownH rfl (by omega) (gf := 97) (lb := #[.pointer (some ⟨w.heap.size + 3, 0, none⟩), .pointer (some ⟨w.heap.size + 4, 0, none⟩)]) rfl trivial (enters_of Tryz.func97 (by kernel_rfl) rfl)
      (back_stops 8 (by omega) (w.heap.size + 3) (w.heap.size + 4) w lo g It u k L last floor kept PC v hv W0 hB0 b3 b4) kpB_t (kpB_b (by omega) (by omega) (by omega)) (Below.refl _ _) (fun _ => rfl)
      (AllInv w g v L) (fun _ _ _ => False) (allInv_own (by omega)) (fun _ _ _ _ _ hs _ _ => hs)
      ⟨⟨⟨⟨b2, b1⟩, b3, b4⟩, hB0⟩, _, [], b0, RowC.nil _ _ _ _, by simp, rfl⟩
      (fun x a' W => ∃ Bx, w.heap.size + 4 < Bx ∧ Blk W Bx 157 x.1.2.cells ∧ a' = { tmps := #[.pointer (some ⟨g, 0, none⟩), .int .u64 (v : Int), undef, undef, .slice none 0 0, .int .i64 0, .pointer (some ⟨w.heap.size, 0, none⟩), .pointer (some ⟨w.heap.size + 2, 0, none⟩), undef, .pointer (some ⟨Bx, 0, none⟩), undef, undef, .pointer (some ⟨g, 0, none⟩), .int .u64 (v : Int), .bool true, .bool false, .map (some (w.heap.size + 1)), .pointer (some ⟨g, 0, none⟩), .int .u64 (v : Int), .func (.func 97) #[] #[.pointer (some ⟨w.heap.size + 3, 0, none⟩), .pointer (some ⟨w.heap.size + 4, 0, none⟩)], .int .i64 (x.1.1 : Int), .agg #[.int .u64 (x.1.2.v : Int), .bool x.1.2.gone, .int .u32 (x.1.2.id : Int), .slice x.1.2.pv.1 x.1.2.pv.2.1 x.1.2.pv.2.2, .slice x.1.2.pt.1 x.1.2.pt.2.1 x.1.2.pt.2.2], undef, undef, undef, undef, undef, undef, undef, undef, undef, undef, undef, undef, undef, undef, undef, undef, undef, undef, undef, undef, undef, undef, undef, undef, undef, undef, undef, undef, undef], defers := [] })
      (fun x a' _ X Y row hs hg hr => by
        obtain ⟨Bx, h1, h2, h3⟩ := hs
        exact ⟨Bx, h1, blk_own _ _ (fun (_ : Unit) => _) () X Y row h2 hg (fun r e => (hr r e).2), h3⟩)
      ?assign ?body ?done ?stop
    case assign =>
      rintro l pre x W K hi hK
      have hi2 := hi
      obtain ⟨⟨⟨⟨d2, d1⟩, d3, d4⟩, hB⟩, hc⟩ := hi
      dsimp only [backE]
      gi_wp2
      refine hK _ _ ((KeepsOthers.alloc _ _).from _) ⟨(Below.refl _ W).alloc hB.size _, Below.heap_alloc _ _ _ d3.lt, Below.heap_alloc _ _ _ d4.lt⟩ ((allInv_own (B := w.heap.size + 2) (by omega)).alloc _ hi2) ⟨W.heap.size, d4.lt, ?_, rfl⟩
      exact Blk.new W _ _
    case body =>
      rintro l pre x a' W hl _ ⟨⟨⟨⟨d2, d1⟩, d3, d4⟩, hB⟩, hc⟩ ⟨Bx, hBx, dx, rfl⟩ hlt
      have x1 : W.cell? ⟨Bx, 1, none⟩ = some (.bool x.1.2.gone) := dx.cell 1
      have x2 : W.cell? ⟨Bx, 2, none⟩ = some (.int .u32 (x.1.2.id : Int)) := dx.cell 2
      have k2 : W.cell? ⟨w.heap.size + 2, 0, none⟩ = some (.map (some (w.heap.size + 1))) := d2.cell 0
      have dA := dx.alloc (.cells #[] 79)
      have x2' : (W.alloc (.cells #[] 79)).cell? ⟨Bx, 2, none⟩ = some (.int .u32 (x.1.2.id : Int)) := dA.cell 2
      have k2' : (W.alloc (.cells #[] 79)).cell? ⟨w.heap.size + 2, 0, none⟩ = some (.map (some (w.heap.size + 1))) := (d2.alloc _).cell 0
      have RX := Lib.hid (PC.each x.1.2 (List.mem_of_getElem? x.2))
      have INV := Lib.hid (show AllInv w g v L pre W from ⟨⟨⟨⟨d2, d1⟩, d3, d4⟩, hB⟩, hc⟩)
      cases hm : (colS pre).1.contains x.1.2.id
      rotate_left
      · have CS := Lib.hid (show colS (pre ++ [x]) = ((colS pre).1 ++ [x.1.2.id], (colS pre).2) from by rw [colS_snoc, hm]; rfl)
        gi_wp2_with (first
        | (gi_at_lookup; refine set_lookIn _ rfl _ _ 153 rfl 79 Tryz.underlying153 (Tryz.zeroValue79 _) (w.heap.size + 1) _ d1 rfl x.1.2.id RX.out.hid rfl ?_; rw [hm])
        | (gi_at_mapUpdate; refine set_putIn _ rfl _ _ _ 153 rfl 79 Tryz.underlying153 (w.heap.size + 1) _ (d1.kept (World.grownBy_alloc _ _ none) (by simp)) (by rw [colS_len]; have := PC.hL; omega) rfl x.1.2.id RX.out.hid rfl rfl ?_; intro w1 hs1 hg1; have dx1 := dA.grown hg1 (by simp; omega); have y1 : w1.cell? ⟨Bx, 1, none⟩ = some (.bool x.1.2.gone) := dx1.cell 1; obtain ⟨hp1, hp2, hp3, hp4⟩ := INV.out.put hg1 (show w.heap.size + 1 < W0.heap.size by omega)))
        refine ⟨hp1, hp2, ⟨⟨⟨hp3.1.1, ?_⟩, hp3.1.2⟩, hp3.2⟩, ?_⟩
        · rw [CS.out]
          exact hs1
        · rw [CS.out]
          exact hp4
      cases hgn : x.1.2.gone
      rotate_left
      · rw [hgn] at x1
        have CS := Lib.hid (show colS (pre ++ [x]) = ((colS pre).1 ++ [x.1.2.id], (colS pre).2) from by rw [colS_snoc, hm, hgn]; rfl)
        gi_wp2_with (first
        | (gi_at_lookup; refine set_lookIn _ rfl _ _ 153 rfl 79 Tryz.underlying153 (Tryz.zeroValue79 _) (w.heap.size + 1) _ d1 rfl x.1.2.id RX.out.hid rfl ?_; rw [hm])
        | (gi_at_mapUpdate; refine set_putIn _ rfl _ _ _ 153 rfl 79 Tryz.underlying153 (w.heap.size + 1) _ (d1.kept (World.grownBy_alloc _ _ none) (by simp)) (by rw [colS_len]; have := PC.hL; omega) rfl x.1.2.id RX.out.hid rfl rfl ?_; intro w1 hs1 hg1; have dx1 := dA.grown hg1 (by simp; omega); have y1 : w1.cell? ⟨Bx, 1, none⟩ = some (.bool true) := (dx1.cell 1).trans (by rw [← hgn]; rfl); obtain ⟨hp1, hp2, hp3, hp4⟩ := INV.out.put hg1 (show w.heap.size + 1 < W0.heap.size by omega)))
        refine ⟨hp1, hp2, ⟨⟨⟨hp3.1.1, ?_⟩, hp3.1.2⟩, hp3.2⟩, ?_⟩
        · rw [CS.out]
          exact hs1
        · rw [CS.out]
          exact hp4
      have CS := Lib.hid (show colS (pre ++ [x]) = ((colS pre).1 ++ [x.1.2.id], (colS pre).2 ++ [x.1.2.item]) from by rw [colS_snoc, hm, hgn]; rfl)
      rw [hgn] at x1
      gi_wp2_with (first
        | (gi_at_lookup; refine set_lookIn _ rfl _ _ 153 rfl 79 Tryz.underlying153 (Tryz.zeroValue79 _) (w.heap.size + 1) _ d1 rfl x.1.2.id RX.out.hid rfl ?_; rw [hm])
        | (gi_at_mapUpdate; refine set_putIn _ rfl _ _ _ 153 rfl 79 Tryz.underlying153 (w.heap.size + 1) _ (d1.kept (World.grownBy_alloc _ _ none) (by simp)) (by rw [colS_len]; have := PC.hL; omega) rfl x.1.2.id RX.out.hid rfl rfl ?_; intro w1 hs1 hg1; have dx1 := dA.grown hg1 (by simp; omega); have y1 : w1.cell? ⟨Bx, 1, none⟩ = some (.bool false) := (dx1.cell 1).trans (by rw [← hgn]; rfl); obtain ⟨hp1, hp2, hp3, hp4⟩ := INV.out.put hg1 (show w.heap.size + 1 < W0.heap.size by omega)))
      obtain ⟨sv, xs, c1, c2, c3, c4⟩ := hp4
      obtain ⟨sa, sc, rfl, hcap⟩ := c2.form
      obtain ⟨q, hq⟩ : ∃ q, xs.length = q := ⟨_, rfl⟩
      have HQ := Lib.hid hq
      have hqb : q ≤ 1024 := by
        have h1 := colS_le pre
        rw [← c4, List.length_map, hq] at h1
        have := PC.hL
        omega
      rw [hq] at c1 c2 c3 hcap
      clear hq
      have z0 : w1.cell? ⟨w.heap.size, 0, none⟩ = some (.slice sa q sc) := c1.cell 0
      have z2 : w1.cell? ⟨Bx, 2, none⟩ = some (.int .u32 (x.1.2.id : Int)) := dx1.cell 2
      have z3 : w1.cell? ⟨Bx, 3, none⟩ = some (.slice x.1.2.pv.1 x.1.2.pv.2.1 x.1.2.pv.2.2) := dx1.cell 3
      have z4 : w1.cell? ⟨Bx, 4, none⟩ = some (.slice x.1.2.pt.1 x.1.2.pt.2.1 x.1.2.pt.2.2) := dx1.cell 4
      have hmo : Tryz.prog.follows .mixedOrders = true := by kernel_rfl
      have RI := Lib.hid (show x.1.2.it.In (fun _ => True) w1.drew from
        have hb := hp3.2
        RX.out.it.stay hb.size (fun k _ hk => hb.block k hk) (fun _ _ _ => trivial))
      refine wpIn_region_any hmo ?_
      try (change wpAnyIn _ _ _ _ _ _ _ _ _ (World.drew _))
      refine wpAnyIn_ready (rs := [0, 1]) (by kernel_rfl) (by simp) ?_
      refine AllReadyIn.cons rfl (fun K hK => ?_) (AllReadyIn.cons rfl (fun K hK => ?_) AllReadyIn.nil)
      · (go_simp; refine hK _ _ ?_; clear hK K)
        refine wpAnyIn_ready (rs := [1]) (by kernel_rfl) (by simp) ?_
        refine AllReadyIn.cons rfl (fun K hK => ?_) AllReadyIn.nil
        (go_simp; refine hK _ _ ?_; clear hK K)
        refine wpAnyIn_ready (rs := [2]) (by kernel_rfl) (by simp) ?_
        refine AllReadyIn.cons rfl (fun K hK => ?_) AllReadyIn.nil
        (go_simp; refine hK _ _ ?_; clear hK K)
        refine wpAnyIn_ready (rs := [3]) (by kernel_rfl) (by simp) ?_
        refine AllReadyIn.cons rfl (fun K hK => ?_) AllReadyIn.nil
        (go_simp; refine ⟨trivial, ?_⟩; gi_at_call 78; refine (CallsIn.inRound l (callsIn_wide.2 (cloneI_any w1.drew x.1.2.it RI.out))).mono ?_; rintro e w2 ⟨y, he, hb2, hy, hyi, -, -⟩; obtain rfl : e = .returned (.agg #[.int .u32 (y.id : Int), .slice y.pv.1 y.pv.2.1 y.pv.2.2, .slice y.pt.1 y.pt.2.1 y.pt.2.2]) := he; have e1 := (Kept.of_below (F := []) hb2 (Nat.le_refl _)).blk (c1.of_eq (w' := w1.drew) rfl) (by simp); have z0' : w2.cell? ⟨w.heap.size, 0, none⟩ = some (.slice sa q sc) := e1.cell 0; have z0'' : (w2.alloc (.cells #[.int .u32 (y.id : Int), .slice y.pv.1 y.pv.2.1 y.pv.2.2, .slice y.pt.1 y.pt.2.1 y.pt.2.2] 73)).cell? ⟨w.heap.size, 0, none⟩ = some (.slice sa q sc) := (e1.alloc _).cell 0; have C2 := Lib.hid (RowC.on (RowC.kept c2 ((Kept.refl [] w1).drew) (by simp)) hb2); have hws2 : w.heap.size ≤ w2.heap.size := Nat.le_of_lt e1.lt; go_simp; refine hK _ _ ?_; clear hK K)
        refine wpAnyIn_ready (rs := [4]) (by kernel_rfl) (by simp) ?_
        refine AllReadyIn.cons rfl (fun K hK => ?_) AllReadyIn.nil
        (go_simp; refine hK _ _ ?_; clear hK K)
        refine wpAnyIn_ready (rs := [5]) (by kernel_rfl) (by simp) ?_
        refine AllReadyIn.cons rfl (fun K hK => ?_) AllReadyIn.nil
        (refine step_cIn w2 (by rfl) (.tmp 42) (.tmp 46) 45 (by rfl) Tryz.underlying45 (.agg #[.int .u32 0, .slice none 0 0, .slice none 0 0]) 56 item_info3 rfl (by decide) [.int .u32 (y.id : Int), .slice y.pv.1 y.pv.2.1 y.pv.2.2, .slice y.pt.1 y.pt.2.1 y.pt.2.2] (by rfl) (by rfl) C2.out rfl (by simp [Value.oneCell']) hws2 (by rw [List.length_map, HQ.out]; omega) (by rw [List.length_map, HQ.out]; omega) ?_; intro v8 w8 hr8 hk8 hg8 hgr8; obtain ⟨sa8, sc8, e8, _⟩ := hr8.form; obtain ⟨n8, hn8⟩ : ∃ n8, (xs.map ItL.cells ++ [y.cells]).length = n8 := ⟨_, rfl⟩; obtain rfl : v8 = .slice sa8 n8 sc8 := e8.trans (by rw [← hn8]; rfl); clear e8 hn8; have E8 := Lib.hid (colEnd hp3.2.size hb2 hy hyi c1 c2 c3 c4 hr8 hk8 hg8); have z8 : w8.cell? ⟨w.heap.size, 0, none⟩ = some (.slice sa q sc) := E8.out.1.cell 0; have f8 := E8.out.1.frozen 0; refine hK _ _ ?_; clear hK K)
        refine wpAnyIn_ready (rs := [6]) (by kernel_rfl) (by simp) ?_
        refine AllReadyIn.cons rfl (fun K hK => ?_) AllReadyIn.nil
        (go_simp; refine hK _ _ ?_; clear hK K)
        refine wpAnyIn_done (by kernel_rfl) ?_ _
        exact E8.out.2 hp1 hp2 hp3 hs1 CS.out
      · (go_simp; refine hK _ _ ?_; clear hK K)
        refine wpAnyIn_ready (rs := [0, 2]) (by kernel_rfl) (by simp) ?_
        refine AllReadyIn.cons rfl (fun K hK => ?_) (AllReadyIn.cons rfl (fun K hK => ?_) AllReadyIn.nil)
        · (go_simp; refine hK _ _ ?_; clear hK K)
          refine wpAnyIn_ready (rs := [2]) (by kernel_rfl) (by simp) ?_
          refine AllReadyIn.cons rfl (fun K hK => ?_) AllReadyIn.nil
          (go_simp; refine hK _ _ ?_; clear hK K)
          refine wpAnyIn_ready (rs := [3]) (by kernel_rfl) (by simp) ?_
          refine AllReadyIn.cons rfl (fun K hK => ?_) AllReadyIn.nil
          (go_simp; refine ⟨trivial, ?_⟩; gi_at_call 78; refine (CallsIn.inRound l (callsIn_wide.2 (cloneI_any w1.drew x.1.2.it RI.out))).mono ?_; rintro e w2 ⟨y, he, hb2, hy, hyi, -, -⟩; obtain rfl : e = .returned (.agg #[.int .u32 (y.id : Int), .slice y.pv.1 y.pv.2.1 y.pv.2.2, .slice y.pt.1 y.pt.2.1 y.pt.2.2]) := he; have e1 := (Kept.of_below (F := []) hb2 (Nat.le_refl _)).blk (c1.of_eq (w' := w1.drew) rfl) (by simp); have z0' : w2.cell? ⟨w.heap.size, 0, none⟩ = some (.slice sa q sc) := e1.cell 0; have z0'' : (w2.alloc (.cells #[.int .u32 (y.id : Int), .slice y.pv.1 y.pv.2.1 y.pv.2.2, .slice y.pt.1 y.pt.2.1 y.pt.2.2] 73)).cell? ⟨w.heap.size, 0, none⟩ = some (.slice sa q sc) := (e1.alloc _).cell 0; have C2 := Lib.hid (RowC.on (RowC.kept c2 ((Kept.refl [] w1).drew) (by simp)) hb2); have hws2 : w.heap.size ≤ w2.heap.size := Nat.le_of_lt e1.lt; go_simp; refine hK _ _ ?_; clear hK K)
          refine wpAnyIn_ready (rs := [4]) (by kernel_rfl) (by simp) ?_
          refine AllReadyIn.cons rfl (fun K hK => ?_) AllReadyIn.nil
          (go_simp; refine hK _ _ ?_; clear hK K)
          refine wpAnyIn_ready (rs := [5]) (by kernel_rfl) (by simp) ?_
          refine AllReadyIn.cons rfl (fun K hK => ?_) AllReadyIn.nil
          (refine step_cIn w2 (by rfl) (.tmp 42) (.tmp 46) 45 (by rfl) Tryz.underlying45 (.agg #[.int .u32 0, .slice none 0 0, .slice none 0 0]) 56 item_info3 rfl (by decide) [.int .u32 (y.id : Int), .slice y.pv.1 y.pv.2.1 y.pv.2.2, .slice y.pt.1 y.pt.2.1 y.pt.2.2] (by rfl) (by rfl) C2.out rfl (by simp [Value.oneCell']) hws2 (by rw [List.length_map, HQ.out]; omega) (by rw [List.length_map, HQ.out]; omega) ?_; intro v8 w8 hr8 hk8 hg8 hgr8; obtain ⟨sa8, sc8, e8, _⟩ := hr8.form; obtain ⟨n8, hn8⟩ : ∃ n8, (xs.map ItL.cells ++ [y.cells]).length = n8 := ⟨_, rfl⟩; obtain rfl : v8 = .slice sa8 n8 sc8 := e8.trans (by rw [← hn8]; rfl); clear e8 hn8; have E8 := Lib.hid (colEnd hp3.2.size hb2 hy hyi c1 c2 c3 c4 hr8 hk8 hg8); have z8 : w8.cell? ⟨w.heap.size, 0, none⟩ = some (.slice sa q sc) := E8.out.1.cell 0; have f8 := E8.out.1.frozen 0; refine hK _ _ ?_; clear hK K)
          refine wpAnyIn_ready (rs := [6]) (by kernel_rfl) (by simp) ?_
          refine AllReadyIn.cons rfl (fun K hK => ?_) AllReadyIn.nil
          (go_simp; refine hK _ _ ?_; clear hK K)
          refine wpAnyIn_done (by kernel_rfl) ?_ _
          exact E8.out.2 hp1 hp2 hp3 hs1 CS.out
        · (go_simp; refine hK _ _ ?_; clear hK K)
          refine wpAnyIn_ready (rs := [0, 3]) (by kernel_rfl) (by simp) ?_
          refine AllReadyIn.cons rfl (fun K hK => ?_) (AllReadyIn.cons rfl (fun K hK => ?_) AllReadyIn.nil)
          · (go_simp; refine hK _ _ ?_; clear hK K)
            refine wpAnyIn_ready (rs := [3]) (by kernel_rfl) (by simp) ?_
            refine AllReadyIn.cons rfl (fun K hK => ?_) AllReadyIn.nil
            (go_simp; refine ⟨trivial, ?_⟩; gi_at_call 78; refine (CallsIn.inRound l (callsIn_wide.2 (cloneI_any w1.drew x.1.2.it RI.out))).mono ?_; rintro e w2 ⟨y, he, hb2, hy, hyi, -, -⟩; obtain rfl : e = .returned (.agg #[.int .u32 (y.id : Int), .slice y.pv.1 y.pv.2.1 y.pv.2.2, .slice y.pt.1 y.pt.2.1 y.pt.2.2]) := he; have e1 := (Kept.of_below (F := []) hb2 (Nat.le_refl _)).blk (c1.of_eq (w' := w1.drew) rfl) (by simp); have z0' : w2.cell? ⟨w.heap.size, 0, none⟩ = some (.slice sa q sc) := e1.cell 0; have z0'' : (w2.alloc (.cells #[.int .u32 (y.id : Int), .slice y.pv.1 y.pv.2.1 y.pv.2.2, .slice y.pt.1 y.pt.2.1 y.pt.2.2] 73)).cell? ⟨w.heap.size, 0, none⟩ = some (.slice sa q sc) := (e1.alloc _).cell 0; have C2 := Lib.hid (RowC.on (RowC.kept c2 ((Kept.refl [] w1).drew) (by simp)) hb2); have hws2 : w.heap.size ≤ w2.heap.size := Nat.le_of_lt e1.lt; go_simp; refine hK _ _ ?_; clear hK K)
            refine wpAnyIn_ready (rs := [4]) (by kernel_rfl) (by simp) ?_
            refine AllReadyIn.cons rfl (fun K hK => ?_) AllReadyIn.nil
            (go_simp; refine hK _ _ ?_; clear hK K)
            refine wpAnyIn_ready (rs := [5]) (by kernel_rfl) (by simp) ?_
            refine AllReadyIn.cons rfl (fun K hK => ?_) AllReadyIn.nil
            (refine step_cIn w2 (by rfl) (.tmp 42) (.tmp 46) 45 (by rfl) Tryz.underlying45 (.agg #[.int .u32 0, .slice none 0 0, .slice none 0 0]) 56 item_info3 rfl (by decide) [.int .u32 (y.id : Int), .slice y.pv.1 y.pv.2.1 y.pv.2.2, .slice y.pt.1 y.pt.2.1 y.pt.2.2] (by rfl) (by rfl) C2.out rfl (by simp [Value.oneCell']) hws2 (by rw [List.length_map, HQ.out]; omega) (by rw [List.length_map, HQ.out]; omega) ?_; intro v8 w8 hr8 hk8 hg8 hgr8; obtain ⟨sa8, sc8, e8, _⟩ := hr8.form; obtain ⟨n8, hn8⟩ : ∃ n8, (xs.map ItL.cells ++ [y.cells]).length = n8 := ⟨_, rfl⟩; obtain rfl : v8 = .slice sa8 n8 sc8 := e8.trans (by rw [← hn8]; rfl); clear e8 hn8; have E8 := Lib.hid (colEnd hp3.2.size hb2 hy hyi c1 c2 c3 c4 hr8 hk8 hg8); have z8 : w8.cell? ⟨w.heap.size, 0, none⟩ = some (.slice sa q sc) := E8.out.1.cell 0; have f8 := E8.out.1.frozen 0; refine hK _ _ ?_; clear hK K)
            refine wpAnyIn_ready (rs := [6]) (by kernel_rfl) (by simp) ?_
            refine AllReadyIn.cons rfl (fun K hK => ?_) AllReadyIn.nil
            (go_simp; refine hK _ _ ?_; clear hK K)
            refine wpAnyIn_done (by kernel_rfl) ?_ _
            exact E8.out.2 hp1 hp2 hp3 hs1 CS.out
          · (go_simp; refine ⟨trivial, ?_⟩; gi_at_call 78; refine (CallsIn.inRound l (callsIn_wide.2 (cloneI_any w1.drew x.1.2.it RI.out))).mono ?_; rintro e w2 ⟨y, he, hb2, hy, hyi, -, -⟩; obtain rfl : e = .returned (.agg #[.int .u32 (y.id : Int), .slice y.pv.1 y.pv.2.1 y.pv.2.2, .slice y.pt.1 y.pt.2.1 y.pt.2.2]) := he; have e1 := (Kept.of_below (F := []) hb2 (Nat.le_refl _)).blk (c1.of_eq (w' := w1.drew) rfl) (by simp); have z0' : w2.cell? ⟨w.heap.size, 0, none⟩ = some (.slice sa q sc) := e1.cell 0; have z0'' : (w2.alloc (.cells #[.int .u32 (y.id : Int), .slice y.pv.1 y.pv.2.1 y.pv.2.2, .slice y.pt.1 y.pt.2.1 y.pt.2.2] 73)).cell? ⟨w.heap.size, 0, none⟩ = some (.slice sa q sc) := (e1.alloc _).cell 0; have C2 := Lib.hid (RowC.on (RowC.kept c2 ((Kept.refl [] w1).drew) (by simp)) hb2); have hws2 : w.heap.size ≤ w2.heap.size := Nat.le_of_lt e1.lt; go_simp; refine hK _ _ ?_; clear hK K)
            refine wpAnyIn_ready (rs := [0, 4]) (by kernel_rfl) (by simp) ?_
            refine AllReadyIn.cons rfl (fun K hK => ?_) (AllReadyIn.cons rfl (fun K hK => ?_) AllReadyIn.nil)
            · (go_simp; refine hK _ _ ?_; clear hK K)
              refine wpAnyIn_ready (rs := [4]) (by kernel_rfl) (by simp) ?_
              refine AllReadyIn.cons rfl (fun K hK => ?_) AllReadyIn.nil
              (go_simp; refine hK _ _ ?_; clear hK K)
              refine wpAnyIn_ready (rs := [5]) (by kernel_rfl) (by simp) ?_
              refine AllReadyIn.cons rfl (fun K hK => ?_) AllReadyIn.nil
              (refine step_cIn w2 (by rfl) (.tmp 42) (.tmp 46) 45 (by rfl) Tryz.underlying45 (.agg #[.int .u32 0, .slice none 0 0, .slice none 0 0]) 56 item_info3 rfl (by decide) [.int .u32 (y.id : Int), .slice y.pv.1 y.pv.2.1 y.pv.2.2, .slice y.pt.1 y.pt.2.1 y.pt.2.2] (by rfl) (by rfl) C2.out rfl (by simp [Value.oneCell']) hws2 (by rw [List.length_map, HQ.out]; omega) (by rw [List.length_map, HQ.out]; omega) ?_; intro v8 w8 hr8 hk8 hg8 hgr8; obtain ⟨sa8, sc8, e8, _⟩ := hr8.form; obtain ⟨n8, hn8⟩ : ∃ n8, (xs.map ItL.cells ++ [y.cells]).length = n8 := ⟨_, rfl⟩; obtain rfl : v8 = .slice sa8 n8 sc8 := e8.trans (by rw [← hn8]; rfl); clear e8 hn8; have E8 := Lib.hid (colEnd hp3.2.size hb2 hy hyi c1 c2 c3 c4 hr8 hk8 hg8); have z8 : w8.cell? ⟨w.heap.size, 0, none⟩ = some (.slice sa q sc) := E8.out.1.cell 0; have f8 := E8.out.1.frozen 0; refine hK _ _ ?_; clear hK K)
              refine wpAnyIn_ready (rs := [6]) (by kernel_rfl) (by simp) ?_
              refine AllReadyIn.cons rfl (fun K hK => ?_) AllReadyIn.nil
              (go_simp; refine hK _ _ ?_; clear hK K)
              refine wpAnyIn_done (by kernel_rfl) ?_ _
              exact E8.out.2 hp1 hp2 hp3 hs1 CS.out
            · (go_simp; refine hK _ _ ?_; clear hK K)
              refine wpAnyIn_ready (rs := [0]) (by kernel_rfl) (by simp) ?_
              refine AllReadyIn.cons rfl (fun K hK => ?_) AllReadyIn.nil
              (go_simp; refine hK _ _ ?_; clear hK K)
              refine wpAnyIn_ready (rs := [5]) (by kernel_rfl) (by simp) ?_
              refine AllReadyIn.cons rfl (fun K hK => ?_) AllReadyIn.nil
              (refine step_cIn w2 (by rfl) (.tmp 42) (.tmp 46) 45 (by rfl) Tryz.underlying45 (.agg #[.int .u32 0, .slice none 0 0, .slice none 0 0]) 56 item_info3 rfl (by decide) [.int .u32 (y.id : Int), .slice y.pv.1 y.pv.2.1 y.pv.2.2, .slice y.pt.1 y.pt.2.1 y.pt.2.2] (by rfl) (by rfl) C2.out rfl (by simp [Value.oneCell']) hws2 (by rw [List.length_map, HQ.out]; omega) (by rw [List.length_map, HQ.out]; omega) ?_; intro v8 w8 hr8 hk8 hg8 hgr8; obtain ⟨sa8, sc8, e8, _⟩ := hr8.form; obtain ⟨n8, hn8⟩ : ∃ n8, (xs.map ItL.cells ++ [y.cells]).length = n8 := ⟨_, rfl⟩; obtain rfl : v8 = .slice sa8 n8 sc8 := e8.trans (by rw [← hn8]; rfl); clear e8 hn8; have E8 := Lib.hid (colEnd hp3.2.size hb2 hy hyi c1 c2 c3 c4 hr8 hk8 hg8); have z8 : w8.cell? ⟨w.heap.size, 0, none⟩ = some (.slice sa q sc) := E8.out.1.cell 0; have f8 := E8.out.1.frozen 0; refine hK _ _ ?_; clear hK K)
              refine wpAnyIn_ready (rs := [6]) (by kernel_rfl) (by simp) ?_
              refine AllReadyIn.cons rfl (fun K hK => ?_) AllReadyIn.nil
              (go_simp; refine hK _ _ ?_; clear hK K)
              refine wpAnyIn_done (by kernel_rfl) ?_ _
              exact E8.out.2 hp1 hp2 hp3 hs1 CS.out
    case done =>
      rintro D ys W hD rfl ⟨⟨⟨⟨d2, d1⟩, d3, d4⟩, hB⟩, sv, xs, c1, c2, c3, c4⟩ hK
      have z0 : W.cell? ⟨w.heap.size, 0, none⟩ = some sv := c1.cell 0
      obtain ⟨sa, sc, hsv, -⟩ := c2.form
      have hxl : xs.length ≤ 1000000 := by
        have h1 := colS_le (bk L v L.length)
        rw [← c4, List.length_map] at h1
        have h2 := bk_len L v L.length
        have := PC.hL
        omega
      have G := Lib.hid (show (PastC.st L last floor kept).all v = (allI (rowsV L) v (rowsV L).length, 0) from by rw [PastV.all, HZ.out]; rfl)
      obtain ⟨q, hq⟩ : ∃ q, xs.length = q := ⟨_, rfl⟩
      have HQ := Lib.hid hq
      rw [hq] at hsv hxl
      clear hq
      subst hsv
      have C1 := Lib.hid c1
      have C2 := Lib.hid c2
      have C3 := Lib.hid c3
      have C4 := Lib.hid c4
      have HB := Lib.hid hB
      clear c1 c2 c3 c4 d1 d2 d3 d4 hB
      gi_wp2
      refine ⟨trivial, ?_⟩
      refine (callsIn_wide.2 (sort_items w.heap.size W (.slice sa q sc) xs C2.out (by rw [HQ.out]; exact hxl))).mono ?_
      rintro e w9 ⟨rfl, ys, hp, hs, hr9, hk9⟩
      have hne : w.heap.size ∉ ownB (.slice sa q sc) := fun hh => row_blk8 C2.out.2 C1.out (by decide) (mem_ownB.1 hh)
      have b9 := hk9.blk C1.out hne
      have z9 : w9.cell? ⟨w.heap.size, 0, none⟩ = some (.slice sa q sc) := b9.cell 0
      have hK9 : w9.heap[D]? = some (.deferred (some [])) := (hk9.block D (Array.getElem?_eq_some_iff.1 hK).1 (fun hh => by
        rcases C2.out.2.2 with ⟨h0, _⟩ | ⟨g', cap, cur, hv', _, hh', _⟩
        · rw [h0] at hh
          cases mem_ownB.1 hh
        · rw [hv'] at hh
          have h7 := mem_ownB.1 hh
          cases h7
          rw [hh'] at hK
          cases hK)).trans hK
      have FIN := Lib.hid (allFin (w := w) (o' := .deferred none) (C2.out) C3.out C4.out HB.out hp hs hr9 hk9 hK9 (show w.heap.size ≤ D by omega) rfl)
      have KD := Lib.hid hK9
      clear hr9 hk9 hs hp hK9 b9 hK
      gi_wp2
      refine ⟨by simp, .inl ⟨_, _, rfl, run_takeDeferred KD.out, ?_⟩⟩
      exact ⟨_, results_tmp2 rfl _ _ _, FIN.out.1, _, ys, by rw [G.out]; rfl, FIN.out.2.1, FIN.out.2.2.1, by rw [G.out]; exact FIN.out.2.2.2⟩
    case stop =>
      rintro D c pre W hD hp h hK
      exact h.elim

theorem all_past (w : World) (lo g : Nat) (It : List Nat) (u k : Value) (L : List RowL) (last floor : Nat) (kept : List Nat) (v : Nat) (hv : v < 18446744073709551616) (PC : PastC w lo g It u k L last floor kept) :
    Calls Tryz.prog 50 #[.pointer (some ⟨g, 0, none⟩), .int .u64 (v : Int)] w fun e W' => AllPostC ((PastC.st L last floor kept).all v) w e W' :=
  callsIn_wide.1 (all_in w lo g It u k L last floor kept v hv PC)
end Go.Proofs.YtdmnflncgmnghaaGreat
