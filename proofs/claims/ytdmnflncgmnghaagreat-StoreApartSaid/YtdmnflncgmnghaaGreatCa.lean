/-
  The program's past: All, by a walk over its text: a range over a function whose body looks into a map, stores into it, and collects.
-/
import Derived.Test.YtdmnflncgmnghaaGreatCm
import Derived.Test.YtdmnflncgmnghaaGreatCb
import Derived.Test.YtdmnflncgmnghaaGreatCs
import Derived.Test.YtdmnflncgmnghaaGreatCl
namespace Go.Proofs.YtdmnflncgmnghaaGreat
open Go.RowKit Go.Shelf

attribute [local go_sem] Oper.semAt_some

theorem own_grown {W W' : World} {row : Option Nat} {lo k n : Nat} {t : TypeId} {v : Value} {cs : List Value} (h : W.ownsRow lo t k v n cs) (hg : W.grownBy W' row) (hr : ∀ r, row = some r → ∃ o : Obj, W.heap[r]? = some o ∧ o.isCells = false) : W'.ownsRow lo t k v n cs := by
  refine ⟨h.1, ?_⟩
  rcases h.2 with h2 | ⟨g, cap, cur, rfl, hb, hh, h3⟩
  · exact .inl h2
  · refine .inr ⟨g, cap, cur, rfl, hb, (hg.block g (Array.getElem?_eq_some_iff.1 hh).1 (fun e => ?_)).trans hh, h3⟩
    obtain ⟨o, ho, hc⟩ := hr g e.symm
    rw [hh] at ho
    cases ho
    cases hc
theorem ItL.OwnI.grown {W W' : World} {row : Option Nat} {lo : Nat} {x : ItL} (h : x.OwnI lo W) (hg : W.grownBy W' row) (hr : ∀ r, row = some r → ∃ o : Obj, W.heap[r]? = some o ∧ o.isCells = false) : x.OwnI lo W' :=
  ⟨h.hid, own_grown h.vec hg hr, own_grown h.tags hg hr, h.wv, h.wt, h.lv, h.lt⟩
/-- What has been met, and what of it is there. -/
def colS {L : List RowL} (pre : List (BackT L)) : List Nat × List ItemV := pre.foldl (fun s x => (s.1 ++ [x.1.2.id], if s.1.contains x.1.2.id || x.1.2.gone then s.2 else s.2 ++ [x.1.2.item])) ([], [])
theorem colS_snoc {L : List RowL} (pre : List (BackT L)) (x : BackT L) : colS (pre ++ [x]) = ((colS pre).1 ++ [x.1.2.id], if (colS pre).1.contains x.1.2.id || x.1.2.gone then (colS pre).2 else (colS pre).2 ++ [x.1.2.item]) := by simp [colS]
theorem snoc_ind {α : Type} {P : List α → Prop} (h0 : P []) (h1 : ∀ l x, P l → P (l ++ [x])) : ∀ l, P l := fun l => by
  rw [← List.reverse_reverse l]
  induction l.reverse with
  | nil => exact h0
  | cons x m ih =>
    rw [List.reverse_cons]
    exact h1 _ _ ih
theorem colS_len {L : List RowL} (pre : List (BackT L)) : (colS pre).1.length = pre.length := by
  induction pre using snoc_ind with
  | h0 => rfl
  | h1 l x ih =>
    rw [colS_snoc]
    simp [ih]
theorem colS_ids {L : List RowL} (pre : List (BackT L)) (id : Nat) : id ∈ (colS pre).1 ↔ ∃ x ∈ pre, x.1.2.id = id := by
  induction pre using snoc_ind with
  | h0 => simp [colS]
  | h1 l x ih =>
    rw [colS_snoc]
    simp only [List.mem_append, List.mem_singleton, ih]
    constructor
    · rintro (⟨y, hy, h⟩ | h)
      · exact ⟨y, .inl hy, h⟩
      · exact ⟨x, .inr rfl, h.symm⟩
    · rintro ⟨y, hy | rfl, h⟩
      · exact .inl ⟨y, hy, h⟩
      · exact .inr h.symm
theorem colS_there {L : List RowL} (pre : List (BackT L)) (y : ItemV) : y ∈ (colS pre).2 ↔ ∃ r : RowL, ((pre.find? fun x => x.1.2.id == y.id).map fun x => x.1.2) = some r ∧ r.gone = false ∧ r.item = y := by
  induction pre using snoc_ind with
  | h0 => simp [colS]
  | h1 l x ih =>
    rw [colS_snoc, List.find?_append]
    simp only
    cases hf : l.find? fun x => x.1.2.id == y.id with
    | some z =>
      rw [hf] at ih
      have hz : z.1.2.id = y.id := by simpa using List.find?_some hf
      rw [Option.some_or]
      rw [← ih]
      split
      · exact Iff.rfl
      · rename_i hc
        rw [List.mem_append, List.mem_singleton]
        constructor
        · rintro (h | h)
          · exact h
          · exfalso
            apply hc
            have hm : (colS l).1.contains x.1.2.id = true := by
              rw [List.contains_iff_mem]
              refine (colS_ids l _).2 ⟨z, List.mem_of_find?_eq_some hf, ?_⟩
              rw [hz, h]
              rfl
            rw [hm]
            rfl
        · exact .inl
    | none =>
      rw [hf] at ih
      have hn : ∀ z ∈ l, z.1.2.id ≠ y.id := fun z hz => by simpa using List.find?_eq_none.1 hf z hz
      rw [Option.none_or]
      have hno : y ∉ (colS l).2 := fun h => by
        obtain ⟨r, h1, _⟩ := ih.1 h
        cases h1
      by_cases hx : x.1.2.id = y.id
      · have hc : (colS l).1.contains x.1.2.id = false := by
          rw [Bool.eq_false_iff]
          intro h
          rw [List.contains_iff_mem, colS_ids] at h
          obtain ⟨z, hz, h⟩ := h
          exact hn z hz (h.trans hx)
        have hfx : List.find? (fun x : BackT L => x.1.2.id == y.id) [x] = some x := by simp [hx]
        rw [hfx, hc]
        simp only [Bool.false_or, Option.map_some, Option.some.injEq]
        cases hg : x.1.2.gone
        · simp only [Bool.false_eq_true, if_false, List.mem_append, List.mem_singleton, hno, false_or]
          constructor
          · intro h
            exact ⟨_, rfl, hg, h.symm⟩
          · rintro ⟨r, rfl, _, h⟩
            exact h.symm
        · simp only [if_true, hno, false_iff]
          rintro ⟨r, rfl, h, _⟩
          rw [hg] at h
          cases h
      · have hfx : List.find? (fun x : BackT L => x.1.2.id == y.id) [x] = none := by simp [hx]
        rw [hfx]
        simp only [Option.map_none, reduceCtorEq, false_and, exists_false, iff_false]
        split
        · exact hno
        · rw [List.mem_append, List.mem_singleton]
          rintro (h | h)
          · exact hno h
          · exact hx (by rw [h]; rfl)
theorem colS_nodup {L : List RowL} (pre : List (BackT L)) : (colS pre).2.Pairwise (fun x y => x.id ≠ y.id) ∧ ∀ y ∈ (colS pre).2, y.id ∈ (colS pre).1 := by
  induction pre using snoc_ind with
  | h0 => simp [colS]
  | h1 l x ih =>
    rw [colS_snoc]
    simp only
    split
    · exact ⟨ih.1, fun y hy => List.mem_append.2 (.inl (ih.2 y hy))⟩
    · rename_i hc
      refine ⟨List.pairwise_append.2 ⟨ih.1, by simp, fun a ha b hb => ?_⟩, fun y hy => ?_⟩
      · rw [List.mem_singleton.1 hb]
        intro he
        apply hc
        have h1 := ih.2 a ha
        rw [he] at h1
        have h2 : (colS l).1.contains x.1.2.id = true := List.contains_iff_mem.2 h1
        rw [h2]
        rfl
      · rcases List.mem_append.1 hy with hy | hy
        · exact List.mem_append.2 (.inl (ih.2 y hy))
        · rw [List.mem_singleton.1 hy]
          exact List.mem_append.2 (.inr (by simp [RowL.item]))
/-- What is collected, put in order: all that is there. -/
theorem colS_all (L : List RowL) (v : Nat) (ys : List ItemV) (hp : ys.Perm (colS (bk L v L.length)).2) (hs : ys.Pairwise fun x y => x.id ≤ y.id) : ys = allI (rowsV L) v (rowsV L).length := by
  refine rising_ext _ _ ?_ (allI_rising _ _ _) (fun x => ?_)
  · have hd : ys.Pairwise (fun x y => x.id ≠ y.id) := (hp.pairwise_iff (fun h e => h e.symm)).2 (colS_nodup _).1
    exact (hs.and hd).imp fun h => by omega
  · rw [hp.mem_iff, colS_there, all_there, there_last]
    show (∃ r, lastL L x.id v = some r ∧ _) ↔ _
    cases hl : lastL L x.id v with
    | none => simp
    | some r =>
      constructor
      · rintro ⟨r', h1, h2, h3⟩
        cases h1
        exact ⟨r.toR, by simp [RowL.toR, h2, Option.filter], h3⟩
      · rintro ⟨r', h1, h2⟩
        cases hg : r.gone with
        | true => simp [RowL.toR, hg, Option.filter] at h1
        | false =>
          simp [RowL.toR, hg, Option.filter] at h1
          subst h1
          exact ⟨r, rfl, hg, h2⟩
/-- The list so far: items of the call's own in a row of the call's own, in a box. -/
def ColAt (W : World) (n : Nat) (l : List ItemV) : Prop := ∃ (sv : Value) (xs : List ItL), Blk W n 45 [sv] ∧ ItsAt n W sv xs ∧ (∀ x ∈ xs, x.OwnI n W ∧ (∀ b ∈ x.bs, sv.ownBlock ≠ some b)) ∧ xs.map ItL.toI = l
theorem ColAt.grown {W W' : World} {row : Option Nat} {n : Nat} {l : List ItemV} (h : ColAt W n l) (hg : W.grownBy W' row) (hr : ∀ r, row = some r → ∃ o : Obj, W.heap[r]? = some o ∧ o.isCells = false) : ColAt W' n l := by
  obtain ⟨sv, xs, h1, h2, h3, h4⟩ := h
  exact ⟨sv, xs, blk_own n _ (fun (_ : Unit) => [sv]) () W W' row h1 hg hr, ⟨h2.1, own_grown h2.2 hg hr⟩, fun x hx => ⟨(h3 x hx).1.grown hg hr, (h3 x hx).2⟩, h4⟩
/-- Between two rounds of All. -/
def AllInv (w : World) (g v : Nat) (L : List RowL) (pre : List (BackT L)) (W : World) : Prop :=
  (((Blk W (w.heap.size + 2) 153 [.map (some (w.heap.size + 1))] ∧ SetAt W (w.heap.size + 1) (colS pre).1) ∧ Blk W (w.heap.size + 3) 102 [.pointer (some ⟨g, 0, none⟩)] ∧ Blk W (w.heap.size + 4) 27 [.int .u64 (v : Int)]) ∧ Below w.heap.size w W) ∧ ColAt W w.heap.size (colS pre).2
theorem allInv_own {w : World} {g v : Nat} {L : List RowL} {B : Nat} (hB : w.heap.size + 1 < B) : OwnFrom B (AllInv w g v L) := fun s X Y row hs hg hr => by
  obtain ⟨⟨⟨⟨h1, h2⟩, h3, h4⟩, h5⟩, h6⟩ := hs
  have hr2 : ∀ r, row = some r → ∃ o : Obj, X.heap[r]? = some o ∧ o.isCells = false := fun r e => (hr r e).2
  exact ⟨⟨⟨⟨blk_own _ _ (fun (_ : Unit) => _) () X Y row h1 hg hr2, h2.kept hg (fun e => by have := (hr _ e).1; omega)⟩, blk_own _ _ (fun (_ : Unit) => _) () X Y row h3 hg hr2, blk_own _ _ (fun (_ : Unit) => _) () X Y row h4 hg hr2⟩, ownFrom_below (Nat.le_refl _) (by omega) () X Y row h5 hg hr⟩, h6.grown hg hr2⟩

end Go.Proofs.YtdmnflncgmnghaaGreat
