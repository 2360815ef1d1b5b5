/-
  StoreApart holds: what is written to one collection changes nothing of another one, but for the version.
-/
import Derived.Test.YtdmnflncgmnghaaGreatRows
import Derived.Test.YtdmnflncgmnghaaGreatYa
namespace Go.Proofs.YtdmnflncgmnghaaGreat
open Go.ChangeShapes Go.WideShapes Go.ChangeAt Go.RowKit

/-- A row without its version. -/
def bareR (r : RowV) : Bool × ItemV := (r.gone, r.item)
def SameI (p q : PastV) : Prop := p.rows.map bareR = q.rows.map bareR
theorem SameI.refl (p : PastV) : SameI p p := rfl
theorem SameI.len {p q : PastV} (h : SameI p q) : p.rows.length = q.rows.length := by
  have := congrArg List.length h
  rwa [List.length_map, List.length_map] at this
theorem same_at {L M : List RowV} (h : L.map bareR = M.map bareR) (i : Nat) : (L[i]?).map bareR = (M[i]?).map bareR := by
  rw [← List.getElem?_map, ← List.getElem?_map, h]
theorem lastR_bare {P Q : RowV → Bool} {R : Bool × ItemV → Bool} : ∀ (l m : List RowV), l.map bareR = m.map bareR → (∀ r ∈ l, P r = R (bareR r)) → (∀ r ∈ m, Q r = R (bareR r)) → lastR P l = lastR Q m := by
  intro l
  induction l with
  | nil =>
    intro m h _ _
    have : m = [] := by simpa using h.symm
    rw [this]
    rfl
  | cons x l ih =>
    intro m h h1 h2
    cases m with
    | nil => simp at h
    | cons y m =>
      simp only [List.map_cons, List.cons.injEq] at h
      have hl : l.length = m.length := by
        have := congrArg List.length h.2
        rwa [List.length_map, List.length_map] at this
      unfold lastR
      rw [h1 x (by simp), h2 y (by simp), h.1, ih m h.2 (fun r hr => h1 r (List.mem_cons_of_mem _ hr)) (fun r hr => h2 r (List.mem_cons_of_mem _ hr)), hl]
/-- At versions that cover all rows the places are the same. -/
theorem atP_bare {L M : List RowV} {v v' : Nat} (h : L.map bareR = M.map bareR) (h1 : ∀ r ∈ L, r.v ≤ v) (h2 : ∀ r ∈ M, r.v ≤ v') (id : Nat) : atP L id v = atP M id v' :=
  lastR_bare (R := fun b => b.2.id == id) L.reverse M.reverse (by rw [List.map_reverse, List.map_reverse, h])
    (fun r hr => by
      unfold RowV.hit
      rw [decide_eq_true (h1 r (by simpa using hr)), Bool.and_true]
      rfl)
    (fun r hr => by
      unfold RowV.hit
      rw [decide_eq_true (h2 r (by simpa using hr)), Bool.and_true]
      rfl)
theorem thereP_bare {L M : List RowV} {v v' : Nat} (h : L.map bareR = M.map bareR) (h1 : ∀ r ∈ L, r.v ≤ v) (h2 : ∀ r ∈ M, r.v ≤ v') (id : Nat) : (thereP L id v).map bareR = (thereP M id v').map bareR := by
  unfold thereP
  rw [atP_bare h h1 h2 id]
  split
  · rfl
  · have := same_at h (atP M id v').toNat
    cases hL : L[(atP M id v').toNat]? with
    | none =>
      rw [hL] at this
      cases hM : M[(atP M id v').toNat]? with
      | none => rfl
      | some s =>
        rw [hM] at this
        cases this
    | some r =>
      rw [hL] at this
      cases hM : M[(atP M id v').toNat]? with
      | none =>
        rw [hM] at this
        cases this
      | some s =>
        rw [hM] at this
        have hb : bareR r = bareR s := Option.some.inj this
        have hg : r.gone = s.gone := congrArg Prod.fst hb
        rw [Option.filter_some, Option.filter_some, hg]
        split
        · rw [Option.map_some, Option.map_some, hb]
        · rfl
theorem allI_bare {L M : List RowV} {v v' : Nat} (h : L.map bareR = M.map bareR) (h1 : ∀ r ∈ L, r.v ≤ v) (h2 : ∀ r ∈ M, r.v ≤ v') : ∀ i, allI L v i = allI M v' i := by
  intro i
  induction i with
  | zero => rfl
  | succ i ih =>
    have := same_at h i
    rw [allI, allI]
    cases hL : L[i]? with
    | none =>
      rw [hL] at this
      cases hM : M[i]? with
      | none => exact ih
      | some s =>
        rw [hM] at this
        cases this
    | some r =>
      rw [hL] at this
      cases hM : M[i]? with
      | none =>
        rw [hM] at this
        cases this
      | some s =>
        rw [hM] at this
        have hb : bareR r = bareR s := Option.some.inj this
        have hg : r.gone = s.gone := congrArg Prod.fst hb
        have hi : r.item = s.item := congrArg Prod.snd hb
        simp only
        rw [hg, hi, atP_bare h h1 h2, ih]
theorem sweepI_bare {L M : List RowV} {v v' : Nat} (h : L.map bareR = M.map bareR) (h1 : ∀ r ∈ L, r.v ≤ v) (h2 : ∀ r ∈ M, r.v ≤ v') : ∀ i, (sweepI L v [] i).map bareR = (sweepI M v' [] i).map bareR := by
  intro i
  induction i with
  | zero => rfl
  | succ i ih =>
    have := same_at h i
    cases hL : L[i]? with
    | none =>
      rw [hL] at this
      cases hM : M[i]? with
      | none =>
        rw [sweepI, sweepI, hL, hM]
        exact ih
      | some s =>
        rw [hM] at this
        cases this
    | some r =>
      rw [hL] at this
      cases hM : M[i]? with
      | none =>
        rw [hM] at this
        cases this
      | some s =>
        rw [hM] at this
        have hb : bareR r = bareR s := Option.some.inj this
        have hg : r.gone = s.gone := congrArg Prod.fst hb
        have hi : r.item = s.item := congrArg Prod.snd hb
        rw [sweepI_succ L v [] hL, sweepI_succ M v' [] hM]
        have ha : ((sweepI L v [] i).any fun t => t.item.id == r.item.id) = ((sweepI M v' [] i).any fun t => t.item.id == s.item.id) := by
          have e : ∀ (l : List RowV) (k : Nat), (l.any fun t => t.item.id == k) = (l.map bareR).any fun b => b.2.id == k := fun l k => by
            rw [List.any_map]
            rfl
          rw [e, e, ih, hi]
        have hn : needP L v [] r i = needP M v' [] s i := by
          unfold needP
          rw [hi, atP_bare h h1 h2]
          rfl
        rw [ha, hn, hg]
        split
        · rw [List.map_append, List.map_append, ih, List.map_cons, List.map_cons, hb]
        · exact ih
theorem SameI.all {p q : PastV} {V V' : Nat} (h : SameI p q) (hp : GoodP V p) (hq : GoodP V' q) : p.all p.last = q.all q.last := by
  unfold PastV.all
  rw [hp.now (Nat.le_refl _), hq.now (Nat.le_refl _), if_pos rfl, if_pos rfl, allI_bare h hp.rows hq.rows, h.len]
theorem SameI.sweep {p q : PastV} {V V' : Nat} (h : SameI p q) (hp : GoodP V p) (hq : GoodP V' q) : SameI (p.sweep []).1 (q.sweep []).1 := by
  show (sweepI p.rows p.last [] p.rows.length).map bareR = (sweepI q.rows q.last [] q.rows.length).map bareR
  rw [h.len]
  exact sweepI_bare h hp.rows hq.rows _
theorem SameI.lay {p q : PastV} {V V' : Nat} {r s : RowV} (h : SameI p q) (hp : GoodP V p) (hq : GoodP V' q) (hr : r.v = V) (hs : s.v = V') (hV : 1 ≤ V) (hV' : 1 ≤ V') (hb : bareR r = bareR s) : SameI (p.lay r).1 (q.lay s).1 := by
  have hg : r.gone = s.gone := congrArg Prod.fst hb
  have hi : r.item = s.item := congrArg Prod.snd hb
  have ht := thereP_bare h (v := r.v) (v' := s.v) (fun x hx => by have h1 := hp.rows x hx; have h2 := hp.last; omega) (fun x hx => by have h1 := hq.rows x hx; have h2 := hq.last; omega) r.item.id
  have hn : thereP p.rows r.item.id r.v = none ↔ thereP q.rows s.item.id s.v = none := by
    rw [← hi]
    constructor
    · intro e
      rw [e] at ht
      cases hq2 : thereP q.rows r.item.id s.v with
      | none => rfl
      | some x =>
        rw [hq2] at ht
        cases ht
    · intro e
      rw [e] at ht
      cases hp2 : thereP p.rows r.item.id r.v with
      | none => rfl
      | some x =>
        rw [hp2] at ht
        cases ht
  have hl := h.len
  have h3 := hp.last
  have h4 := hq.last
  unfold PastV.lay
  rw [if_neg (show ¬ (r.v = 0 ∨ r.v < p.last) by omega), if_neg (show ¬ (s.v = 0 ∨ s.v < q.last) by omega)]
  by_cases hc : r.gone = true ∧ thereP p.rows r.item.id r.v = none
  · rw [if_pos hc, if_pos (show s.gone = true ∧ thereP q.rows s.item.id s.v = none from ⟨hg ▸ hc.1, hn.1 hc.2⟩)]
    exact h
  · rw [if_neg hc, if_neg (show ¬ (s.gone = true ∧ thereP q.rows s.item.id s.v = none) from fun k => hc ⟨hg ▸ k.1, hn.2 k.2⟩), hl]
    split
    · exact h
    · show (p.rows ++ [r]).map bareR = (q.rows ++ [s]).map bareR
      rw [List.map_append, List.map_append, h, List.map_cons, List.map_cons, hb]
theorem SameI.layS {V V' : Nat} (hV : 1 ≤ V) (hV' : 1 ≤ V') : ∀ (xs : List ChL) {p q : PastV}, SameI p q → GoodP V p → GoodP V' q → SameI (layS V p xs) (layS V' q xs) := by
  intro xs
  induction xs with
  | nil => exact fun h _ _ => h
  | cons x xs ih =>
    intro p q h hp hq
    refine ih (h.lay hp hq (ChL.row_v _ _) (ChL.row_v _ _) hV hV' ?_) (hp.lay (by rw [ChL.row_v]; exact Nat.le_refl _)) (hq.lay (by rw [ChL.row_v]; exact Nat.le_refl _))
    unfold ChL.row bareR
    split <;> rfl
theorem SameI.may {p q : PastV} {V V' : Nat} (h : SameI p q) (hp : GoodP V p) (hq : GoodP V' q) (cf : ConfL) (xs : List ChL) : mayW cf p xs = mayW cf q xs := by
  unfold mayW idsNow
  rw [h.all hp hq, h.len]
/-- The same is written to both: they stay the same, and their versions go up alike. -/
theorem SameI.write {p q : PastV} {V V' : Nat} (h : SameI p q) (hp : GoodP V p) (hq : GoodP V' q) (cf : ConfL) (xs : List ChL) :
    SameI (writeV V cf p [] xs).1.1 (writeV V' cf q [] xs).1.1 ∧ ∃ d, (writeV V cf p [] xs).1.2 = V + d ∧ (writeV V' cf q [] xs).1.2 = V' + d := by
  unfold writeV
  rw [h.may hp hq cf xs]
  split
  · exact ⟨h, 0, rfl, rfl⟩
  · split
    · exact ⟨h, 0, rfl, rfl⟩
    · have hp1 := GoodP.layS xs (hp.mono (Nat.le_succ V))
      have hq1 := GoodP.layS xs (hq.mono (Nat.le_succ V'))
      exact ⟨(SameI.layS (by omega) (by omega) xs h (hp.mono (Nat.le_succ V)) (hq.mono (Nat.le_succ V'))).sweep hp1 hq1, 1, rfl, rfl⟩
theorem op9_cells {b off i : Nat} {o : OpL} {wr : World} (h : ∀ j v, o.cells[j]? = some v → wr.cell? ⟨b, off + i * 10 + j, none⟩ = some v) :
    wr.cell? ⟨b, off + i * 10, none⟩ = some (.int .u8 (o.kind : Int)) ∧ wr.cell? ⟨b, off + i * 10 + 1, none⟩ = some (.string o.cf.name) ∧ wr.cell? ⟨b, off + i * 10 + 2, none⟩ = some (.int .u8 (o.cf.dim : Int)) ∧ wr.cell? ⟨b, off + i * 10 + 3, none⟩ = some (.int .u8 (o.cf.metric : Int)) ∧ wr.cell? ⟨b, off + i * 10 + 4, none⟩ = some (.bool o.cf.graph) ∧ wr.cell? ⟨b, off + i * 10 + 5, none⟩ = some (.int .u8 (o.cf.links : Int)) ∧
    wr.cell? ⟨b, off + i * 10 + 6, none⟩ = some (.int .u16 (o.cf.width : Int)) ∧ wr.cell? ⟨b, off + i * 10 + 7, none⟩ = some (.slice o.ca o.cn o.cc) ∧ wr.cell? ⟨b, off + i * 10 + 8, none⟩ = some (.int .u32 (o.id : Int)) ∧ wr.cell? ⟨b, off + i * 10 + 9, none⟩ = some (.int .i64 o.n) :=
  ⟨h 0 _ rfl, h 1 _ rfl, h 2 _ rfl, h 3 _ rfl, h 4 _ rfl, h 5 _ rfl, h 6 _ rfl, h 7 _ rfl, h 8 _ rfl, h 9 _ rfl⟩
theorem tups9 (l : List ItL) : (l.map ItL.tup).map toItem = l.map ItL.toI := by
  rw [List.map_map]
  rfl
def cfB : ConfL := ⟨⟨#[98]⟩, 2, 0, false, 0, 0⟩
theorem cfB_cells : cfB.cells.toArray = #[.string ⟨#[98]⟩, .int .u8 2, .int .u8 0, .bool false, .int .u8 0, .int .u16 0] := rfl
theorem wfB : cfB.Wf := ⟨show (1 : Nat) ≤ 140737488351232 by decide, show (2 : Nat) ≤ 255 by decide, show (0 : Nat) ≤ 255 by decide, show (0 : Nat) ≤ 255 by decide, show (0 : Nat) ≤ 65535 by decide⟩
theorem szB : cfB.name.size ≤ maxLen := show (1 : Nat) ≤ maxLen by decide
/-- A store without collections. -/
def NoneC (w : World) (lo g : Nat) (G : List Nat) : Prop := ∃ gc gp, StoreIs w lo 0 g gc gp [] [] 0 0 ∧ G = storeFp g gc gp []
/-- .. with the first one. -/
def HalfC (w : World) (lo g : Nat) (G : List Nat) : Prop := ∃ gc gp c F, StoreIs w lo 0 g gc gp [⟨c, F, cfA 2, PastV.new, []⟩] [] 0 0 ∧ G = storeFp g gc gp [⟨c, F, cfA 2, PastV.new, []⟩]
/-- .. with both. -/
def TwoC (w : World) (lo N g : Nat) (G : List Nat) (p pb : PastV) (L : List Nat) (Qs : List (Nat × Nat)) (ver last : Nat) : Prop :=
  ∃ gc gp c F cb Fb, StoreIs w lo N g gc gp [⟨c, F, cfA 2, p, L⟩, ⟨cb, Fb, cfB, pb, []⟩] (pinsOf c Qs) ver last ∧ G = storeFp g gc gp [⟨c, F, cfA 2, p, L⟩, ⟨cb, Fb, cfB, pb, []⟩]
section
variable {w w' : World} {lo N g ver last : Nat} {F G : List Nat} {p pb : PastV} {L : List Nat} {Qs : List (Nat × Nat)}
theorem NoneC.kept (h : NoneC w lo g G) (hk : Kept F w w') (hF : ∀ x ∈ F, x ∉ G) : NoneC w' lo g G := by
  obtain ⟨gc, gp, h1, rfl⟩ := h
  exact ⟨gc, gp, h1.kept hk hF, rfl⟩
theorem NoneC.on (h : NoneC w lo g G) (hb : Below w.heap.size w w') : NoneC w' lo g G := h.kept (F := []) (Kept.of_below hb (Nat.le_refl _)) (by simp)
theorem NoneC.lt (h : NoneC w lo g G) : ∀ x ∈ G, lo ≤ x ∧ x < w.heap.size := by
  obtain ⟨gc, gp, h1, rfl⟩ := h
  exact h1.lt
theorem HalfC.lt (h : HalfC w lo g G) : ∀ x ∈ G, lo ≤ x ∧ x < w.heap.size := by
  obtain ⟨gc, gp, c, F, h1, rfl⟩ := h
  exact h1.lt
theorem TwoC.kept (h : TwoC w lo N g G p pb L Qs ver last) (hk : Kept F w w') (hF : ∀ x ∈ F, x ∉ G) : TwoC w' lo N g G p pb L Qs ver last := by
  obtain ⟨gc, gp, c, F', cb, Fb, h1, rfl⟩ := h
  exact ⟨gc, gp, c, F', cb, Fb, h1.kept hk hF, rfl⟩
theorem TwoC.on (h : TwoC w lo N g G p pb L Qs ver last) (hb : Below w.heap.size w w') : TwoC w' lo N g G p pb L Qs ver last := h.kept (F := []) (Kept.of_below hb (Nat.le_refl _)) (by simp)
theorem TwoC.lt (h : TwoC w lo N g G p pb L Qs ver last) : ∀ x ∈ G, lo ≤ x ∧ x < w.heap.size := by
  obtain ⟨gc, gp, c, F', cb, Fb, h1, rfl⟩ := h
  exact h1.lt
theorem TwoC.raise (h : TwoC w lo N g G p pb L Qs ver last) : TwoC w lo (N + 1) g G p pb L Qs ver last := by
  obtain ⟨gc, gp, c, F', cb, Fb, h1, rfl⟩ := h
  exact ⟨gc, gp, c, F', cb, Fb, h1.raise, rfl⟩
theorem TwoC.size (h : TwoC w lo N g G p pb L Qs ver last) : lo ≤ w.heap.size := by
  obtain ⟨gc, gp, c, F', cb, Fb, h1, rfl⟩ := h
  have h2 := h1.blk.lt
  have h3 := h1.low.1
  omega
theorem TwoC.below (h : TwoC w lo N g G p pb L Qs ver last) (hk : Kept G w w') : Below lo w w' := hk.below (fun x hx => (h.lt x hx).1) h.size
theorem TwoC.few (h : TwoC w lo N g G p pb L Qs ver last) : p.rows.length ≤ 1024 := by
  obtain ⟨gc, gp, c, F', cb, Fb, h1, rfl⟩ := h
  obtain ⟨gp', gh, Fp, H, h3, _⟩ := h1.each ⟨c, F', cfA 2, p, L⟩ (by simp)
  exact h3.past.few
theorem TwoC.bound (h : TwoC w lo N g G p pb L Qs ver last) : ver ≤ N := by
  obtain ⟨gc, gp, c, F', cb, Fb, h1, rfl⟩ := h
  exact h1.hver
end
theorem fp_swap {g gc gp x : Nat} {s t : SColl} (h : x ∈ storeFp g gc gp [s, t]) : x ∈ storeFp g gc gp [t, s] := by
  rw [mem_storeFp] at h ⊢
  rcases h with h | h | h | ⟨u, hu, h⟩
  · exact .inl h
  · exact .inr (.inl h)
  · exact .inr (.inr (.inl h))
  · exact .inr (.inr (.inr ⟨u, by simp at hu ⊢; exact hu.symm, h⟩))
theorem none_create (w : World) (lo g : Nat) (G : List Nat) (hlo : lo ≤ w.heap.size) (h : NoneC w lo g G) :
    Calls Tryz.prog 21 #[.pointer (some ⟨g, 0, none⟩), .agg (cfA 2).cells.toArray] w fun e w' => e = .returned (.int .i64 0) ∧ ∃ G', HalfC w' lo g G' ∧ Kept G w w' ∧ Grows w G G' := by
  obtain ⟨gc, gp, h1, rfl⟩ := h
  refine (create_store w lo 0 g gc gp 0 0 [] [] (cfA 2) (wfA 2 (by decide)) (by kernel_rfl) (by simp [collE]) (by simp) hlo h1).mono ?_
  rintro e w' ⟨rfl, c, F, h2, h3, h4⟩
  exact ⟨rfl, _, ⟨gc, gp, c, F, h2, rfl⟩, h3, h4⟩
theorem half_create (w : World) (lo g : Nat) (G : List Nat) (hlo : lo ≤ w.heap.size) (h : HalfC w lo g G) :
    Calls Tryz.prog 21 #[.pointer (some ⟨g, 0, none⟩), .agg cfB.cells.toArray] w fun e w' => e = .returned (.int .i64 0) ∧ ∃ G', TwoC w' lo 0 g G' PastV.new PastV.new [] [] 0 0 ∧ Kept G w w' ∧ Grows w G G' := by
  obtain ⟨gc, gp, c, F, h1, rfl⟩ := h
  refine (create_store w lo 0 g gc gp 0 0 [⟨c, F, cfA 2, PastV.new, []⟩] [] cfB wfB (by kernel_rfl) (fun q hq e => ?_) (by simp) hlo h1).mono ?_
  · have e2 : q.1 = keyT ⟨#[97]⟩ := by
      simp [collE] at hq
      rw [hq]
      rfl
    rw [e2] at e
    exact absurd (congrArg (fun b : ByteArray => b.data.toList) (keyT_inj _ _ e)) (by decide)
  · rintro e w' ⟨rfl, cb, Fb, h2, h3, h4⟩
    exact ⟨rfl, _, ⟨gc, gp, c, F, cb, Fb, h2.turned (List.Perm.swap _ _ _), rfl⟩, h3, fun x hx => h4 x (fp_swap hx)⟩
section
variable (w : World) (lo N g ver last : Nat) (G : List Nat) (p pb : PastV) (L : List Nat) (Qs : List (Nat × Nat))
theorem two_write (ok : Nat → Prop) (a : Option Addr) (n k : Nat) (xs : List ChL) (hN : N < 100000) (hok : ∀ k, ok k → k ∉ G) (h : TwoC w lo N g G p pb L Qs ver last) (hxs : ChsAt ok w a n k xs) :
    Calls Tryz.prog 22 #[.pointer (some ⟨g, 0, none⟩), .string (cfA 2).name, .slice a n k] w fun e w' => ∃ G', e = .returned (.tuple #[.int .u64 ((writeV ver (cfA 2) p L xs).2.1 : Int), .int .i64 ((writeV ver (cfA 2) p L xs).2.2 : Int)]) ∧
      TwoC w' lo (N + 1) g G' (writeV ver (cfA 2) p L xs).1.1 pb L Qs (writeV ver (cfA 2) p L xs).1.2 last ∧ Kept G w w' ∧ Grows w G G' := by
  obtain ⟨gc, gp, c, F, cb, Fb, h1, rfl⟩ := h
  refine (write_store w ok lo N g gc gp ver last ⟨c, F, cfA 2, p, L⟩ [⟨cb, Fb, cfB, pb, []⟩] _ a n k xs hN hok (szA 2) h1 hxs).mono ?_
  rintro e w' ⟨F', rfl, h2, h3, h4⟩
  exact ⟨_, rfl, ⟨gc, gp, c, F', cb, Fb, h2, rfl⟩, h3, h4⟩
theorem two_writeB (ok : Nat → Prop) (a : Option Addr) (n k : Nat) (xs : List ChL) (hN : N < 100000) (hok : ∀ k, ok k → k ∉ G) (h : TwoC w lo N g G p pb L Qs ver last) (hxs : ChsAt ok w a n k xs) :
    Calls Tryz.prog 22 #[.pointer (some ⟨g, 0, none⟩), .string cfB.name, .slice a n k] w fun e w' => ∃ (G' : List Nat) (u v ver' : Nat) (pb' : PastV), e = .returned (.tuple #[.int .u64 (u : Int), .int .i64 (v : Int)]) ∧ ver ≤ ver' ∧
      TwoC w' lo (N + 1) g G' p pb' L Qs ver' last ∧ Kept G w w' ∧ Grows w G G' := by
  obtain ⟨gc, gp, c, F, cb, Fb, h1, rfl⟩ := h
  refine (write_store w ok lo N g gc gp ver last ⟨cb, Fb, cfB, pb, []⟩ [⟨c, F, cfA 2, p, L⟩] _ a n k xs hN (fun k hk hx => hok k hk (fp_swap hx)) szB (h1.turned (List.Perm.swap _ _ _)) hxs).mono ?_
  rintro e w' ⟨F', rfl, h2, h3, h4⟩
  refine ⟨_, _, _, _, _, rfl, write_ver ver cfB pb [] xs, ⟨gc, gp, c, F, cb, F', h2.turned (List.Perm.swap _ _ _), rfl⟩, h3.mono (fun x hx => fp_swap hx), fun x hx => ?_⟩
  rcases h4 x (fp_swap hx) with h5 | h5
  · exact .inl (fp_swap h5)
  · exact .inr h5
theorem two_pin (hN : N < 100000) (h : TwoC w lo N g G p pb L Qs ver last) :
    Calls Tryz.prog 23 #[.pointer (some ⟨g, 0, none⟩), .string (cfA 2).name] w fun e w' => ∃ G', e = .returned (.tuple #[.int .i64 ((last + 1 : Nat) : Int), .int .u64 (ver : Int), .int .i64 0]) ∧
      TwoC w' lo (N + 1) g G' p pb (ver :: L) (Qs ++ [(last + 1, ver)]) ver (last + 1) ∧ Kept G w w' ∧ Grows w G G' := by
  obtain ⟨gc, gp, c, F, cb, Fb, h1, rfl⟩ := h
  have hcb : cb ≠ c := fun e => by
    have h2 := (List.pairwise_cons.1 h1.apart).1 ⟨cb, Fb, cfB, pb, []⟩ (by simp)
    obtain ⟨_, _, _, _, _, e1⟩ := h1.each ⟨c, F, cfA 2, p, L⟩ (by simp)
    obtain ⟨_, _, _, _, _, e2⟩ := h1.each ⟨cb, Fb, cfB, pb, []⟩ (by simp)
    have m1 : c ∈ F := by
      rw [show F = _ from e1]
      exact mem_collFp.2 (.inl rfl)
    have m2 : cb ∈ Fb := by
      rw [show Fb = _ from e2]
      exact mem_collFp.2 (.inl rfl)
    exact h2 c m1 (e ▸ m2)
  refine (pin_store w lo N g gc gp ver last ⟨c, F, cfA 2, p, L⟩ [⟨cb, Fb, cfB, pb, []⟩] _ hN (szA 2) (by simpa using hcb) h1).mono ?_
  rintro e w' ⟨F', rfl, h2, h3, h4⟩
  refine ⟨_, rfl, ⟨gc, gp, c, F', cb, Fb, ?_, rfl⟩, h3, h4⟩
  rw [pinsOf, List.map_append]
  exact h2
theorem two_pinned (q : Nat × Nat) (hN : N ≤ 100000) (hq : q ∈ Qs) (h : TwoC w lo N g G p pb L Qs ver last) :
    Calls Tryz.prog 24 #[.pointer (some ⟨g, 0, none⟩), .int .i64 (q.1 : Int)] w fun e w' => Below w.heap.size w w' ∧ ∃ (sv : Value) (xs : List ItL), e = .returned (.tuple #[sv, .agg (cfA 2).cells.toArray, .int .i64 ((p.all q.2).2 : Int)]) ∧
      ItsAt w.heap.size w' sv xs ∧ (∀ x ∈ xs, x.OwnI w.heap.size w') ∧ xs.map ItL.toI = (p.all q.2).1 := by
  obtain ⟨gc, gp, c, F, cb, Fb, h1, rfl⟩ := h
  exact pinned_store w lo N g gc gp ver last ⟨c, F, cfA 2, p, L⟩ [⟨cb, Fb, cfB, pb, []⟩] _ ⟨q.1, c, q.2⟩ hN (List.mem_map.2 ⟨q, hq, rfl⟩) rfl h1
theorem two_size (h : TwoC w lo N g G p pb L Qs ver last) :
    Calls Tryz.prog 17 #[.pointer (some ⟨g, 0, none⟩), .string (cfA 2).name] w fun e w' => e = .returned (.int .i64 ((p.all p.last).1.length : Int)) ∧ Below w.heap.size w w' := by
  obtain ⟨gc, gp, c, F, cb, Fb, h1, rfl⟩ := h
  exact size_store w lo N g gc gp ver last ⟨c, F, cfA 2, p, L⟩ [⟨cb, Fb, cfB, pb, []⟩] _ (szA 2) h1
theorem two_rows (h : TwoC w lo N g G p pb L Qs ver last) :
    Calls Tryz.prog 18 #[.pointer (some ⟨g, 0, none⟩), .string (cfA 2).name] w fun e w' => e = .returned (.int .i64 (p.rows.length : Int)) ∧ w' = w := by
  obtain ⟨gc, gp, c, F, cb, Fb, h1, rfl⟩ := h
  exact rows_store w lo N g gc gp ver last ⟨c, F, cfA 2, p, L⟩ [⟨cb, Fb, cfB, pb, []⟩] _ (szA 2) h1
theorem two_version (h : TwoC w lo N g G p pb L Qs ver last) :
    Calls Tryz.prog 14 #[.pointer (some ⟨g, 0, none⟩)] w fun e w' => e = .returned (.int .u64 (ver : Int)) ∧ w' = w := by
  obtain ⟨gc, gp, c, F, cb, Fb, h1, rfl⟩ := h
  exact version_store w lo N g gc gp ver last _ _ h1
end
-- WALK
/-- Both stores at the beginning: k of them have their collections. -/
structure Begun (k lo1 lo2 g1 g2 : Nat) (G1 G2 : List Nat) (w : World) : Prop where
  one0 : k = 0 → NoneC w lo1 g1 G1
  one1 : 1 ≤ k → TwoC w lo1 0 g1 G1 PastV.new PastV.new [] [] 0 0
  two0 : k ≤ 1 → NoneC w lo2 g2 G2
  two1 : 2 ≤ k → TwoC w lo2 0 g2 G2 PastV.new PastV.new [] [] 0 0
  apart : Apart G1 G2
  fits : lo1 ≤ w.heap.size ∧ lo2 ≤ w.heap.size
/-- Both stores, the same written to the first collection of both. -/
structure BothC (N lo1 lo2 g1 g2 : Nat) (G1 G2 : List Nat) (p q : PastV) (v1 v2 : Nat) (w : World) : Prop where
  one : ∃ pb, TwoC w lo1 N g1 G1 p pb [] [] v1 0
  two : ∃ qb, TwoC w lo2 N g2 G2 q qb [] [] v2 0
  apart : Apart G1 G2
  good1 : GoodP v1 p
  good2 : GoodP v2 q
  same : SameI p q
  le : v2 ≤ v1
theorem BothC.on {N lo1 lo2 g1 g2 v1 v2 : Nat} {G1 G2 : List Nat} {p q : PastV} {w w' : World} (h : BothC N lo1 lo2 g1 g2 G1 G2 p q v1 v2 w) (hb : Below w.heap.size w w') : BothC N lo1 lo2 g1 g2 G1 G2 p q v1 v2 w' := by
  obtain ⟨⟨pb, h1⟩, ⟨qb, h2⟩, h3, h4, h5, h6, h7⟩ := h
  exact ⟨⟨pb, h1.on hb⟩, ⟨qb, h2.on hb⟩, h3, h4, h5, h6, h7⟩
set_option maxRecDepth 100000 in
set_option maxHeartbeats 25600000 in
theorem apart_walk (a : Option Addr) (n c : Nat) (xs : List shOp9.T) (a2 : Option Addr) (n2 c2 : Nat) (ys0 : List shOp9.T) (w : World) (hx : Rd (· < w.heap.size) w shOps9 [.slice a n c] xs) (hy : Rd (· < w.heap.size) w shOps9 [.slice a2 n2 c2] ys0) :
    Calls Tryz.prog 7 #[.slice a n c, .slice a2 n2 c2] w fun e w' => e = .returned (.bool true) ∧ Below w.heap.size w w' := by
  have HX := Lib.hid hx
  have HY := Lib.hid hy
  clear hx hy
  go_enter Tryz.func7, Tryz.ntmps7
  go_wp2_with (fail)
  refine (alive9 w).mono ?_
  rintro e w1 ⟨rfl, hb1⟩
  go_wp2_with (fail)
  refine (new_store w1).mono ?_
  rintro e w2 ⟨g1, gc, gp, rfl, hb2, h2⟩
  go_wp2_with (fail)
  refine (new_store w2).mono ?_
  rintro e w3 ⟨g2, gc2, gp2, rfl, hb3, h3⟩
  obtain ⟨lo1, hlo1⟩ : ∃ lo1, w1.heap.size = lo1 := ⟨_, rfl⟩
  obtain ⟨lo2, hlo2⟩ : ∃ lo2, w2.heap.size = lo2 := ⟨_, rfl⟩
  have hwl1 : w.heap.size ≤ lo1 := by rw [← hlo1]; exact hb1.size
  have hwl2 : w.heap.size ≤ lo2 := by rw [← hlo2]; exact Nat.le_trans hb1.size hb2.size
  obtain ⟨w4, hw4⟩ : ∃ w4, w3.alloc (.cells #[.pointer (some ⟨g1, 0, none⟩), .pointer (some ⟨g2, 0, none⟩)] 24) = w4 := ⟨_, rfl⟩
  obtain ⟨pb, hpb⟩ : ∃ pb, w3.heap.size = pb := ⟨_, rfl⟩
  have hb4 : Below w3.heap.size w3 w4 := by rw [← hw4]; exact (Below.refl _ _).alloc (Nat.le_refl _) _
  have X4 := Lib.hid (show Blk w4 pb 24 [.pointer (some ⟨g1, 0, none⟩), .pointer (some ⟨g2, 0, none⟩)] from by rw [← hw4, ← hpb]; exact Blk.new _ _ _)
  have H4 := Lib.hid (show ∃ G1 G2, Begun 0 lo1 lo2 g1 g2 G1 G2 w4 ∧ pb ∉ G1 ∧ pb ∉ G2 from by
    have q1 : NoneC w2 lo1 g1 (storeFp g1 gc gp []) := ⟨gc, gp, hlo1 ▸ h2, rfl⟩
    have q2 : NoneC w3 lo2 g2 (storeFp g2 gc2 gp2 []) := ⟨gc2, gp2, hlo2 ▸ h3, rfl⟩
    have s2 := hb2.size
    have s3 := hb3.size
    have s4 := hb4.size
    refine ⟨_, _, ⟨fun _ => (q1.on hb3).on hb4, fun h => absurd h (by decide), fun _ => q2.on hb4, fun h => absurd h (by decide), fun x hx hy => ?_, by omega, by omega⟩, fun hx => ?_, fun hx => ?_⟩
    · have m1 := (q1.lt x hx).2
      have m2 := (q2.lt x hy).1
      omega
    · have m1 := (q1.lt pb hx).2
      omega
    · have m1 := (q2.lt pb hx).2
      omega)
  have B4 := Lib.hid (show Below w.heap.size w w4 from below_on (below_on (below_on hb1 hb2) hb3) hb4)
  clear hb1 hb2 hb3 hb4 h2 h3 hlo1 hlo2
  go_wp2_with (fail)
  go_loopw [30, 8] (fun s30 s8 wr => ∃ (k : Nat) (G1 G2 : List Nat), s30 = .int .i64 k ∧ k ≤ 2 ∧ Hid (Begun k lo1 lo2 g1 g2 G1 G2 wr ∧ pb ∉ G1 ∧ pb ∉ G2) ∧ Hid (Blk wr pb 24 [.pointer (some ⟨g1, 0, none⟩), .pointer (some ⟨g2, 0, none⟩)]) ∧ Hid (Below w.heap.size w wr)) (fun s30 _ _ => 2 - (intOf s30).toNat)
  case atStart =>
    obtain ⟨G1, G2, h1, h2⟩ := H4.out
    exact ⟨0, G1, G2, rfl, by omega, ⟨h1, h2⟩, X4.out, B4.out⟩
  case round =>
    clear H4 X4 B4
    obtain ⟨k, G1, G2, rfl, hk, HP, HX4, HB⟩ := hrel
    have x0 : wr.cell? ⟨pb, 0, none⟩ = some (.pointer (some ⟨g1, 0, none⟩)) := HX4.out.cell 0
    have x1 : wr.cell? ⟨pb, 1, none⟩ = some (.pointer (some ⟨g2, 0, none⟩)) := HX4.out.cell 1
    have hpl := HX4.out.lt
    have hk3 : k = 0 ∨ k = 1 ∨ k = 2 := by omega
    rcases hk3 with rfl | rfl | hk2
    · go_wp2_with (fail)
      refine (none_create wr lo1 g1 G1 HP.out.1.fits.1 (HP.out.1.one0 rfl)).mono ?_
      rintro e w5 ⟨rfl, Ga, ha, ka, ga⟩
      have HA := Lib.hid (And.intro ha (And.intro ka ga))
      clear ha ka ga
      go_wp2_with (fail)
      refine (half_create w5 lo1 g1 Ga (Nat.le_trans HP.out.1.fits.1 HA.out.2.1.size) HA.out.1).mono ?_
      rintro e w6 ⟨rfl, Gb, hb, kb, gb⟩
      have K6 := Lib.hid (HA.out.2.1.trans kb HA.out.2.2)
      have G6 := Lib.hid (HA.out.2.2.trans gb HA.out.2.1.size)
      have P6 := Lib.hid (show Begun 1 lo1 lo2 g1 g2 Gb G2 w6 ∧ pb ∉ Gb ∧ pb ∉ G2 from by
        have h0 := HP.out.1.two0 (by decide)
        refine ⟨⟨fun h => absurd h (by decide), fun _ => hb, fun _ => h0.kept K6.out (fun x hx hy => HP.out.1.apart x hx hy), fun h => absurd h (by decide), HP.out.1.apart.grows G6.out (fun x hx => (h0.lt x hx).2), Nat.le_trans HP.out.1.fits.1 K6.out.size, Nat.le_trans HP.out.1.fits.2 K6.out.size⟩, fun hx => ?_, HP.out.2.2⟩
        rcases G6.out pb hx with h9 | h9
        · exact HP.out.2.1 h9
        · omega)
      have X6 := Lib.hid (K6.out.blk HX4.out HP.out.2.1)
      have B6 := Lib.hid (HB.out.trans (K6.out.below (B := w.heap.size) (fun x hx => by have := ((HP.out.1.one0 rfl).lt x hx).1; omega) (HB.out.size)))
      clear hb kb gb HA
      go_wp2
      go_roundw
      case rel => exact ⟨1, Gb, G2, rfl, by omega, P6.out, X6.out, B6.out⟩
      case measure => simp [intOf]
    · go_wp2_with (fail)
      refine (none_create wr lo2 g2 G2 HP.out.1.fits.2 (HP.out.1.two0 (by decide))).mono ?_
      rintro e w5 ⟨rfl, Ga, ha, ka, ga⟩
      have HA := Lib.hid (And.intro ha (And.intro ka ga))
      clear ha ka ga
      go_wp2_with (fail)
      refine (half_create w5 lo2 g2 Ga (Nat.le_trans HP.out.1.fits.2 HA.out.2.1.size) HA.out.1).mono ?_
      rintro e w6 ⟨rfl, Gb, hb, kb, gb⟩
      have K6 := Lib.hid (HA.out.2.1.trans kb HA.out.2.2)
      have G6 := Lib.hid (HA.out.2.2.trans gb HA.out.2.1.size)
      have P6 := Lib.hid (show Begun 2 lo1 lo2 g1 g2 G1 Gb w6 ∧ pb ∉ G1 ∧ pb ∉ Gb from by
        have h0 := HP.out.1.one1 (by decide)
        refine ⟨⟨fun h => absurd h (by decide), fun _ => h0.kept K6.out (fun x hx hy => HP.out.1.apart x hy hx), fun h => absurd h (by decide), fun _ => hb, (HP.out.1.apart.symm.grows G6.out (fun x hx => (h0.lt x hx).2)).symm, Nat.le_trans HP.out.1.fits.1 K6.out.size, Nat.le_trans HP.out.1.fits.2 K6.out.size⟩, HP.out.2.1, fun hx => ?_⟩
        rcases G6.out pb hx with h9 | h9
        · exact HP.out.2.2 h9
        · omega)
      have X6 := Lib.hid (K6.out.blk HX4.out HP.out.2.2)
      have B6 := Lib.hid (HB.out.trans (K6.out.below (B := w.heap.size) (fun x hx => by have := ((HP.out.1.two0 (by decide)).lt x hx).1; omega) (HB.out.size)))
      clear hb kb gb HA
      go_wp2
      go_roundw
      case rel => exact ⟨2, G1, Gb, rfl, by omega, P6.out, X6.out, B6.out⟩
      case measure => simp [intOf]
    · have P3 := Lib.hid (show BothC 0 lo1 lo2 g1 g2 G1 G2 PastV.new PastV.new 0 0 wr from ⟨⟨_, HP.out.1.one1 (by omega)⟩, ⟨_, HP.out.1.two1 (by omega)⟩, HP.out.1.apart, GoodP.new, GoodP.new, rfl, Nat.le_refl _⟩)
      have hkn : ¬ k < 2 := by omega
      clear HP HX4 x0 x1 hpl hk2
      go_wp2_with (fail)
      go_loopw [9] (fun s9 wr => ∃ (i v1 v2 : Nat) (p q : PastV) (G1 G2 : List Nat), s9 = .int .i64 i ∧ i ≤ 20 ∧ Hid (BothC (2 * i) lo1 lo2 g1 g2 G1 G2 p q v1 v2 wr) ∧ Hid (Below w.heap.size w wr)) (fun s9 _ => 20 - (intOf s9).toNat)
      case atStart => exact ⟨0, 0, 0, PastV.new, PastV.new, G1, G2, rfl, by omega, P3.out, HB.out⟩
      case round =>
        clear P3 HB
        obtain ⟨i, v1, v2, p, q, G1, G2, rfl, hi, HP, HB⟩ := hrel
        go_upto_region 11 with fail
        go_cut [48] (fun s48 wx => ∃ z : Bool, s48 = .bool z ∧ Hid (z = true ↔ (i < n ∧ i < 20)) ∧ wx = wr)
        case first =>
          by_cases hin : i < n
          · by_cases hi10 : i < 20
            · have hd1 : decide ((i : Int) < 20) = true := decide_eq_true (by omega)
              go_wp2
              go_meet
              exact ⟨true, rfl, by simp [Hid]; omega, rfl⟩
            · have hd1 : decide ((i : Int) < 20) = false := decide_eq_false (by omega)
              go_wp2
              go_meet
              exact ⟨false, rfl, by simp [Hid]; omega, rfl⟩
          · go_wp2
            go_meet
            exact ⟨false, rfl, by simp [Hid]; omega, rfl⟩
        case rest =>
          obtain ⟨z, rfl, HZI, rfl⟩ := hcut
          cases z
          rotate_left
          · obtain ⟨hin, hi40⟩ := HZI.out.1 rfl
            clear HZI
            obtain ⟨b, off, o, ys, rfl, hbl, hk, hcf, -, -, OPF⟩ := rd_op9 HX.out i hin
            obtain ⟨hb0, hrc, hcc⟩ := OPF.out _ HB.out
            obtain ⟨m0, m1, m2, m3, m4, m5, m6, m7, m8, m9⟩ := op9_cells hcc
            have GR := Lib.hid (great9 o ys wc hcf.size hrc)
            clear hcc hrc
            by_cases hib : i < n2
            · obtain ⟨bb, boff, ob, bys, rfl, hbbl, hbk, hbcf, -, -, OPB⟩ := rd_op9 HY.out i hib
              go_wp2_with (fail)
              refine GR.out.mono ?_
              rintro e w5 ⟨gr, rfl, hb5, hgr⟩
              have P5 := Lib.hid (HP.out.on hb5)
              have B5 := Lib.hid (below_on HB.out hb5)
              clear hb5 HP HB m0 m1 m2 m3 m4 m5 m6 m7 m8 m9 hb0 GR
              cases gr
              rotate_left
              · go_wp2
                go_ret
                exact ⟨rfl, B5.out⟩
              have hcn := hgr rfl
              clear hgr
              obtain ⟨hb0, hrc, hcc⟩ := OPB.out _ B5.out
              obtain ⟨m0, m1, m2, m3, m4, m5, m6, m7, m8, m9⟩ := op9_cells hcc
              have GRB := Lib.hid (great9 ob bys w5 hbcf.size hrc)
              clear hcc hrc
              go_wp2_with (fail)
              refine GRB.out.mono ?_
              rintro e w6 ⟨grb, rfl, hb6, hgrb⟩
              have P0 := Lib.hid (P5.out.on hb6)
              have B0 := Lib.hid (below_on B5.out hb6)
              clear hb6 P5 B5 m0 m1 m2 m3 m4 m5 m6 m7 m8 m9 hb0 GRB
              cases grb
              rotate_left
              · go_wp2
                go_ret
                exact ⟨rfl, B0.out⟩
              have hbcn := hgrb rfl
              clear hgrb
              obtain ⟨hb0, hrc, hcc⟩ := OPF.out _ B0.out
              obtain ⟨-, -, -, -, -, -, -, m7, -, -⟩ := op9_cells hcc
              obtain ⟨cs, hcs⟩ := chs_of hrc (show o.cn ≤ 1000000 by omega)
              have CS := Lib.hid hcs
              obtain ⟨⟨pb1, h1⟩, ⟨qb1, h2⟩, h3, h4, h5, h6, h7⟩ := P0.out
              have T1 := Lib.hid h1
              have T2 := Lib.hid h2
              have AP := Lib.hid h3
              have SW := Lib.hid (h6.write h4 h5 (cfA 2) cs)
              have GD1 := Lib.hid (h4.write (cfA 2) [] cs)
              have GD2 := Lib.hid (h5.write (cfA 2) [] cs)
              have LE := Lib.hid h7
              have HOK1 := Lib.hid (show ∀ k, k < w.heap.size → k ∉ G1 from fun k hk hx => by
                have := (T1.out.lt k hx).1
                omega)
              have HOK2 := Lib.hid (show ∀ k, k < w.heap.size → k ∉ G2 from fun k hk hx => by
                have := (T2.out.lt k hx).1
                omega)
              clear hcs hrc hcc h1 h2 h3 h4 h5 h6 h7 P0
              go_wp2_with (fail)
              refine (two_write w6 lo1 (2 * i) g1 v1 0 G1 p pb1 [] [] (· < w.heap.size) o.ca o.cn o.cc cs (by omega) HOK1.out T1.out CS.out).mono ?_
              rintro e w7 ⟨G7, rfl, h7, k7, gr7⟩
              have B7 := Lib.hid (B0.out.trans ((T1.out.below k7).mono hwl1))
              have T27 := Lib.hid (T2.out.kept k7 (fun x hx hy => AP.out x hx hy))
              have AP7 := Lib.hid (AP.out.grows gr7 (fun x hx => (T2.out.lt x hx).2))
              have T17 := Lib.hid h7
              have CS7 := Lib.hid (CS.out.stay (ok' := (· < w.heap.size)) k7.size (fun k hk hkk => k7.block k hkk (HOK1.out k hk)) (fun _ h _ => h))
              obtain ⟨hb1, hrc1, hcc1⟩ := OPF.out _ B7.out
              obtain ⟨-, -, -, -, -, -, -, n7, -, -⟩ := op9_cells hcc1
              clear h7 k7 gr7 hrc1 hcc1 T1 T2 AP m7 hb0
              go_wp2_with (fail)
              refine (two_write w7 lo2 (2 * i) g2 v2 0 G2 q qb1 [] [] (· < w.heap.size) o.ca o.cn o.cc cs (by omega) HOK2.out T27.out CS7.out).mono ?_
              rintro e w8 ⟨G8, rfl, h8, k8, gr8⟩
              have B8 := Lib.hid (B7.out.trans ((T27.out.below k8).mono hwl2))
              have T18 := Lib.hid (T17.out.kept k8 (fun x hx hy => AP7.out x hy hx))
              have AP8 := Lib.hid ((AP7.out.symm.grows gr8 (fun x hx => (T17.out.lt x hx).2)).symm)
              have T28 := Lib.hid h8
              clear h8 k8 gr8 n7 hb1 CS CS7 T17 T27 HOK1 HOK2
              obtain ⟨d, hd1, hd2⟩ := SW.out.2
              obtain ⟨p', hp'⟩ : ∃ p', (writeV v1 (cfA 2) p [] cs).1.1 = p' := ⟨_, rfl⟩
              obtain ⟨q', hq'⟩ : ∃ q', (writeV v2 (cfA 2) q [] cs).1.1 = q' := ⟨_, rfl⟩
              obtain ⟨v1', hv1'⟩ : ∃ v1', (writeV v1 (cfA 2) p [] cs).1.2 = v1' := ⟨_, rfl⟩
              obtain ⟨v2', hv2'⟩ : ∃ v2', (writeV v2 (cfA 2) q [] cs).1.2 = v2' := ⟨_, rfl⟩
              rw [hp', hv1'] at T18 GD1
              rw [hq', hv2'] at T28 GD2
              have SI := Lib.hid (show SameI p' q' from by rw [← hp', ← hq']; exact SW.out.1)
              have LE2 := Lib.hid (show v2' ≤ v1' from by
                have := LE.out
                rw [← hv1', ← hv2', hd1, hd2]
                omega)
              clear SW LE hd1 hd2 hp' hq' hv1' hv2'
              obtain ⟨hb0, hrc, hcc⟩ := OPB.out _ B8.out
              obtain ⟨-, -, -, -, -, -, -, m7, -, -⟩ := op9_cells hcc
              obtain ⟨bs, hbs⟩ := chs_of hrc (show ob.cn ≤ 1000000 by omega)
              have BS := Lib.hid hbs
              have HOK := Lib.hid (show ∀ k, k < w.heap.size → k ∉ G7 from fun k hk hx => by
                have := (T18.out.lt k hx).1
                omega)
              clear hbs hrc hcc
              go_wp2_with (fail)
              refine (two_writeB w8 lo1 (2 * i + 1) g1 v1' 0 G7 p' pb1 [] [] (· < w.heap.size) ob.ca ob.cn ob.cc bs (by omega) HOK.out T18.out BS.out).mono ?_
              rintro e w9 ⟨G9, u9, e9, v9, pb9, rfl, hv9, h9, k9, gr9⟩
              have B9 := Lib.hid (B8.out.trans ((T18.out.below k9).mono hwl1))
              have P9 := Lib.hid (show BothC (2 * (i + 1)) lo1 lo2 g1 g2 G9 G8 p' q' v9 v2' w9 from ⟨⟨pb9, h9⟩, ⟨qb1, (T28.out.kept k9 (fun x hx hy => AP8.out x hx hy)).raise⟩, AP8.out.grows gr9 (fun x hx => (T28.out.lt x hx).2), GD1.out.mono hv9, GD2.out, SI.out, Nat.le_trans LE2.out hv9⟩)
              clear h9 k9 gr9 T18 T28 AP8 GD1 GD2 SI LE2 BS HOK B8 hv9
              go_wp2
              go_roundw
              case rel => exact ⟨i + 1, v9, v2', p', q', G9, G8, by go_num, by omega, P9.out, B9.out⟩
              case measure => simp [intOf]; omega
            · go_wp2_with (fail)
              refine GR.out.mono ?_
              rintro e w5 ⟨gr, rfl, hb5, hgr⟩
              have P0 := Lib.hid (HP.out.on hb5)
              have B0 := Lib.hid (below_on HB.out hb5)
              clear hb5 HP HB m0 m1 m2 m3 m4 m5 m6 m7 m8 m9 hb0 GR
              cases gr
              rotate_left
              · go_wp2
                go_ret
                exact ⟨rfl, B0.out⟩
              have hcn := hgr rfl
              clear hgr
              obtain ⟨hb0, hrc, hcc⟩ := OPF.out _ B0.out
              obtain ⟨-, -, -, -, -, -, -, m7, -, -⟩ := op9_cells hcc
              obtain ⟨cs, hcs⟩ := chs_of hrc (show o.cn ≤ 1000000 by omega)
              have CS := Lib.hid hcs
              obtain ⟨⟨pb1, h1⟩, ⟨qb1, h2⟩, h3, h4, h5, h6, h7⟩ := P0.out
              have T1 := Lib.hid h1
              have T2 := Lib.hid h2
              have AP := Lib.hid h3
              have SW := Lib.hid (h6.write h4 h5 (cfA 2) cs)
              have GD1 := Lib.hid (h4.write (cfA 2) [] cs)
              have GD2 := Lib.hid (h5.write (cfA 2) [] cs)
              have LE := Lib.hid h7
              have HOK1 := Lib.hid (show ∀ k, k < w.heap.size → k ∉ G1 from fun k hk hx => by
                have := (T1.out.lt k hx).1
                omega)
              have HOK2 := Lib.hid (show ∀ k, k < w.heap.size → k ∉ G2 from fun k hk hx => by
                have := (T2.out.lt k hx).1
                omega)
              clear hcs hrc hcc h1 h2 h3 h4 h5 h6 h7 P0
              go_wp2_with (fail)
              refine (two_write w5 lo1 (2 * i) g1 v1 0 G1 p pb1 [] [] (· < w.heap.size) o.ca o.cn o.cc cs (by omega) HOK1.out T1.out CS.out).mono ?_
              rintro e w7 ⟨G7, rfl, h7, k7, gr7⟩
              have B7 := Lib.hid (B0.out.trans ((T1.out.below k7).mono hwl1))
              have T27 := Lib.hid (T2.out.kept k7 (fun x hx hy => AP.out x hx hy))
              have AP7 := Lib.hid (AP.out.grows gr7 (fun x hx => (T2.out.lt x hx).2))
              have T17 := Lib.hid h7
              have CS7 := Lib.hid (CS.out.stay (ok' := (· < w.heap.size)) k7.size (fun k hk hkk => k7.block k hkk (HOK1.out k hk)) (fun _ h _ => h))
              obtain ⟨hb1, hrc1, hcc1⟩ := OPF.out _ B7.out
              obtain ⟨-, -, -, -, -, -, -, n7, -, -⟩ := op9_cells hcc1
              clear h7 k7 gr7 hrc1 hcc1 T1 T2 AP m7 hb0
              go_wp2_with (fail)
              refine (two_write w7 lo2 (2 * i) g2 v2 0 G2 q qb1 [] [] (· < w.heap.size) o.ca o.cn o.cc cs (by omega) HOK2.out T27.out CS7.out).mono ?_
              rintro e w8 ⟨G8, rfl, h8, k8, gr8⟩
              have B8 := Lib.hid (B7.out.trans ((T27.out.below k8).mono hwl2))
              have T18 := Lib.hid (T17.out.kept k8 (fun x hx hy => AP7.out x hy hx))
              have AP8 := Lib.hid ((AP7.out.symm.grows gr8 (fun x hx => (T17.out.lt x hx).2)).symm)
              have T28 := Lib.hid h8
              clear h8 k8 gr8 n7 hb1 CS CS7 T17 T27 HOK1 HOK2
              obtain ⟨d, hd1, hd2⟩ := SW.out.2
              obtain ⟨p', hp'⟩ : ∃ p', (writeV v1 (cfA 2) p [] cs).1.1 = p' := ⟨_, rfl⟩
              obtain ⟨q', hq'⟩ : ∃ q', (writeV v2 (cfA 2) q [] cs).1.1 = q' := ⟨_, rfl⟩
              obtain ⟨v1', hv1'⟩ : ∃ v1', (writeV v1 (cfA 2) p [] cs).1.2 = v1' := ⟨_, rfl⟩
              obtain ⟨v2', hv2'⟩ : ∃ v2', (writeV v2 (cfA 2) q [] cs).1.2 = v2' := ⟨_, rfl⟩
              rw [hp', hv1'] at T18 GD1
              rw [hq', hv2'] at T28 GD2
              have SI := Lib.hid (show SameI p' q' from by rw [← hp', ← hq']; exact SW.out.1)
              have LE2 := Lib.hid (show v2' ≤ v1' from by
                have := LE.out
                rw [← hv1', ← hv2', hd1, hd2]
                omega)
              clear SW LE hd1 hd2 hp' hq' hv1' hv2'
              have P9 := Lib.hid (show BothC (2 * (i + 1)) lo1 lo2 g1 g2 G7 G8 p' q' v1' v2' w8 from ⟨⟨pb1, T18.out.raise⟩, ⟨qb1, T28.out.raise⟩, AP8.out, GD1.out, GD2.out, SI.out, LE2.out⟩)
              clear T18 T28 AP8 GD1 GD2 SI LE2
              go_wp2
              go_roundw
              case rel => exact ⟨i + 1, v1', v2', p', q', G7, G8, by go_num, by omega, P9.out, B8.out⟩
              case measure => simp [intOf]; omega
          · clear HZI
            obtain ⟨⟨pb1, h1⟩, ⟨qb1, h2⟩, h3, h4, h5, h6, h7⟩ := HP.out
            have T1 := Lib.hid h1
            have T2 := Lib.hid h2
            have AP := Lib.hid h3
            have GD1 := Lib.hid h4
            have GD2 := Lib.hid h5
            have SI := Lib.hid h6
            have hle := h7
            clear h1 h2 h3 h4 h5 h6 h7 HP
            go_wp2_with (fail)
            refine (two_pin wc lo1 (2 * i) g1 v1 0 G1 p pb1 [] [] (by omega) T1.out).mono ?_
            rintro e w5 ⟨G5, rfl, h5, k5, gr5⟩
            have B5 := Lib.hid (HB.out.trans ((T1.out.below k5).mono hwl1))
            have T25 := Lib.hid (T2.out.kept k5 (fun x hx hy => AP.out x hx hy))
            have AP5 := Lib.hid (AP.out.grows gr5 (fun x hx => (T2.out.lt x hx).2))
            have T15 := Lib.hid (show TwoC w5 lo1 (2 * i + 1) g1 G5 p pb1 [v1] [(1, v1)] v1 1 from h5)
            clear h5 k5 gr5 T1 T2 AP HB
            go_wp2_with (fail)
            refine (two_pin w5 lo2 (2 * i) g2 v2 0 G2 q qb1 [] [] (by omega) T25.out).mono ?_
            rintro e w6 ⟨G6, rfl, h6, k6, -⟩
            have B6 := Lib.hid (B5.out.trans ((T25.out.below k6).mono hwl2))
            have T16 := Lib.hid (T15.out.kept k6 (fun x hx hy => AP5.out x hy hx))
            have T26 := Lib.hid (show TwoC w6 lo2 (2 * i + 1) g2 G6 q qb1 [v2] [(1, v2)] v2 1 from h6)
            have PN := Lib.hid (two_pinned w6 lo1 (2 * i + 1) g1 v1 1 G5 p pb1 [v1] [(1, v1)] (1, v1) (by omega) (by simp) T16.out)
            rw [show (p.all ((1, v1) : Nat × Nat).2).2 = 0 from all_code (GD1.out.now GD1.out.last)] at PN
            clear h6 k6 T15 T25 AP5 B5
            go_wp2_with (fail)
            refine PN.out.mono ?_
            rintro e wA ⟨hbA, sv, us, rfl, hus, huo, hut⟩
            have huz : us.length ≤ 1000000 := by
              have h1 := all_len p v1
              rw [← (show us.map ItL.toI = (p.all v1).1 from hut), List.length_map] at h1
              have h2 := T16.out.few
              omega
            obtain ⟨sa, sn, sc, rfl, -⟩ := its_rd hus huo huz
            have T0 := Lib.hid (And.intro hus (And.intro huo huz))
            have TL := Lib.hid (show us.map ItL.toI = (p.all p.last).1 from by rw [← GD1.out.all GD1.out.last]; exact hut)
            have BA := Lib.hid hbA
            rw [cfA_cells]
            clear hbA hus huo hut huz PN
            have PN := Lib.hid (fun W (hW : Below wA.heap.size wA W) => two_pinned W lo2 (2 * i + 1) g2 v2 1 G6 q qb1 [v2] [(1, v2)] (1, v2) (by omega) (by simp) (T26.out.on (below_on BA.out hW)))
            rw [show (q.all ((1, v2) : Nat × Nat).2).2 = 0 from all_code (GD2.out.now GD2.out.last)] at PN
            go_wp2_with (fail)
            have BC := (Below.refl wA.heap.size wA).alloc (Nat.le_refl _) (.cells #[.string ⟨#[97]⟩, .int .u8 2, .int .u8 0, .bool false, .int .u8 0, .int .u16 0] 36)
            refine (PN.out _ BC).mono ?_
            rintro e wB ⟨hbB, sv, vs, rfl, hvs, hvo, hvt⟩
            have hvz : vs.length ≤ 1000000 := by
              have h1 := all_len q v2
              rw [← (show vs.map ItL.toI = (q.all v2).1 from hvt), List.length_map] at h1
              have h2 := T26.out.few
              omega
            obtain ⟨ta, tn, tc, rfl, -⟩ := its_rd hvs hvo hvz
            have BB := Lib.hid (below_on BC hbB)
            have EQ := Lib.hid (show (us.map ItL.tup).map toItem = (vs.map ItL.tup).map toItem from by
              rw [tups9, tups9, TL.out, SI.out.all GD1.out GD2.out, ← GD2.out.all GD2.out.last]
              exact hvt.symm)
            have V7 := Lib.hid (And.intro hvs hvo)
            have RD := Lib.hid (show ∀ W, Below wB.heap.size wB W → Rd (fun _ => True) W shItems [.slice sa sn sc] (us.map ItL.tup) ∧ Rd (fun _ => True) W shItems [.slice ta tn tc] (vs.map ItL.tup) from fun W hW => by
              have hAW := below_on BB.out hW
              obtain ⟨x1, y1, z1, e1, r1⟩ := its_rd (V7.out.1.on hW) (fun x hx => (V7.out.2 x hx).on hW) hvz
              simp only [Value.slice.injEq] at e1
              obtain ⟨rfl, rfl, rfl⟩ := e1
              obtain ⟨x2, y2, z2, e2, r2⟩ := its_rd (T0.out.1.on hAW) (fun x hx => (T0.out.2.1 x hx).on hAW) T0.out.2.2
              simp only [Value.slice.injEq] at e2
              obtain ⟨rfl, rfl, rfl⟩ := e2
              exact ⟨r2, r1⟩)
            have BW := Lib.hid (below_on BA.out BB.out)
            have S1 := Lib.hid (fun W (hW : Below wB.heap.size wB W) => two_size W lo1 (2 * i + 1) g1 v1 1 G5 p pb1 [v1] [(1, v1)] (T16.out.on (below_on BW.out hW)))
            have S2 := Lib.hid (fun W (hW : Below wB.heap.size wB W) => two_size W lo2 (2 * i + 1) g2 v2 1 G6 q qb1 [v2] [(1, v2)] (T26.out.on (below_on BW.out hW)))
            have R1 := Lib.hid (fun W (hW : Below wB.heap.size wB W) => two_rows W lo1 (2 * i + 1) g1 v1 1 G5 p pb1 [v1] [(1, v1)] (T16.out.on (below_on BW.out hW)))
            have R2 := Lib.hid (fun W (hW : Below wB.heap.size wB W) => two_rows W lo2 (2 * i + 1) g2 v2 1 G6 q qb1 [v2] [(1, v2)] (T26.out.on (below_on BW.out hW)))
            have V1 := Lib.hid (fun W (hW : Below wB.heap.size wB W) => two_version W lo1 (2 * i + 1) g1 v1 1 G5 p pb1 [v1] [(1, v1)] (T16.out.on (below_on BW.out hW)))
            have V2 := Lib.hid (fun W (hW : Below wB.heap.size wB W) => two_version W lo2 (2 * i + 1) g2 v2 1 G6 q qb1 [v2] [(1, v2)] (T26.out.on (below_on BW.out hW)))
            rw [SI.out.all GD1.out GD2.out] at S1
            rw [SI.out.len] at R1
            obtain ⟨m, hm⟩ : ∃ m, (q.all q.last).1.length = m := ⟨_, rfl⟩
            obtain ⟨rn, hrn⟩ : ∃ rn, q.rows.length = rn := ⟨_, rfl⟩
            rw [hm] at S1 S2
            rw [hrn] at R1 R2
            have BE := Lib.hid (show Below w.heap.size w wB from below_on B6.out BW.out)
            rw [cfA_cells]
            clear hbB hvs hvo hvt hvz PN BC V7 T0 TL BA BB T16 T26 B6 hm hrn
            go_wp2_with (fail)
            have BC := (Below.refl wB.heap.size wB).alloc (Nat.le_refl _) (.cells #[.string ⟨#[97]⟩, .int .u8 2, .int .u8 0, .bool false, .int .u8 0, .int .u16 0] 36)
            refine (sameItems _ _ _ _ _ _ _ _ _ (RD.out _ BC).1 (RD.out _ BC).2).mono ?_
            rintro e wD ⟨zz, rfl, hzz, hbD⟩
            obtain rfl : zz = true := hzz.2 EQ.out
            have BD := Lib.hid (below_on BC hbD)
            clear BC hbD hzz RD EQ
            go_wp2_with (fail)
            refine (S1.out _ BD.out).mono ?_
            rintro e wF ⟨rfl, hbF⟩
            have BF := Lib.hid (below_on BD.out hbF)
            clear hbF
            go_wp2_with (fail)
            refine (S2.out _ BF.out).mono ?_
            rintro e wG ⟨rfl, hbG⟩
            have BG := Lib.hid (below_on BF.out hbG)
            clear hbG
            go_wp2_with (fail)
            refine (R1.out _ BG.out).mono ?_
            rintro e wH ⟨rfl, hwH⟩
            subst hwH
            go_wp2_with (fail)
            refine (R2.out _ BG.out).mono ?_
            rintro e wI ⟨rfl, hwI⟩
            subst hwI
            go_wp2_with (fail)
            refine (V1.out _ BG.out).mono ?_
            rintro e wJ ⟨rfl, hwJ⟩
            subst hwJ
            go_wp2_with (fail)
            refine (V2.out _ BG.out).mono ?_
            rintro e wK ⟨rfl, hwK⟩
            subst hwK
            have BZ := Lib.hid (below_on BE.out BG.out)
            go_wp2
            go_ret
            exact ⟨by simp, BZ.out⟩
theorem apart_row : Rows.StoreApartSaid :=
  OpenClaim.holds_of_wide 7 Tryz.f7 rfl rfl rfl rfl rfl rfl rfl ⟨rfl, rfl, rfl, rfl, rfl⟩ rfl rfl rfl rfl rfl (by kernel_rfl) Tryz.func7 (by kernel_rfl)
    (of_decide_eq_true (by kernel_rfl)) (by unfold Func.isWrapper; rw [if_neg (of_decide_eq_false (by kernel_rfl))]; exact ⟨rfl, rfl⟩)
    (fun os started H enc _ => lift (C := Tryz.checked) (s := Rows.storeApartSpec) (conds := Rows.storeApartRow.domain) os started H enc prog_own (by kernel_rfl) Tryz.func7 prog_laid rfl Tryz.underlying4 rfl
      (fun ds hl => by
        have hl : ds.length = 2 := hl
        match ds, hl with
        | [_, _], _ => rfl)
      (of_decide_eq_true (by kernel_rfl))
      (ChangeSpec.witness6 (enc := enc) (C := Tryz.checked) false ⟨#[], #[.slice none 0 0, .slice none 0 0], []⟩ 8 (by kernel_rfl) (by kernel_rfl) (by kernel_rfl) (by kernel_rfl))
      (fun W base args ds p g => by
        rw [Tryz.params7] at g
        obtain ⟨a, n, c, xs, e0, hx⟩ := g.ops9 0 rfl
        obtain ⟨a2, n2, c2, ys, e1, hy⟩ := g.ops9 1 rfl
        rw [args2 g.count e0 e1]
        exact apart_walk a n c xs a2 n2 c2 ys W hx hy))
end Go.Proofs.YtdmnflncgmnghaaGreat
