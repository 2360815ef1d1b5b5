/-
  A store with one collection in plain words; mathematics of its past (pins never change; as many rows as items); what an op is read as, which ones are let go.
-/
import Derived.Test.YtdmnflncgmnghaaGreatUm
import Derived.Test.YtdmnflncgmnghaaGreatUs
import Derived.Test.YtdmnflncgmnghaaGreatSv
namespace Go.Proofs.YtdmnflncgmnghaaGreat
open Go.RowKit Go.ChangeShapes Go.WideShapes Go.ChangeAt

/-- Pins by their numbers and versions. -/
def pinsOf (c : Nat) (Qs : List (Nat × Nat)) : List SPin := Qs.map fun q => ⟨q.1, c, q.2⟩
def OneIs (w : World) (lo N g : Nat) (G : List Nat) (cf : ConfL) (p : PastV) (L : List Nat) (Qs : List (Nat × Nat)) (ver last : Nat) : Prop :=
  ∃ gc gp c F, StoreIs w lo N g gc gp [⟨c, F, cf, p, L⟩] (pinsOf c Qs) ver last ∧ G = storeFp g gc gp [⟨c, F, cf, p, L⟩]
section
variable {w w' : World} {lo N g ver last : Nat} {G F : List Nat} {cf : ConfL} {p : PastV} {L : List Nat} {Qs : List (Nat × Nat)}
theorem OneIs.kept (h : OneIs w lo N g G cf p L Qs ver last) (hk : Kept F w w') (hF : ∀ x ∈ F, x ∉ G) : OneIs w' lo N g G cf p L Qs ver last := by
  obtain ⟨gc, gp, c, F', h1, rfl⟩ := h
  exact ⟨gc, gp, c, F', h1.kept hk hF, rfl⟩
theorem OneIs.on (h : OneIs w lo N g G cf p L Qs ver last) (hb : Below w.heap.size w w') : OneIs w' lo N g G cf p L Qs ver last := h.kept (F := []) (Kept.of_below hb (Nat.le_refl _)) (by simp)
theorem OneIs.lt (h : OneIs w lo N g G cf p L Qs ver last) : ∀ x ∈ G, lo ≤ x ∧ x < w.heap.size := by
  obtain ⟨gc, gp, c, F', h1, rfl⟩ := h
  exact h1.lt
theorem OneIs.raise (h : OneIs w lo N g G cf p L Qs ver last) {N' : Nat} (hN : N ≤ N') : OneIs w lo N' g G cf p L Qs ver last := by
  obtain ⟨gc, gp, c, F', h1, rfl⟩ := h
  obtain ⟨d, rfl⟩ := Nat.exists_eq_add_of_le hN
  clear hN
  induction d with
  | zero => exact ⟨gc, gp, c, F', h1, rfl⟩
  | succ d ih =>
    obtain ⟨gc2, gp2, c2, F2, h2, e2⟩ := ih
    exact ⟨gc2, gp2, c2, F2, h2.raise, e2⟩
theorem OneIs.size (h : OneIs w lo N g G cf p L Qs ver last) : lo ≤ w.heap.size := by
  obtain ⟨gc, gp, c, F', h1, rfl⟩ := h
  have h2 := h1.blk.lt
  have h3 := h1.low.1
  omega
theorem OneIs.below (h : OneIs w lo N g G cf p L Qs ver last) (hk : Kept G w w') : Below lo w w' := hk.below (fun x hx => (h.lt x hx).1) h.size
theorem OneIs.held (h : OneIs w lo N g G cf p L Qs ver last) : L.Perm (Qs.map (·.2)) := by
  obtain ⟨gc, gp, c, F', h1, rfl⟩ := h
  have h2 := h1.held _ (by simp : (⟨c, F', cf, p, L⟩ : SColl) ∈ _)
  have e : ((pinsOf c Qs).filter fun q => decide (q.c = c)).map (·.v) = Qs.map (·.2) := by
    rw [List.filter_eq_self.2 (fun q hq => by
      obtain ⟨r, _, rfl⟩ := List.mem_map.1 hq
      simp), pinsOf, List.map_map]
    rfl
  rw [e] at h2
  exact h2
theorem OneIs.pin (h : OneIs w lo N g G cf p L Qs ver last) {q : Nat × Nat} (hq : q ∈ Qs) : q.2 ≤ ver ∧ 1 ≤ q.1 ∧ q.1 ≤ last := by
  obtain ⟨gc, gp, c, F', h1, rfl⟩ := h
  exact h1.hv ⟨q.1, c, q.2⟩ (List.mem_map.2 ⟨q, hq, rfl⟩)
theorem OneIs.bound (h : OneIs w lo N g G cf p L Qs ver last) : ver ≤ N ∧ last ≤ N ∧ Qs.length ≤ N := by
  obtain ⟨gc, gp, c, F', h1, rfl⟩ := h
  have := h1.hps
  simp [pinsOf] at this
  exact ⟨h1.hver, h1.hlast, this⟩
theorem OneIs.few (h : OneIs w lo N g G cf p L Qs ver last) : p.rows.length ≤ 1024 := by
  obtain ⟨gc, gp, c, F', h1, rfl⟩ := h
  obtain ⟨gp', gh, Fp, H, h3, _⟩ := h1.each _ (by simp : (⟨c, F', cf, p, L⟩ : SColl) ∈ _)
  exact h3.past.few
end
theorem one_create (w : World) (lo g : Nat) (cf : ConfL) (hw : cf.Wf) (hok : cf.ok = true) (hlo : lo ≤ w.heap.size) (h : ∃ gc gp, StoreIs w lo 0 g gc gp [] [] 0 0) :
    Calls Tryz.prog 21 #[.pointer (some ⟨g, 0, none⟩), .agg cf.cells.toArray] w fun e w' => e = .returned (.int .i64 0) ∧ ∃ G, OneIs w' lo 0 g G cf PastV.new [] [] 0 0 ∧ Below lo w w' := by
  obtain ⟨gc, gp, h⟩ := h
  refine (create_store w lo 0 g gc gp 0 0 [] [] cf hw hok (by simp [collE]) (by simp) hlo h).mono ?_
  rintro e w' ⟨rfl, c, F, h1, h2, h3⟩
  exact ⟨rfl, _, ⟨gc, gp, c, F, h1, rfl⟩, h2.below (fun x hx => (h.lt x hx).1) hlo⟩
section
variable (w : World) (lo N g ver last : Nat) (G : List Nat) (cf : ConfL) (p : PastV) (L : List Nat) (Qs : List (Nat × Nat))
theorem one_write (ok : Nat → Prop) (a : Option Addr) (n k : Nat) (xs : List ChL) (hN : N < 100000) (hok : ∀ k, ok k → k ∉ G) (hsz : cf.name.size ≤ maxLen) (h : OneIs w lo N g G cf p L Qs ver last) (hxs : ChsAt ok w a n k xs) :
    Calls Tryz.prog 22 #[.pointer (some ⟨g, 0, none⟩), .string cf.name, .slice a n k] w fun e w' => ∃ G', e = .returned (.tuple #[.int .u64 ((writeV ver cf p L xs).2.1 : Int), .int .i64 ((writeV ver cf p L xs).2.2 : Int)]) ∧
      OneIs w' lo (N + 1) g G' cf (writeV ver cf p L xs).1.1 L Qs (writeV ver cf p L xs).1.2 last ∧ Kept G w w' ∧ Grows w G G' := by
  obtain ⟨gc, gp, c, F, h1, rfl⟩ := h
  refine (write_store w ok lo N g gc gp ver last ⟨c, F, cf, p, L⟩ [] _ a n k xs hN hok hsz h1 hxs).mono ?_
  rintro e w' ⟨F', rfl, h2, h3, h4⟩
  exact ⟨_, rfl, ⟨gc, gp, c, F', h2, rfl⟩, h3, h4⟩
theorem one_pin (hN : N < 100000) (hsz : cf.name.size ≤ maxLen) (h : OneIs w lo N g G cf p L Qs ver last) :
    Calls Tryz.prog 23 #[.pointer (some ⟨g, 0, none⟩), .string cf.name] w fun e w' => ∃ G', e = .returned (.tuple #[.int .i64 ((last + 1 : Nat) : Int), .int .u64 (ver : Int), .int .i64 0]) ∧
      OneIs w' lo (N + 1) g G' cf p (ver :: L) (Qs ++ [(last + 1, ver)]) ver (last + 1) ∧ Kept G w w' ∧ Grows w G G' := by
  obtain ⟨gc, gp, c, F, h1, rfl⟩ := h
  refine (pin_store w lo N g gc gp ver last ⟨c, F, cf, p, L⟩ [] _ hN hsz (by simp) h1).mono ?_
  rintro e w' ⟨F', rfl, h2, h3, h4⟩
  refine ⟨_, rfl, ⟨gc, gp, c, F', ?_, rfl⟩, h3, h4⟩
  rw [pinsOf, List.map_append]
  exact h2
theorem one_unpin (q : Nat × Nat) (hN : N < 100000) (hq : q ∈ Qs) (h : OneIs w lo N g G cf p L Qs ver last) :
    Calls Tryz.prog 25 #[.pointer (some ⟨g, 0, none⟩), .int .i64 (q.1 : Int)] w fun e w' => ∃ G', e = .returned (.bool true) ∧
      OneIs w' lo N g G' cf (p.sweep (L.erase q.2)).1 (L.erase q.2) (Qs.filter fun r => decide (r.1 ≠ q.1)) ver last ∧ Kept G w w' ∧ Grows w G G' := by
  obtain ⟨gc, gp, c, F, h1, rfl⟩ := h
  refine (unpin_store w lo N g gc gp ver last ⟨c, F, cf, p, L⟩ [] _ ⟨q.1, c, q.2⟩ hN (by simp) (List.mem_map.2 ⟨q, hq, rfl⟩) rfl h1).mono ?_
  rintro e w' ⟨F', rfl, h2, h3, h4⟩
  refine ⟨_, rfl, ⟨gc, gp, c, F', ?_, rfl⟩, h3, h4⟩
  have e : (pinsOf c Qs).filter (fun r => decide (r.n ≠ q.1)) = pinsOf c (Qs.filter fun r => decide (r.1 ≠ q.1)) := by
    unfold pinsOf
    rw [List.filter_map]
    rfl
  rw [← e]
  exact h2
theorem one_unpin_none (i : Int) (hi : (Lit.int .i64 i).wf = true) (hn : ∀ q ∈ Qs, (q.1 : Int) ≠ i) (h : OneIs w lo N g G cf p L Qs ver last) :
    Calls Tryz.prog 25 #[.pointer (some ⟨g, 0, none⟩), .int .i64 i] w fun e w' => e = .returned (.bool false) ∧ Below w.heap.size w w' := by
  obtain ⟨gc, gp, c, F, h1, rfl⟩ := h
  refine unpin_none w lo N g gc gp ver last _ _ i hi (fun q hq => ?_) h1
  obtain ⟨r, hr, rfl⟩ := List.mem_map.1 hq
  exact hn r hr
theorem one_pinned (q : Nat × Nat) (hN : N ≤ 100000) (hq : q ∈ Qs) (h : OneIs w lo N g G cf p L Qs ver last) :
    Calls Tryz.prog 24 #[.pointer (some ⟨g, 0, none⟩), .int .i64 (q.1 : Int)] w fun e w' => Below w.heap.size w w' ∧ ∃ (sv : Value) (xs : List ItL), e = .returned (.tuple #[sv, .agg cf.cells.toArray, .int .i64 ((p.all q.2).2 : Int)]) ∧
      ItsAt w.heap.size w' sv xs ∧ (∀ x ∈ xs, x.OwnI w.heap.size w') ∧ xs.map ItL.toI = (p.all q.2).1 := by
  obtain ⟨gc, gp, c, F, h1, rfl⟩ := h
  exact pinned_store w lo N g gc gp ver last ⟨c, F, cf, p, L⟩ [] _ ⟨q.1, c, q.2⟩ hN (List.mem_map.2 ⟨q, hq, rfl⟩) rfl h1
theorem one_size (hsz : cf.name.size ≤ maxLen) (h : OneIs w lo N g G cf p L Qs ver last) :
    Calls Tryz.prog 17 #[.pointer (some ⟨g, 0, none⟩), .string cf.name] w fun e w' => e = .returned (.int .i64 ((p.all p.last).1.length : Int)) ∧ Below w.heap.size w w' := by
  obtain ⟨gc, gp, c, F, h1, rfl⟩ := h
  exact size_store w lo N g gc gp ver last ⟨c, F, cf, p, L⟩ [] _ hsz h1
theorem one_rows (hsz : cf.name.size ≤ maxLen) (h : OneIs w lo N g G cf p L Qs ver last) :
    Calls Tryz.prog 18 #[.pointer (some ⟨g, 0, none⟩), .string cf.name] w fun e w' => e = .returned (.int .i64 (p.rows.length : Int)) ∧ w' = w := by
  obtain ⟨gc, gp, c, F, h1, rfl⟩ := h
  exact rows_store w lo N g gc gp ver last ⟨c, F, cf, p, L⟩ [] _ hsz h1
theorem one_version (h : OneIs w lo N g G cf p L Qs ver last) :
    Calls Tryz.prog 14 #[.pointer (some ⟨g, 0, none⟩)] w fun e w' => e = .returned (.int .u64 (ver : Int)) ∧ w' = w := by
  obtain ⟨gc, gp, c, F, h1, rfl⟩ := h
  exact version_store w lo N g gc gp ver last _ _ h1
theorem one_pins (h : OneIs w lo N g G cf p L Qs ver last) :
    Calls Tryz.prog 15 #[.pointer (some ⟨g, 0, none⟩)] w fun e w' => e = .returned (.int .i64 (Qs.length : Int)) ∧ w' = w := by
  obtain ⟨gc, gp, c, F, h1, rfl⟩ := h
  have := pins_store w lo N g gc gp ver last _ _ h1
  rw [show (pinsOf c Qs).length = Qs.length from by simp [pinsOf]] at this
  exact this
end

/-- Its rows' versions are in their bounds. -/
structure GoodP (V : Nat) (p : PastV) : Prop where
  rows : ∀ r ∈ p.rows, r.v ≤ p.last
  last : p.last ≤ V
  floor : p.floor ≤ p.last
theorem GoodP.new : GoodP 0 PastV.new := ⟨fun r hr => (by cases hr), Nat.le_refl _, Nat.le_refl _⟩
theorem GoodP.mono {V V' : Nat} {p : PastV} (h : GoodP V p) (hV : V ≤ V') : GoodP V' p := ⟨h.rows, Nat.le_trans h.last hV, h.floor⟩
theorem known_of {p : PastV} {v : Nat} (h : p.floor ≤ v) : p.known v = true := by
  unfold PastV.known
  rw [decide_eq_true h, Bool.or_true]
theorem GoodP.now {V : Nat} {p : PastV} (h : GoodP V p) {v : Nat} (hv : p.last ≤ v) : p.known v = true := known_of (Nat.le_trans h.floor hv)
theorem GoodP.lay {V : Nat} {p : PastV} {r : RowV} (h : GoodP V p) (hr : r.v ≤ V) : GoodP V (p.lay r).1 := by
  rcases lay_cases p r with e | ⟨e, hle⟩
  · rw [e]
    exact h
  · rw [e]
    refine ⟨fun s hs => ?_, hr, Nat.le_trans h.floor hle⟩
    rcases List.mem_append.1 hs with hs | hs
    · exact Nat.le_trans (h.rows s hs) hle
    · rw [List.mem_singleton.1 hs]
      exact Nat.le_refl _
theorem ChL.row_v (v : Nat) (x : ChL) : (x.row v).v = v := by
  unfold ChL.row
  split <;> rfl
theorem GoodP.layS {V : Nat} : ∀ (xs : List ChL) {p : PastV}, GoodP V p → GoodP V (layS V p xs) := by
  intro xs
  induction xs with
  | nil => exact fun h => h
  | cons x xs ih => exact fun h => ih (h.lay (by rw [ChL.row_v]; exact Nat.le_refl _))
theorem sweepI_subs (L : List RowV) (last : Nat) (ks : List Nat) : ∀ i, ∀ r ∈ sweepI L last ks i, r ∈ L := by
  intro i
  induction i with
  | zero =>
    intro r h
    cases h
  | succ i ih =>
    intro r h
    cases hi : L[i]? with
    | none =>
      rw [sweepI, hi] at h
      exact ih r h
    | some s =>
      rw [sweepI_succ L last ks hi] at h
      split at h
      · rcases List.mem_append.1 h with h | h
        · exact ih r h
        · rw [List.mem_singleton.1 h]
          exact List.mem_of_getElem? hi
      · exact ih r h
theorem GoodP.sweep {V : Nat} {p : PastV} (h : GoodP V p) (L : List Nat) : GoodP V (p.sweep L).1 := ⟨fun r hr => h.rows r (sweepI_subs _ _ _ _ r hr), h.last, Nat.le_refl _⟩
theorem GoodP.write {ver : Nat} {p : PastV} (h : GoodP ver p) (cf : ConfL) (L : List Nat) (xs : List ChL) : GoodP (writeV ver cf p L xs).1.2 (writeV ver cf p L xs).1.1 := by
  unfold writeV
  split
  · exact h
  · split
    · exact h
    · exact (GoodP.layS xs (h.mono (Nat.le_succ ver))).sweep L
theorem write_ver (ver : Nat) (cf : ConfL) (p : PastV) (L : List Nat) (xs : List ChL) : ver ≤ (writeV ver cf p L xs).1.2 := by
  unfold writeV
  split
  · exact Nat.le_refl _
  · split
    · exact Nat.le_refl _
    · exact Nat.le_succ _
/-- What is told of v is as it was. -/
def KeepsV (p p' : PastV) (v : Nat) : Prop := p'.known v = true ∧ ∀ id, thereP p'.rows id v = thereP p.rows id v
theorem KeepsV.refl {p : PastV} {v : Nat} (h : p.known v = true) : KeepsV p p v := ⟨h, fun _ => rfl⟩
theorem KeepsV.trans {p q r : PastV} {v : Nat} (h : KeepsV p q v) (k : KeepsV q r v) : KeepsV p r v := ⟨k.1, fun id => (k.2 id).trans (h.2 id)⟩
theorem KeepsV.lay {p : PastV} {r : RowV} {v : Nat} (hk : p.known v = true) (hv : v < r.v) : KeepsV p (p.lay r).1 v := by
  refine ⟨(lay_known p r v).trans hk, fun id => ?_⟩
  rcases lay_cases p r with e | ⟨e, _⟩
  · rw [e]
  · rw [e]
    show thereP (p.rows ++ [r]) id v = _
    rw [thereP_snoc]
    have : r.hit id v = false := by
      unfold RowV.hit
      rw [decide_eq_false (by omega), Bool.and_false]
    rw [this]
    rfl
theorem KeepsV.layS {V v : Nat} (hv : v < V) : ∀ (xs : List ChL) {p : PastV}, p.known v = true → KeepsV p (layS V p xs) v := by
  intro xs
  induction xs with
  | nil => exact fun h => KeepsV.refl h
  | cons x xs ih =>
    intro p h
    have h1 : KeepsV p (p.lay (x.row V)).1 v := KeepsV.lay h (by rw [ChL.row_v]; exact hv)
    exact h1.trans (ih h1.1)
theorem KeepsV.sweep {p : PastV} {L : List Nat} {v : Nat} (hk : p.known v = true) (hv : v ∈ L) : KeepsV p (p.sweep L).1 v := by
  have hf : v ∈ L.filter p.known := List.mem_filter.2 ⟨hv, hk⟩
  refine ⟨?_, fun id => sweep_tells _ _ _ _ _ (.inr hf)⟩
  show ((L.filter p.known).contains v || decide (p.last ≤ v)) = true
  rw [List.contains_iff_mem.2 hf, Bool.true_or]
theorem KeepsV.write {ver v : Nat} {p : PastV} (cf : ConfL) {L : List Nat} (xs : List ChL) (hk : p.known v = true) (hv : v ≤ ver) (hL : v ∈ L) : KeepsV p (writeV ver cf p L xs).1.1 v := by
  unfold writeV
  split
  · exact KeepsV.refl hk
  · split
    · exact KeepsV.refl hk
    · have h1 := KeepsV.layS (Nat.lt_succ_of_le hv) xs hk
      exact h1.trans (KeepsV.sweep h1.1 hL)
theorem KeepsV.all {p p' : PastV} {v : Nat} (hp : p.known v = true) (h : KeepsV p p' v) : p'.all v = p.all v := by
  unfold PastV.all
  rw [hp, h.1, if_pos rfl, if_pos rfl, all_same h.2]
theorem all_code {p : PastV} {v : Nat} (hp : p.known v = true) : (p.all v).2 = 0 := by
  unfold PastV.all
  rw [hp, if_pos rfl]
/-- What is there at any later version is what is there now. -/
theorem GoodP.all {V : Nat} {p : PastV} (h : GoodP V p) {v : Nat} (hv : p.last ≤ v) : p.all v = p.all p.last := by
  unfold PastV.all
  rw [h.now hv, h.now (Nat.le_refl _), if_pos rfl, if_pos rfl]
  rw [all_same (M := p.rows) (v' := p.last) fun id => by
    unfold thereP
    rw [atP_behind h.rows hv]]
/-- As many rows as items. -/
def Tight (p : PastV) : Prop := p.rows.length = (p.all p.last).1.length
theorem sweepI_at (L : List RowV) (last : Nat) : ∀ i, ∀ s ∈ sweepI L last [] i, ∃ j, j < i ∧ atP L s.item.id last = (j : Nat) := by
  intro i
  induction i with
  | zero =>
    intro s h
    cases h
  | succ i ih =>
    intro s h
    cases hi : L[i]? with
    | none =>
      rw [sweepI, hi] at h
      obtain ⟨j, h1, h2⟩ := ih s h
      exact ⟨j, by omega, h2⟩
    | some r =>
      rw [sweepI_succ L last [] hi] at h
      split at h
      · rename_i hc
        rcases List.mem_append.1 h with h | h
        · obtain ⟨j, h1, h2⟩ := ih s h
          exact ⟨j, by omega, h2⟩
        · rw [List.mem_singleton.1 h]
          simp only [needP, List.any_nil, Bool.or_false, Bool.and_eq_true, decide_eq_true_eq] at hc
          exact ⟨i, by omega, hc.1⟩
      · obtain ⟨j, h1, h2⟩ := ih s h
        exact ⟨j, by omega, h2⟩
theorem sweepI_tight (L : List RowV) (last : Nat) : ∀ i, (sweepI L last [] i).length = (allI L last i).length := by
  intro i
  induction i with
  | zero => rfl
  | succ i ih =>
    cases hi : L[i]? with
    | none =>
      rw [sweepI, allI, hi]
      exact ih
    | some r =>
      rw [sweepI_succ L last [] hi, allI, hi]
      simp only [needP, List.any_nil, Bool.or_false]
      by_cases hat : atP L r.item.id last = (i : Nat)
      · have hno : (sweepI L last [] i).any (fun s => s.item.id == r.item.id) = false := by
          rw [List.any_eq_false]
          intro s hs
          obtain ⟨j, h1, h2⟩ := sweepI_at L last i s hs
          simp only [beq_iff_eq]
          intro e
          rw [e, hat] at h2
          have : i = j := by exact_mod_cast h2
          omega
        rw [hno, decide_eq_true hat, Bool.or_false, Bool.true_and]
        cases hg : r.gone
        · rw [if_pos (show (!false) = true from rfl), if_pos (show atP L r.item.id last = (i : Int) ∧ false = false from ⟨hat, rfl⟩), insI, insG_len, List.length_append, ih]
          rfl
        · rw [if_neg (by simp), if_neg (by simp)]
          exact ih
      · rw [decide_eq_false hat, Bool.false_and, if_neg (by simp), if_neg (fun h => hat h.1)]
        exact ih
theorem Tight.sweep {V : Nat} {p : PastV} (h : GoodP V p) : Tight (p.sweep []).1 := by
  have h1 : KeepsV p (p.sweep []).1 p.last := by
    refine ⟨known_of (Nat.le_refl _), fun id => sweep_tells _ _ _ _ _ (.inl rfl)⟩
  have h2 := h1.all (h.now (Nat.le_refl _))
  unfold Tight
  show (sweepI p.rows p.last [] p.rows.length).length = ((p.sweep []).1.all p.last).1.length
  rw [h2, sweepI_tight]
  unfold PastV.all
  rw [h.now (Nat.le_refl _), if_pos rfl]
theorem Tight.new : Tight PastV.new := by
  unfold Tight PastV.all
  rw [show PastV.new.known PastV.new.last = true from rfl, if_pos rfl]
  rfl
theorem Tight.write {ver : Nat} {p : PastV} (h : Tight p) (hg : GoodP ver p) (cf : ConfL) (xs : List ChL) : Tight (writeV ver cf p [] xs).1.1 := by
  unfold writeV
  split
  · exact h
  · split
    · exact h
    · exact Tight.sweep (GoodP.layS xs (hg.mono (Nat.le_succ ver)))

theorem list_of {α : Type} {P : Nat → α → Prop} : ∀ n, (∀ i, i < n → ∃ x, P i x) → ∃ l : List α, l.length = n ∧ ∀ (i : Nat) (x : α), l[i]? = some x → P i x := by
  intro n
  induction n with
  | zero => exact fun _ => ⟨[], rfl, fun i x h => by simp at h⟩
  | succ n ih =>
    intro h
    obtain ⟨l, h1, h2⟩ := ih (fun i hi => h i (Nat.lt_succ_of_lt hi))
    obtain ⟨x, hx⟩ := h n (Nat.lt_succ_self n)
    refine ⟨l ++ [x], by simp [h1], fun i y hy => ?_⟩
    by_cases hi : i < n
    · rw [List.getElem?_append_left (by omega)] at hy
      exact h2 i y hy
    · have h3 := (List.getElem?_eq_some_iff.1 hy).1
      simp [h1] at h3
      obtain rfl : i = n := by omega
      rw [List.getElem?_append_right (by omega), h1, Nat.sub_self] at hy
      cases hy
      exact hx
/-- Changes that are read, by their letters. -/
theorem chs_of {B : Nat} {w : World} {a : Option Addr} {n c : Nat} {xs : List shChange.T} (h : Rd (· < B) w shChanges [.slice a n c] xs) (hn : n ≤ 1000000) : ∃ ys : List ChL, ChsAt (· < B) w a n c ys := by
  have hnc : n ≤ c := by
    obtain ⟨a', n', c', h0, _, _, _, h4, _⟩ := Rd.slice_part (e := shChange) h
    simp only [List.cons.injEq, Value.slice.injEq, and_true] at h0
    obtain ⟨rfl, rfl, rfl⟩ := h0
    exact h4
  obtain ⟨ys, h1, h2⟩ := list_of (P := fun i (x : ChL) => x.it.In (· < B) w ∧ ∃ b off, a = some ⟨b, off, none⟩ ∧ b < B ∧ b < w.heap.size ∧
    w.cell? ⟨b, off + i * 4, none⟩ = some (.bool x.gone) ∧ w.cell? ⟨b, off + i * 4 + 1, none⟩ = some (.int .u32 (x.it.id : Int)) ∧ w.cell? ⟨b, off + i * 4 + 2, none⟩ = some (.slice x.it.pv.1 x.it.pv.2.1 x.it.pv.2.2) ∧ w.cell? ⟨b, off + i * 4 + 3, none⟩ = some (.slice x.it.pt.1 x.it.pt.2.1 x.it.pt.2.2)) n (fun i hi => by
    obtain ⟨b, off, x, vs, ha, hok, hlt, hx, hl, hc, hr⟩ := Rd.elem (e := shChange) h i hi
    obtain ⟨g, y, c0, c1, c2, hxe, hcs, hy⟩ := rd_change hr
    subst hcs
    obtain ⟨id, vec, tags, a1, n1, k1, a2, n2, k2, _, hcs2, hid, r1, r2, _⟩ := rd_item hy
    simp only [List.cons.injEq, and_true] at hcs2
    obtain ⟨rfl, rfl, rfl⟩ := hcs2
    exact ⟨⟨g, ⟨id, (a1, n1, k1), (a2, n2, k2), vec, tags⟩⟩, ⟨by show id < 4294967296; omega, r1, r2⟩, b, off, ha, hok, hlt, hc 0 (by decide), hc 1 (by decide), hc 2 (by decide), hc 3 (by decide)⟩)
  exact ⟨ys, h1, hnc, hn, h2⟩
def shOp9 : Sh := st [.int .u8, shConf, shChanges, .int .u32, .int .i64]
def shOps9 : Sh := .slice shOp9 72
set_option maxRecDepth 100000 in
theorem fit_ops9 : (shOps9.fit Tryz.prog).1 22 = true := by kernel_rfl
set_option maxRecDepth 100000 in
theorem fit_changes9 : (shChanges.fit Tryz.prog).1 37 = true := by kernel_rfl
section
variable {H : Type} {enc : TypeId × Value → H} {W : World} {base : Nat} {ts : Array TypeId} {args : Array Value} {ds : List (DataW H)} {p : List MemPlace}
theorem Given.ops9 (g : Given enc Tryz.prog W base ts args ds p) (j : Nat) (ht : ts[j]? = some 22) : ∃ (a : Option Addr) (n c : Nat) (xs : List shOp9.T), args[j]? = some (.slice a n c) ∧ Rd (· < W.heap.size) W shOps9 [.slice a n c] xs := by
  obtain ⟨v, x, e1, hx⟩ := g.sh1 j ht shOps9 fit_ops9 (.inl ⟨_, Tryz.underlying22⟩)
  obtain ⟨a, n, c, hcs, _, _, h⟩ := Rd.slice_is (e := shOp9) hx
  simp only [List.cons.injEq, and_true] at hcs
  subst hcs
  exact ⟨a, n, c, x, e1, h.mono fun _ _ hk => hk⟩
theorem Given.changes9 (g : Given enc Tryz.prog W base ts args ds p) (j : Nat) (ht : ts[j]? = some 37) : ∃ (a : Option Addr) (n c : Nat) (xs : List shChange.T), args[j]? = some (.slice a n c) ∧ Rd (· < W.heap.size) W shChanges [.slice a n c] xs := by
  obtain ⟨v, x, e1, hx⟩ := g.sh1 j ht shChanges fit_changes9 (.inl ⟨_, Tryz.underlying37⟩)
  obtain ⟨a, n, c, hcs, _, _, h⟩ := Rd.slice_is (e := shChange) hx
  simp only [List.cons.injEq, and_true] at hcs
  subst hcs
  exact ⟨a, n, c, x, e1, h.mono fun _ _ hk => hk⟩
end
/-- An op's letters. -/
structure OpL where
  kind : Nat
  cf : ConfL
  ca : Option Addr
  cn : Nat
  cc : Nat
  id : Nat
  n : Int
def OpL.cells (o : OpL) : List Value := [.int .u8 (o.kind : Int), .string o.cf.name, .int .u8 (o.cf.dim : Int), .int .u8 (o.cf.metric : Int), .bool o.cf.graph, .int .u8 (o.cf.links : Int), .int .u16 (o.cf.width : Int), .slice o.ca o.cn o.cc, .int .u32 (o.id : Int), .int .i64 o.n]
theorem u16_of {ok : Nat → Prop} {w : World} {cs : List Value} {x : Int} (h : Rd ok w (.int .u16) cs x) : ∃ n : Nat, cs = [.int .u16 (n : Int)] ∧ n ≤ 65535 := by
  obtain ⟨h1, hw⟩ := Rd.int_part h
  simp [Lit.wf, IntKind.min, IntKind.max, IntKind.signed, IntKind.bits] at hw
  obtain ⟨n, rfl⟩ := Int.eq_ofNat_of_zero_le (a := x) (by omega)
  exact ⟨n, h1, by omega⟩
theorem u32_of9 {ok : Nat → Prop} {w : World} {cs : List Value} {x : Int} (h : Rd ok w (.int .u32) cs x) : ∃ n : Nat, cs = [.int .u32 (n : Int)] := by
  obtain ⟨h1, hw⟩ := Rd.int_part h
  simp [Lit.wf, IntKind.min, IntKind.max, IntKind.signed, IntKind.bits] at hw
  obtain ⟨n, rfl⟩ := Int.eq_ofNat_of_zero_le (a := x) (by omega)
  exact ⟨n, h1⟩
theorem u8_of9 {ok : Nat → Prop} {w : World} {cs : List Value} {x : Int} (h : Rd ok w (.int .u8) cs x) : ∃ n : Nat, cs = [.int .u8 (n : Int)] ∧ n ≤ 255 := by
  obtain ⟨h1, hw⟩ := Rd.int_part h
  simp [Lit.wf, IntKind.min, IntKind.max, IntKind.signed, IntKind.bits] at hw
  obtain ⟨n, rfl⟩ := Int.eq_ofNat_of_zero_le (a := x) (by omega)
  exact ⟨n, h1, by omega⟩
/-- What is read of an op in a list, in whatever world that keeps what lay below. -/
theorem rd_op9 {w : World} {a : Option Addr} {n c : Nat} {xs : List shOp9.T} (h : Rd (· < w.heap.size) w shOps9 [.slice a n c] xs) (i : Nat) (hi : i < n) :
    ∃ (b off : Nat) (o : OpL) (ys : List shChange.T), a = some ⟨b, off, none⟩ ∧ b < w.heap.size ∧ o.kind ≤ 255 ∧ o.cf.Wf ∧ (Lit.int .i64 o.n).wf = true ∧ o.cn ≤ 140737488351232 ∧ Hid (∀ wr, Below w.heap.size w wr → b < wr.heap.size ∧ Rd (· < w.heap.size) wr shChanges [.slice o.ca o.cn o.cc] ys ∧ ∀ j v, o.cells[j]? = some v → wr.cell? ⟨b, off + i * 10 + j, none⟩ = some v) := by
  obtain ⟨b, off, x, vs, ha, hok, hlt, hx, hl, hc, hr⟩ := Rd.elem (e := shOp9) h i hi
  obtain ⟨k, ⟨nm, d, mt, gr, l, wd, u1⟩, chs, id, n9, u2⟩ := x
  obtain ⟨c1, c2, rfl, h1, h2⟩ := Rd.pair_is hr
  obtain ⟨c3, c4, rfl, h3, h4⟩ := Rd.pair_is h2
  obtain ⟨c5, c6, rfl, h5, h6⟩ := Rd.pair_is h4
  obtain ⟨c7, c8, rfl, h7, h8⟩ := Rd.pair_is h6
  obtain ⟨c9, c10, rfl, h9, h10⟩ := Rd.pair_is h8
  obtain rfl := Rd.unit_is h10
  obtain ⟨kk, rfl, hk⟩ := u8_of9 (x := k) h1
  obtain ⟨d1, d2, rfl, g1, g2⟩ := Rd.pair_is h3
  obtain ⟨d3, d4, rfl, g3, g4⟩ := Rd.pair_is g2
  obtain ⟨d5, d6, rfl, g5, g6⟩ := Rd.pair_is g4
  obtain ⟨d7, d8, rfl, g7, g8⟩ := Rd.pair_is g6
  obtain ⟨d9, d10, rfl, g9, g10⟩ := Rd.pair_is g8
  obtain ⟨d11, d12, rfl, g11, g12⟩ := Rd.pair_is g10
  obtain rfl := Rd.unit_is g12
  obtain ⟨rfl, hsz⟩ := Rd.str_part (x := nm) g1
  obtain ⟨dd, rfl, hd⟩ := u8_of9 (x := d) g3
  obtain ⟨mm, rfl, hm⟩ := u8_of9 (x := mt) g5
  obtain rfl := Rd.bool_is g7
  obtain ⟨ll, rfl, hll⟩ := u8_of9 (x := l) g9
  obtain ⟨ww, rfl, hww⟩ := u16_of (x := wd) g11
  obtain ⟨ca, cn, cc, rfl, _, _, r5⟩ := Rd.slice_is (e := shChange) h5
  obtain ⟨iid, rfl⟩ := u32_of9 (x := id) h7
  obtain ⟨rfl, hw9⟩ := Rd.int_part (x := n9) h9
  have hcn : cn ≤ 140737488351232 := by
    obtain ⟨a', n', c', h0, _, _, h3', _⟩ := Rd.slice_part (e := shChange) r5
    simp only [List.cons.injEq, Value.slice.injEq, and_true] at h0
    obtain ⟨rfl, rfl, rfl⟩ := h0
    exact h3'
  refine ⟨b, off, ⟨kk, ⟨nm, dd, mm, gr, ll, ww⟩, ca, cn, cc, iid, n9⟩, chs, ha, hlt, hk, ⟨hsz, hd, hm, hll, hww⟩, hw9, hcn, fun wr hw => ⟨Nat.lt_of_lt_of_le hlt hw.size, r5.under hw, fun j v hj => ?_⟩⟩
  have hj10 : j < 10 := (List.getElem?_eq_some_iff.1 hj).1
  exact (hw.cell (p := ⟨b, _, none⟩) hlt).trans ((hc j hj10).trans hj)
set_option maxRecDepth 100000 in
set_option maxHeartbeats 3200000 in
theorem great9 {ok : Nat → Prop} (o : OpL) (ys : List shChange.T) (w : World) (hsz : o.cf.name.size ≤ 140737488351232) (h : Rd ok w shChanges [.slice o.ca o.cn o.cc] ys) :
    Calls Tryz.prog 12 #[.agg o.cells.toArray] w fun e w' => ∃ g : Bool, e = .returned (.bool g) ∧ Below w.heap.size w w' ∧ (g = false → o.cn ≤ 300) := by
  obtain ⟨k, ⟨nm, d, mt, gr, l, wd⟩, a, n, c, id, nn⟩ := o
  have hsz : nm.size ≤ 140737488351232 := hsz
  have h : Rd ok w shChanges [.slice a n c] ys := h
  show Calls _ _ #[.agg #[.int .u8 (k : Int), .string nm, .int .u8 (d : Int), .int .u8 (mt : Int), .bool gr, .int .u8 (l : Int), .int .u16 (wd : Int), .slice a n c, .int .u32 (id : Int), .int .i64 nn]] w fun e w' => ∃ g : Bool, e = .returned (.bool g) ∧ Below w.heap.size w w' ∧ (g = false → n ≤ 300)
  obtain ⟨w1, hw1⟩ : ∃ w1, w.alloc (.cells #[.int .u8 (k : Int), .string nm, .int .u8 (d : Int), .int .u8 (mt : Int), .bool gr, .int .u8 (l : Int), .int .u16 (wd : Int), .slice a n c, .int .u32 (id : Int), .int .i64 nn] 40) = w1 := ⟨_, rfl⟩
  have hb1 : Below w.heap.size w w1 := by rw [← hw1]; exact (Below.refl _ _).alloc (Nat.le_refl _) _
  have X1 : Blk w1 w.heap.size 40 [.int .u8 (k : Int), .string nm, .int .u8 (d : Int), .int .u8 (mt : Int), .bool gr, .int .u8 (l : Int), .int .u16 (wd : Int), .slice a n c, .int .u32 (id : Int), .int .i64 nn] := by rw [← hw1]; exact Blk.new _ _ _
  have c7 : w1.cell? ⟨w.heap.size, 7, none⟩ = some (.slice a n c) := X1.cell 7
  have c1 : w1.cell? ⟨w.heap.size, 1, none⟩ = some (.string nm) := X1.cell 1
  have GC := Lib.hid (greatChanges a n c ys w1 (h.stay (ok' := ok) hb1.size (fun k hk hkk => hb1.block k hkk) (fun _ h _ => h)))
  have hn : n ≤ 140737488351232 := by
    obtain ⟨a', n', c', h0, _, _, h3', _⟩ := Rd.slice_part (e := shChange) h
    simp only [List.cons.injEq, Value.slice.injEq, and_true] at h0
    obtain ⟨rfl, rfl, rfl⟩ := h0
    exact h3'
  have B1 := Lib.hid hb1
  obtain ⟨sz, hs⟩ : ∃ sz, nm.size = sz := ⟨_, rfl⟩
  have hs1 : IntKind.i64.wrap (sz : Int) = (sz : Int) := by rw [IntKind.wrap_i64]; omega
  clear hb1 X1 h
  by_cases h1 : 300 < n
  · have d1 : decide ((n : Int) > 300) = true := decide_eq_true (by omega)
    have d1' : decide ((300 : Int) < (n : Int)) = true := decide_eq_true (by omega)
    go_enter Tryz.func12, Tryz.ntmps12
    go_wp2
    go_ret
    exact .inr ⟨rfl, B1.out⟩
  · have d1 : decide ((n : Int) > 300) = false := decide_eq_false (by omega)
    have d1' : decide ((300 : Int) < (n : Int)) = false := decide_eq_false (by omega)
    have hn3 : n ≤ 300 := by omega
    go_enter Tryz.func12, Tryz.ntmps12
    go_wp2_with (fail)
    refine GC.out.mono ?_
    rintro e w2 ⟨⟨g, rfl⟩, hw2⟩
    subst hw2
    cases g
    · by_cases h2 : 1000 < sz
      · have d2 : decide ((sz : Int) > 1000) = true := decide_eq_true (by omega)
        have d2' : decide ((1000 : Int) < (sz : Int)) = true := decide_eq_true (by omega)
        go_wp2
        go_ret
        exact ⟨true, rfl, B1.out, fun _ => hn3⟩
      · have d2 : decide ((sz : Int) > 1000) = false := decide_eq_false (by omega)
        have d2' : decide ((1000 : Int) < (sz : Int)) = false := decide_eq_false (by omega)
        go_wp2
        go_ret
        exact ⟨false, rfl, B1.out, fun _ => hn3⟩
    · go_wp2
      go_ret
      exact ⟨true, rfl, B1.out, fun _ => hn3⟩
end Go.Proofs.YtdmnflncgmnghaaGreat
