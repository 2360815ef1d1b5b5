/-
  A region that draws its order, guards and all, whose operations only make memory of the region's own: whatever order comes up, each operation leaves its fact, of the slots that have come up. No program stands here.
-/
import Derived.Test.YteaomjabanhblaaRg
namespace Go.Proofs.Yteaomjabanhblaa
open Go.RowKit Go.ChangeShapes Go.WideShapes Go.ChangeAt

/-- The slots by their operations. -/
def Eof (ds : Nat → Nat) (a : Act) : Nat → Value := fun p => a.tmps.getD (ds p) undef
/-- The state of such a region: facts speak of the slots too. -/
structure GE (ops : Array Oper) (T0 : Array Value) (ds : Nat → Nat) (w0 : World) (facts : (Nat → Bool) → Nat → (Nat → Value) → World → Prop) (l : Array Bool) (a : Act) (w : World) : Prop where
  lsz : l.size = ops.size
  tsz : a.tmps.size = T0.size
  dfs : a.defers = []
  far : ∀ k, (∀ i, i < ops.size → l.getD i false = true → ds i ≠ k) → a.tmps[k]? = T0[k]?
  below : Below w0.heap.size w0 w
  fact : ∀ i, l.getD i false = true → facts (Lof l) i (Eof ds a) w
  closed : ∀ i o, ops[i]? = some o → l.getD i false = true → ∀ d, waits o d = true → l.getD d false = true
section
variable {ops : Array Oper} {T0 : Array Value} {ds : Nat → Nat} {w0 : World} {facts : (Nat → Bool) → Nat → (Nat → Value) → World → Prop} {l : Array Bool} {a : Act} {w : World}
theorem GE.ev (h : GE ops T0 ds w0 facts l a w) (k : Nat) (v : Value) (hT : T0[k]? = some v) (hk : ∀ i, i < ops.size → l.getD i false = true → ds i ≠ k) : a.eval (.tmp k) = v := by
  show a.tmps.getD k undef = v
  rw [Array.getD_eq_getD_getElem?, h.far k hk, hT]
  rfl
theorem GE.next (h : GE ops T0 ds w0 facts l a w) (hinj : ∀ i j, i < ops.size → j < ops.size → ds i = ds j → i = j) (hds : ∀ i, i < ops.size → ds i < T0.size)
    {i : Nat} {o : Oper} (ho : ops[i]? = some o) (hd : ∀ e ∈ o.after, Region.binds .any e = true → l.getD e.on false = true) (hl0 : l.getD i false = false) {v : Value} {w' : World} (hf : ∀ E', E' i = v → (∀ p, Lof l p = true → E' p = Eof ds a p) → facts (updN (Lof l) i) i E' w') (hb : Below w0.heap.size w w')
    (hk : ∀ j, Lof l j = true → facts (Lof l) j (Eof ds a) w → ∀ E', (∀ p, Lof l p = true → E' p = Eof ds a p) → facts (updN (Lof l) i) j E' w') :
    GE ops T0 ds w0 facts (l.setIfInBounds i true) (a.put (some (ds i)) v) w' := by
  have hi : i < ops.size := (Array.getElem?_eq_some_iff.1 ho).1
  have hil : i < l.size := by rw [h.lsz]; exact hi
  have hls : ∀ p, l.getD p false = true → p < ops.size := fun p hp => by
    rcases Nat.lt_or_ge p l.size with h1 | h1
    · rw [← h.lsz]; exact h1
    · rw [Array.getD_eq_getD_getElem?, Array.getElem?_eq_none h1] at hp
      cases hp
  have hE1 : Eof ds (a.put (some (ds i)) v) i = v := by
    have hdi := hds i hi
    show (a.tmps.setIfInBounds (ds i) v).getD (ds i) undef = v
    rw [Array.getD_eq_getD_getElem?, Array.getElem?_setIfInBounds]
    simp [h.tsz, hdi]
  have hE2 : ∀ p, Lof l p = true → Eof ds (a.put (some (ds i)) v) p = Eof ds a p := fun p hp => by
    have hip : i ≠ p := fun e => by
      subst e
      unfold Lof at hp
      rw [hl0] at hp
      cases hp
    have hne : ds i ≠ ds p := fun e => hip (hinj i p hi (hls p hp) e)
    show (a.tmps.setIfInBounds (ds i) v).getD (ds p) undef = a.tmps.getD (ds p) undef
    rw [Array.getD_eq_getD_getElem?, Array.getD_eq_getD_getElem?, Array.getElem?_setIfInBounds]
    simp [hne]
  refine ⟨by simp [h.lsz], by simp [Act.put, h.tsz], h.dfs, fun k hk => ?_, h.below.trans hb, fun j hlj => ?_, fun j oj hoj hlj d hw => ?_⟩
  · have h1 : ds i ≠ k := hk i hi (by rw [getD_set hil, if_pos rfl])
    rw [← h.far k fun j hj hlj => hk j hj (by rw [getD_set hil]; split <;> simp_all)]
    simp [Act.put, h1]
  · rw [Lof_set hil]
    rw [getD_set hil] at hlj
    by_cases hij : i = j
    · subst hij
      exact hf _ hE1 hE2
    · rw [if_neg hij] at hlj
      exact hk j hlj (h.fact j hlj) _ hE2
  · rw [getD_set hil] at hlj ⊢
    by_cases hid : i = d
    · rw [if_pos hid]
    · rw [if_neg hid]
      by_cases hij : i = j
      · subst hij
        rw [ho] at hoj
        obtain rfl := Option.some.inj hoj
        exact waits_listed hd d hw
      · rw [if_neg hij] at hlj
        exact h.closed j oj hoj hlj d hw
theorem GE.init (ops : Array Oper) (T0 : Array Value) (ds : Nat → Nat) (w0 : World) (facts : (Nat → Bool) → Nat → (Nat → Value) → World → Prop) (w : World) (hb : Below w0.heap.size w0 w) : GE ops T0 ds w0 facts (Array.replicate ops.size false) ⟨T0, []⟩ w := by
  have no : ∀ i, (Array.replicate ops.size false).getD i false = true → False := fun i h => by
    rw [Array.getD_eq_getD_getElem?, Array.getElem?_replicate] at h
    split at h <;> simp at h
  exact ⟨by simp, rfl, rfl, fun _ _ => rfl, hb, fun i h => (no i h).elim, fun i _ _ h => (no i h).elim⟩
end

/-- What an operation owes: its own fact; that the others' stay (for nothing, where only new memory is made). -/
def StepK (ds : Nat → Nat) (w0 : World) (facts : (Nat → Bool) → Nat → (Nat → Value) → World → Prop) (l : Array Bool) (a : Act) (w : World) (i : Nat) (v : Value) (w' : World) : Prop :=
  (∀ E', E' i = v → (∀ p, Lof l p = true → E' p = Eof ds a p) → facts (updN (Lof l) i) i E' w') ∧
  (Below w.heap.size w w' ∨ (Below w0.heap.size w w' ∧ ∀ j, Lof l j = true → facts (Lof l) j (Eof ds a) w → ∀ E', (∀ p, Lof l p = true → E' p = Eof ds a p) → facts (updN (Lof l) i) j E' w'))
theorem wp_growE {P : Program} {rid : Nat} {ops : Array Oper} {Q : Exit → Act → World → Prop} {T0 : Array Value} (w0 : World) (ds : Nat → Nat) (facts : (Nat → Bool) → Nat → (Nat → Value) → World → Prop) (hmix : P.follows .mixedOrders = true) (hb : edgesB ops = true)
    (hst : ∀ L i j E E' w w', facts L j E w → L j = true → (∀ p, L p = true → E' p = E p) → Below w.heap.size w w' → facts (updN L i) j E' w') (hinj : ∀ i j, i < ops.size → j < ops.size → ds i = ds j → i = j) (hds : ∀ i, i < ops.size → ds i < T0.size)
    (hstep : ∀ (l : Array Bool) (a : Act) (w : World) (i : Nat) (o : Oper), GE ops T0 ds w0 facts l a w → ops[i]? = some o → l.getD i false = false → (∀ d, waits o d = true → l.getD d false = true) →
      ∀ K : Act → World → Prop, (∀ v w', StepK ds w0 facts l a w i v w' → K (a.put (some (ds i)) v) w') → if Region.wanted o (yielded ops a.tmps) = true then o.wp P a w K Q else K (a.put o.dst undef) w)
    (hQ : ∀ a w, a = ⟨filledR T0 ds (Eof ds a) ops.size, []⟩ → Below w0.heap.size w0 w → (∃ L : Nat → Bool, (∀ i, i < ops.size → L i = true) ∧ ∀ i, i < ops.size → facts L i (Eof ds a) w) → Q .normal a w) :
    (Code.region rid ops true).wp P Q ⟨T0, []⟩ w0 := by
  refine wp_region_any hmix ?_
  refine wpAny_inv (GE ops T0 ds w0 facts) (fun l a w h => h.lsz) (edges_of hb) ?_ ?_ ops.size _ _ _ (GE.init ops T0 ds w0 facts _ (Below.refl _ w0).drew) (by simp)
  · intro l a w i o hI ho hl hd K hK
    have hi : i < ops.size := (Array.getElem?_eq_some_iff.1 ho).1
    have hl' : l.getD i false = false := by
      have hs := hI.lsz
      rw [Array.getD_eq_getD_getElem?, Array.getElem?_eq_getElem (by omega)] at hl ⊢
      exact hl
    refine hstep l a w i o hI ho hl' (waits_listed hd) K fun v w' ⟨hf, hbw⟩ => hK _ _ (hI.next hinj hds ho hd hl' hf (step_below hI.below hbw) ?_)
    rcases hbw with h | h
    · exact fun j hj hfj E' hE => hst _ i j _ _ w w' hfj hj hE h
    · exact h.2
  · intro l a w hI hall
    refine hQ a w ?_ hI.below ⟨Lof l, hall, fun i hi => hI.fact i (hall i hi)⟩
    have e := filledR_eq (T0 := T0) (ds := ds) ops.size hI.tsz (fun k hk => hI.far k fun i hi _ => hk i hi)
    have hd := hI.dfs
    cases a
    simp only at hd e ⊢
    subst hd
    exact congrArg (fun T => (⟨T, []⟩ : Act)) e
end Go.Proofs.Yteaomjabanhblaa
