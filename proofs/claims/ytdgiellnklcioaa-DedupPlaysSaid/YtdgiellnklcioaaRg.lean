/-
  A region that draws its order, of which all operations but the last two at most only make new memory: whatever order comes up, each leaves its fact of its own slot. No program stands here.
-/
import Derived.Test.YtdgiellnklcioaaRi
import Derived.Test.YtdgiellnklcioaaSq
import Derived.Laws.AppendOwnNone
import Derived.Maps.AppendAt
namespace Go.Proofs.Ytdgiellnklcioaa
open Go.RowKit Go.ChangeShapes Go.WideShapes Go.ChangeAt

/-- Does operation o wait for operation d? -/
def waits (o : Oper) (d : Nat) : Bool := o.after.any fun e => Region.binds .any e && Nat.beq e.on d
/-- Each operation ahead of M is waited for by a later one, up to M. -/
def leadsB (ops : Array Oper) (M : Nat) : Bool := (List.range M).all fun i => (List.range (M + 1)).any fun j => Nat.blt i j && match ops[j]? with
  | some o => waits o i
  | none => false
theorem leads_of {ops : Array Oper} {M : Nat} (h : leadsB ops M = true) (i : Nat) (hi : i < M) : ∃ j o, i < j ∧ j ≤ M ∧ ops[j]? = some o ∧ waits o i = true := by
  have h1 := List.all_eq_true.1 h i (by simpa using hi)
  obtain ⟨j, hj, h2⟩ := List.any_eq_true.1 h1
  rw [Bool.and_eq_true] at h2
  cases ho : ops[j]? with
  | none => rw [ho] at h2; exact absurd h2.2 (by simp)
  | some o =>
    rw [ho] at h2
    have : j < M + 1 := by simpa using hj
    exact ⟨j, o, by simpa [Nat.blt_eq] using h2.1, by omega, ho, h2.2⟩

/-- What has come up. -/
def Lof (l : Array Bool) : Nat → Bool := fun k => l.getD k false
def updN (L : Nat → Bool) (i : Nat) : Nat → Bool := fun k => if i = k then true else L k
/-- The state of such a region. -/
structure GI (ops : Array Oper) (T0 : Array Value) (ds : Nat → Nat) (w0 : World) (facts : (Nat → Bool) → Nat → Value → World → Prop) (M : Nat) (l : Array Bool) (a : Act) (w : World) : Prop where
  lsz : l.size = ops.size
  tsz : a.tmps.size = T0.size
  dfs : a.defers = []
  far : ∀ k, (∀ i, i < ops.size → l.getD i false = true → ds i ≠ k) → a.tmps[k]? = T0[k]?
  below : Below w0.heap.size w0 w
  fact : ∀ i, i < M → l.getD i false = true → facts (Lof l) i (a.tmps.getD (ds i) undef) w
  closed : ∀ i o, ops[i]? = some o → l.getD i false = true → ∀ d, waits o d = true → l.getD d false = true
section
variable {ops : Array Oper} {T0 : Array Value} {ds : Nat → Nat} {w0 : World} {facts : (Nat → Bool) → Nat → Value → World → Prop} {M : Nat} {l : Array Bool} {a : Act} {w : World}
theorem waits_listed {o : Oper} {l : Array Bool} (hd : ∀ e ∈ o.after, Region.binds .any e = true → l.getD e.on false = true) (d : Nat) (h : waits o d = true) : l.getD d false = true := by
  obtain ⟨e, he, hb⟩ := Array.any_eq_true'.1 h
  rw [Bool.and_eq_true] at hb
  rw [← Nat.eq_of_beq_eq_true hb.2]
  exact hd e he hb.1
/-- If M's own ones have come up, all ahead of it have. -/
theorem GI.all (h : GI ops T0 ds w0 facts M l a w) {N : Nat} (hl : leadsB ops N = true) {o : Oper} (ho : ops[N]? = some o) (hd : ∀ d, waits o d = true → l.getD d false = true) : ∀ i, i < N → l.getD i false = true := by
  have key : ∀ k i, N - i = k → i < N → l.getD i false = true := by
    intro k
    induction k using Nat.strongRecOn with
    | ind k ih =>
      intro i hk hi
      obtain ⟨j, oj, hij, hjN, hoj, hw⟩ := leads_of hl i hi
      rcases Nat.lt_or_eq_of_le hjN with hlt | rfl
      · exact h.closed j oj hoj (ih (N - j) (by omega) j rfl hlt) i hw
      · rw [ho] at hoj
        obtain rfl := Option.some.inj hoj
        exact hd i hw
  exact fun i hi => key _ i rfl hi
theorem GI.ev (h : GI ops T0 ds w0 facts M l a w) (k : Nat) (v : Value) (hT : T0[k]? = some v) (hk : ∀ i, i < ops.size → l.getD i false = true → ds i ≠ k) : a.eval (.tmp k) = v := by
  show a.tmps.getD k undef = v
  rw [Array.getD_eq_getD_getElem?, h.far k hk, hT]
  rfl
theorem GI.slot (h : GI ops T0 ds w0 facts M l a w) (i : Nat) (hi : i < M) (hl : l.getD i false = true) : facts (Lof l) i (a.eval (.tmp (ds i))) w := h.fact i hi hl
theorem getD_set {l : Array Bool} {i k : Nat} (hi : i < l.size) : (l.setIfInBounds i true).getD k false = (if i = k then true else l.getD k false) := by
  rw [Array.getD_eq_getD_getElem?, Array.getD_eq_getD_getElem?, Array.getElem?_setIfInBounds]
  by_cases h : i = k
  · subst h
    simp [hi]
  · simp [h]
theorem Lof_set {l : Array Bool} {i : Nat} (hi : i < l.size) : Lof (l.setIfInBounds i true) = updN (Lof l) i := funext fun _ => getD_set hi
theorem GI.next (h : GI ops T0 ds w0 facts M l a w) (hinj : ∀ i j, i < ops.size → j < ops.size → ds i = ds j → i = j) (hds : ∀ i, i < ops.size → ds i < T0.size)
    {i : Nat} {o : Oper} (ho : ops[i]? = some o) (hd : ∀ e ∈ o.after, Region.binds .any e = true → l.getD e.on false = true) {v : Value} {w' : World} (hf : i < M → facts (updN (Lof l) i) i v w') (hb : Below w0.heap.size w w') (hk : ∀ j u, Lof l j = true → facts (Lof l) j u w → facts (updN (Lof l) i) j u w') (hMs : M ≤ ops.size) :
    GI ops T0 ds w0 facts M (l.setIfInBounds i true) (a.put (some (ds i)) v) w' := by
  have hi : i < ops.size := (Array.getElem?_eq_some_iff.1 ho).1
  have hil : i < l.size := by rw [h.lsz]; exact hi
  refine ⟨by simp [h.lsz], by simp [Act.put, h.tsz], h.dfs, fun k hk => ?_, h.below.trans hb, fun j hj hlj => ?_, fun j oj hoj hlj d hw => ?_⟩
  · have h1 : ds i ≠ k := hk i hi (by rw [getD_set hil, if_pos rfl])
    rw [← h.far k fun j hj hlj => hk j hj (by rw [getD_set hil]; split <;> simp_all)]
    simp [Act.put, h1]
  · rw [Lof_set hil]
    rw [getD_set hil] at hlj
    have hjs : j < ops.size := Nat.lt_of_lt_of_le hj hMs
    by_cases hij : i = j
    · subst hij
      have hdi := hds i hi
      have e : (a.put (some (ds i)) v).tmps.getD (ds i) undef = v := by
        show (a.tmps.setIfInBounds (ds i) v).getD (ds i) undef = v
        rw [Array.getD_eq_getD_getElem?, Array.getElem?_setIfInBounds]
        simp [h.tsz, hdi]
      rw [e]
      exact hf hj
    · rw [if_neg hij] at hlj
      have hne : ds i ≠ ds j := fun e => hij (hinj i j hi hjs e)
      have e : (a.put (some (ds i)) v).tmps.getD (ds j) undef = a.tmps.getD (ds j) undef := by
        show (a.tmps.setIfInBounds (ds i) v).getD (ds j) undef = _
        rw [Array.getD_eq_getD_getElem?, Array.getD_eq_getD_getElem?, Array.getElem?_setIfInBounds]
        simp [hne]
      rw [e]
      exact hk j _ hlj (h.fact j hj hlj)
  · rw [getD_set hil] at hlj ⊢
    by_cases hid : i = d
    · rw [if_pos hid]
    · rw [if_neg hid]
      by_cases hij : i = j
      · subst hij
        rw [ho] at hoj
        obtain rfl := Option.some.inj hoj
        exact waits_listed hd d hw
      · rw [if_neg hij] at hlj
        exact h.closed j oj hoj hlj d hw
theorem GI.init (ops : Array Oper) (T0 : Array Value) (ds : Nat → Nat) (w0 : World) (facts : (Nat → Bool) → Nat → Value → World → Prop) (M : Nat) (w : World) (hb : Below w0.heap.size w0 w) : GI ops T0 ds w0 facts M (Array.replicate ops.size false) ⟨T0, []⟩ w := by
  have no : ∀ i, (Array.replicate ops.size false).getD i false = true → False := fun i h => by
    rw [Array.getD_eq_getD_getElem?, Array.getElem?_replicate] at h
    split at h <;> simp at h
  exact ⟨by simp, rfl, rfl, fun _ _ => rfl, hb, fun i _ h => (no i h).elim, fun i _ _ h => (no i h).elim⟩
end

theorem step_below {w0 w w' : World} {p : Prop} (hb : Below w0.heap.size w0 w) (h : Below w.heap.size w w' ∨ (Below w0.heap.size w w' ∧ p)) : Below w0.heap.size w w' := by
  rcases h with h | h
  · exact h.mono hb.size
  · exact h.1
theorem step_keeps {facts : (Nat → Bool) → Nat → Value → World → Prop} {L : Nat → Bool} {i : Nat} {w w' : World} {p : Prop} (hst : ∀ L i j v w w', facts L j v w → Below w.heap.size w w' → facts (updN L i) j v w')
    (h : Below w.heap.size w w' ∨ (p ∧ ∀ j u, L j = true → facts L j u w → facts (updN L i) j u w')) : ∀ j u, L j = true → facts L j u w → facts (updN L i) j u w' := by
  rcases h with h | h
  · exact fun j u _ hf => hst L i j u w w' hf h
  · exact h.2
/-- All operations only make new memory. -/
theorem wp_grow {P : Program} {rid : Nat} {ops : Array Oper} {Q : Exit → Act → World → Prop} {T0 : Array Value} (w0 : World) (ds : Nat → Nat) (facts : (Nat → Bool) → Nat → Value → World → Prop) (hmix : P.follows .mixedOrders = true) (hb : edgesB ops = true)
    (hst : ∀ L i j v w w', facts L j v w → Below w.heap.size w w' → facts (updN L i) j v w') (hinj : ∀ i j, i < ops.size → j < ops.size → ds i = ds j → i = j) (hds : ∀ i, i < ops.size → ds i < T0.size)
    (hstep : ∀ (l : Array Bool) (a : Act) (w : World) (i : Nat) (o : Oper), GI ops T0 ds w0 facts ops.size l a w → ops[i]? = some o → l.getD i false = false → (∀ d, waits o d = true → l.getD d false = true) →
      ∀ K : Act → World → Prop, (∀ v w', facts (updN (Lof l) i) i v w' → (Below w.heap.size w w' ∨ (Below w0.heap.size w w' ∧ ∀ j u, Lof l j = true → facts (Lof l) j u w → facts (updN (Lof l) i) j u w')) → K (a.put (some (ds i)) v) w') → if Region.wanted o (yielded ops a.tmps) = true then o.wp P a w K Q else K (a.put o.dst undef) w)
    (hQ : ∀ a w, (∀ k, (∀ i, i < ops.size → ds i ≠ k) → a.tmps[k]? = T0[k]?) → a.tmps.size = T0.size → a.defers = [] → Below w0.heap.size w0 w → (∀ i, i < ops.size → ∃ L, facts L i (a.tmps.getD (ds i) undef) w) → Q .normal a w) :
    (Code.region rid ops true).wp P Q ⟨T0, []⟩ w0 := by
  refine wp_region_any hmix ?_
  refine wpAny_inv (GI ops T0 ds w0 facts ops.size) (fun l a w h => h.lsz) (edges_of hb) ?_ ?_ ops.size _ _ _ (GI.init ops T0 ds w0 facts ops.size _ (Below.refl _ w0).drew) (by simp)
  · intro l a w i o hI ho hl hd K hK
    have hi : i < ops.size := (Array.getElem?_eq_some_iff.1 ho).1
    have hl' : l.getD i false = false := by
      have hs := hI.lsz
      rw [Array.getD_eq_getD_getElem?, Array.getElem?_eq_getElem (by omega)] at hl ⊢
      exact hl
    exact hstep l a w i o hI ho hl' (waits_listed hd) K fun v w' hf hbw => hK _ _ (hI.next hinj hds ho hd (fun _ => hf) (step_below hI.below hbw) (step_keeps hst hbw) (Nat.le_refl _))
  · intro l a w hI hall
    exact hQ a w (fun k hk => hI.far k fun i hi _ => hk i hi) hI.tsz hI.dfs hI.below fun i hi => ⟨_, hI.fact i hi (hall i hi)⟩

/-- All operations but the last two only make new memory; the last but one waits, at last, for all ahead of it, and may do anything; the last one waits for it. -/
theorem wp_grow2 {P : Program} {rid : Nat} {ops : Array Oper} {Q : Exit → Act → World → Prop} {T0 : Array Value} (w0 : World) (ds : Nat → Nat) (facts : (Nat → Bool) → Nat → Value → World → Prop) (R : Act → World → Prop) (M : Nat) (hmix : P.follows .mixedOrders = true) (hb : edgesB ops = true)
    (hsz : ops.size = M + 2) (hlead : leadsB ops M = true) (hlast : ∀ o, ops[M + 1]? = some o → waits o M = true)
    (hst : ∀ L i j v w w', facts L j v w → Below w.heap.size w w' → facts (updN L i) j v w') (hinj : ∀ i j, i < ops.size → j < ops.size → ds i = ds j → i = j) (hds : ∀ i, i < ops.size → ds i < T0.size)
    (hstep : ∀ (l : Array Bool) (a : Act) (w : World) (i : Nat) (o : Oper), GI ops T0 ds w0 facts M l a w → ops[i]? = some o → i < M → l.getD i false = false → l.getD M false = false → l.getD (M + 1) false = false → (∀ d, waits o d = true → l.getD d false = true) →
      ∀ K : Act → World → Prop, (∀ v w', facts (updN (Lof l) i) i v w' → (Below w.heap.size w w' ∨ (Below w0.heap.size w w' ∧ ∀ j u, Lof l j = true → facts (Lof l) j u w → facts (updN (Lof l) i) j u w')) → K (a.put (some (ds i)) v) w') → if Region.wanted o (yielded ops a.tmps) = true then o.wp P a w K Q else K (a.put o.dst undef) w)
    (hM : ∀ (a : Act) (w : World) (o : Oper), ops[M]? = some o → (∀ k, (∀ i, i < M → ds i ≠ k) → a.tmps[k]? = T0[k]?) → a.tmps.size = T0.size → a.defers = [] → Below w0.heap.size w0 w → (∃ L : Nat → Bool, L M = false ∧ L (M + 1) = false ∧ ∀ i, i < M → facts L i (a.tmps.getD (ds i) undef) w) →
      ∀ K : Act → World → Prop, (∀ a' w', R a' w' → K a' w') → if Region.wanted o (yielded ops a.tmps) = true then o.wp P a w K Q else K (a.put o.dst undef) w)
    (hN : ∀ (a : Act) (w : World) (o : Oper), ops[M + 1]? = some o → R a w → ∀ K : Act → World → Prop, (∀ a' w', Q .normal a' w' → K a' w') → if Region.wanted o (yielded ops a.tmps) = true then o.wp P a w K Q else K (a.put o.dst undef) w) :
    (Code.region rid ops true).wp P Q ⟨T0, []⟩ w0 := by
  refine wp_region_any hmix ?_
  refine wpAny_inv (fun l a w => l.size = ops.size ∧ ((l.getD M false = false ∧ l.getD (M + 1) false = false ∧ GI ops T0 ds w0 facts M l a w) ∨ (l.getD M false = true ∧ l.getD (M + 1) false = false ∧ (∀ i, i < M → l.getD i false = true) ∧ R a w) ∨ ((∀ i, i < M + 2 → l.getD i false = true) ∧ Q .normal a w))) (fun l a w h => h.1) (edges_of hb) ?_ ?_ ops.size _ _ _ ?_ (by simp)
  · rintro l a w i o ⟨hs, hI⟩ ho hl hd K hK
    have hi : i < ops.size := (Array.getElem?_eq_some_iff.1 ho).1
    have hl' : l.getD i false = false := by
      rw [Array.getD_eq_getD_getElem?, Array.getElem?_eq_getElem (by omega)] at hl ⊢
      exact hl
    have hil : i < l.size := by omega
    have hset : ∀ k, (l.setIfInBounds i true).getD k false = (if i = k then true else l.getD k false) := fun k => getD_set hil
    rcases hI with ⟨h1, h2, hG⟩ | ⟨h1, h2, h3, hR⟩ | ⟨h1, _⟩
    · rcases Nat.lt_trichotomy i M with hlt | heq | hgt
      · refine hstep l a w i o hG ho hlt hl' h1 h2 (waits_listed hd) K fun v w' hf hbw => hK _ _ ⟨by simp [hs], .inl ⟨?_, ?_, hG.next hinj hds ho hd (fun _ => hf) (step_below hG.below hbw) (step_keeps hst hbw) (by omega)⟩⟩
        · rw [hset, if_neg (by omega)]; exact h1
        · rw [hset, if_neg (by omega)]; exact h2
      · subst heq
        have hall := hG.all hlead ho (waits_listed hd)
        refine hM a w o ho (fun k hk => hG.far k fun j hj hlj => ?_) hG.tsz hG.dfs hG.below ⟨Lof l, h1, h2, fun j hj => hG.fact j hj (hall j hj)⟩ K fun a' w' hr => hK _ _ ⟨by simp [hs], .inr (.inl ⟨?_, ?_, fun j hj => ?_, hr⟩)⟩
        · rcases Nat.lt_trichotomy j i with h | h | h
          · exact hk j h
          · subst h
            rw [h1] at hlj
            cases hlj
          · have : j = i + 1 := by omega
            subst this
            rw [h2] at hlj
            cases hlj
        · rw [hset, if_pos rfl]
        · rw [hset, if_neg (by omega)]; exact h2
        · rw [hset]
          split
          · rfl
          · exact hall j hj
      · have : i = M + 1 := by omega
        subst this
        have := waits_listed hd M (hlast o ho)
        rw [h1] at this
        cases this
    · have : i = M + 1 := by
        rcases Nat.lt_trichotomy i M with h | h | h
        · rw [h3 i h] at hl'
          cases hl'
        · subst h
          rw [h1] at hl'
          cases hl'
        · omega
      subst this
      refine hN a w o ho hR K fun a' w' hq => hK _ _ ⟨by simp [hs], .inr (.inr ⟨fun k hk => ?_, hq⟩)⟩
      rw [hset]
      split
      · rfl
      · rcases Nat.lt_or_ge k M with h | h
        · exact h3 k h
        · have : k = M := by omega
          rw [this]
          exact h1
    · rw [h1 i (by omega)] at hl'
      cases hl'
  · rintro l a w ⟨hs, hI⟩ hall
    rcases hI with ⟨h1, _⟩ | ⟨_, h2, _⟩ | ⟨_, hq⟩
    · rw [hall M (by omega)] at h1
      cases h1
    · rw [hall (M + 1) (by omega)] at h2
      cases h2
    · exact hq
  · have no : ∀ i, (Array.replicate ops.size false).getD i false = false := fun i => by
      rw [Array.getD_eq_getD_getElem?, Array.getElem?_replicate]
      split <;> rfl
    exact ⟨by simp, .inl ⟨no _, no _, GI.init ops T0 ds w0 facts M _ (Below.refl _ w0).drew⟩⟩

/-! ### Operations, each by its run -/
theorem g_if {P : Program} {o : Oper} {a : Act} {K : Act → World → Prop} {Q : Exit → Act → World → Prop} {w : World} {y : Nat → Option Bool} {E : Prop} (hg : o.guard = none) (h : o.wp P a w K Q) : if Region.wanted o y = true then o.wp P a w K Q else E := by
  rw [if_pos (by simp [Region.wanted, hg])]
  exact h
section
variable {P : Program} {o : Oper} {a : Act} {K : Act → World → Prop} {Q : Exit → Act → World → Prop} {w w' : World} {t : TypeId} {x y : Operand} {u u2 v : Value}
theorem g_move (ho : o.op = .move x) (h : K (a.put o.dst (a.eval x)) w) : o.wp P a w K Q := by
  unfold Oper.wp execOp
  simp only [ho, Sem.run_pure]
  exact h
theorem g_assign (ho : o.op = .assign x) (h : K (a.put o.dst (a.eval x)) w) : o.wp P a w K Q := by
  unfold Oper.wp execOp
  simp only [ho, Sem.run_pure]
  exact h
theorem g_index (ho : o.op = .indexAddr t x y) (hx : a.eval x = u) (hy : a.eval y = u2) (hr : (Instr.indexAt t u u2).run P w = .ok v w) (h : K (a.put o.dst v) w) : o.wp P a w K Q := by
  unfold Oper.wp execOp
  simp only [ho, hx, hy, Sem.run_bind, Sem.run_pure, hr, Result.andThen_ok]
  exact h
theorem g_field {k : Nat} (ho : o.op = .fieldAddr t x k) (hx : a.eval x = u) (hr : (Instr.fieldAt t u k).run P w = .ok v w) (h : K (a.put o.dst v) w) : o.wp P a w K Q := by
  unfold Oper.wp execOp
  simp only [ho, hx, Sem.run_bind, Sem.run_pure, hr, Result.andThen_ok]
  exact h
theorem g_load (ho : o.op = .load t x) (hx : a.eval x = u) (hr : (Instr.loadAt t u).run P w = .ok v w) (h : K (a.put o.dst v) w) : o.wp P a w K Q := by
  unfold Oper.wp execOp
  simp only [ho, hx, Sem.run_bind, Sem.run_pure, hr, Result.andThen_ok]
  exact h
theorem g_bs0 (ho : o.op = .buildSlice t 0 #[]) (hr : (Instr.buildSlice t 0 #[]).run P w = .ok v w') (h : K (a.put o.dst v) w') : o.wp P a w K Q := by
  unfold Oper.wp execOp
  simp only [ho, List.map_toArray, List.map_nil, Sem.run_bind, Sem.run_pure, hr, Result.andThen_ok]
  exact h
theorem g_bs1 (ho : o.op = .buildSlice t 1 #[(0, x)]) (hx : a.eval x = u) (hr : (Instr.buildSlice t 1 #[(0, u)]).run P w = .ok v w') (h : K (a.put o.dst v) w') : o.wp P a w K Q := by
  unfold Oper.wp execOp
  simp only [ho, List.map_toArray, List.map_cons, List.map_nil, hx, Sem.run_bind, Sem.run_pure, hr, Result.andThen_ok]
  exact h
theorem g_build3 {x1 x2 x3 : Operand} {u1 u2 u3 : Value} (ho : o.op = .build t #[(0, x1), (1, x2), (2, x3)]) (h1 : a.eval x1 = u1) (h2 : a.eval x2 = u2) (h3 : a.eval x3 = u3) (hr : (Instr.build t #[(0, u1), (1, u2), (2, u3)]).run P w = .ok v w) (h : K (a.put o.dst v) w) : o.wp P a w K Q := by
  unfold Oper.wp execOp
  simp only [ho, List.map_toArray, List.map_cons, List.map_nil, h1, h2, h3, Sem.run_bind, Sem.run_pure, hr, Result.andThen_ok]
  exact h
theorem g_build0 (ho : o.op = .build t #[]) (hr : (Instr.build t #[]).run P w = .ok v w) (h : K (a.put o.dst v) w) : o.wp P a w K Q := by
  unfold Oper.wp execOp
  simp only [ho, List.map_toArray, List.map_nil, Sem.run_bind, Sem.run_pure, hr, Result.andThen_ok]
  exact h
/-- append of what reads as cs to an empty row of k cells an element. -/
theorem g_app0 (s z : Operand) (st e : TypeId) (ho : o.op = .call { callee := .builtin .append, args := #[s, z], argTypes := #[st, st] }) (hu : P.underlying st = some (.slice e)) (zv : Value) (k sz : Nat) (hi : (P.info? e).map (fun i => (i.zero, i.size, i.bytes)) = some (some zv, k, sz)) (hz : zv.cells.size = k) (hk : 0 < k)
    (B : Nat) (hs : a.eval s = v) (hown : w.ownsRow B e k v 0 []) (p : Option Addr) (n c : Nat) (cs : List Value) (hx : a.eval z = .slice p n c) (hl : cs.length = n * k) (hnil : p = none → n = 0 ∧ c = 0) (hc : n = 0 ∨ ∃ b off, p = some ⟨b, off, none⟩ ∧ ∀ i, i < n * k → w.cell? ⟨b, off + i, none⟩ = cs[i]?) (h1 : ∀ u ∈ cs, u.oneCell' = true) (hb : n * sz ≤ 140737488355328) (hm : n ≤ 140737488355328) (hbase : B ≤ w.heap.size)
    (hK : ∀ v' w', w'.ownsRow B e k v' n cs → w.grownBy w' v.ownBlock → K (a.put o.dst v') w') : o.wp P a w K Q := by
  obtain ⟨i0, hi, hz0, hz1, hz2⟩ := info_parts hi
  cases p with
  | none =>
    obtain ⟨rfl, rfl⟩ := hnil rfl
    obtain rfl : cs = [] := List.eq_nil_of_length_eq_zero (by rw [hl]; simp)
    have hrun := run_append_owned_none (P := P) (w := w) B st o.type e i0 k hu hi v 0 _ hown
    unfold Oper.wp execOp
    simp only [ho, resolve, invoke, builtin, Sem.run_bind, Sem.run_pure, Result.andThen_ok, List.map_toArray, List.map_cons, List.map_nil, hs, hx, hrun]
    exact hK v w hown (World.grownBy.refl _ _)
  | some ad =>
    have hnews : ∀ j u, cs[j]? = some u → w.cell? (ad.add j) = some u := by
      intro j u hj
      have hjl := (List.getElem?_eq_some_iff.1 hj).1
      rcases hc with h0 | ⟨b, off, e, hc⟩
      · subst h0
        rw [hl] at hjl
        omega
      · obtain rfl := Option.some.inj e
        rw [add_plain, hc j (by omega), ← hj]
    obtain ⟨v', w', hr, h2, h3, _, _⟩ := run_append_own_at (P := P) w B st o.type e i0 zv k sz hu hi hz0 hz1 hz2 hz hk v 0 [] hown ad n c cs hl hnews h1 (by unfold maxLen; omega) (by rw [Nat.zero_add]; exact hb) hbase
    unfold Oper.wp execOp
    simp only [ho, resolve, invoke, builtin, Sem.run_bind, Sem.run_pure, Result.andThen_ok, List.map_toArray, List.map_cons, List.map_nil, hs, hx, hr]
    exact hK v' w' (by simpa using h2) h3
end
theorem rows_apart {lo lo' k k' n n' : Nat} {w : World} {t t' : TypeId} {u v : Value} {xs ys : List Value} (h : w.ownsRow lo t k u n xs) (h' : w.ownsRow lo' t' k' v n' ys) (ht : t ≠ t') : ∀ g, u.ownBlock = some g → v.ownBlock ≠ some g := by
  intro g hg hv
  rcases h.2 with ⟨rfl, _⟩ | ⟨a, cap, cur, rfl, _, hh, _⟩
  · cases hg
  rcases h'.2 with ⟨rfl, _⟩ | ⟨a', cap', cur', rfl, _, hh', _⟩
  · cases hv
  cases hg
  cases hv
  rw [hh] at hh'
  simp only [Option.some.injEq, Obj.cells.injEq] at hh'
  exact ht hh'.2.1
theorem row_not_blk {lo k n g : Nat} {w : World} {t t' : TypeId} {u : Value} {xs cs : List Value} (h : w.ownsRow lo t k u n xs) (h' : Blk w g t' cs) (ht : t ≠ t') : u.ownBlock ≠ some g := by
  intro hg
  rcases h.2 with ⟨rfl, _⟩ | ⟨a, cap, cur, rfl, _, hh, _⟩
  · cases hg
  cases hg
  unfold Blk at h'
  rw [hh] at h'
  simp only [Option.some.injEq, Obj.cells.injEq] at h'
  exact ht h'.2.1
theorem row_made {w : World} {lo : Nat} (t : TypeId) (k : Nat) (hlo : lo ≤ w.heap.size) : (w.alloc (.cells #[] t)).ownsRow lo t k (.slice (some ⟨w.heap.size, 0, none⟩) 0 0) 0 [] :=
  ⟨by simp, .inr ⟨w.heap.size, 0, #[], rfl, hlo, Blk.new w t #[], Nat.le_refl _, by decide, by simp, by simp⟩⟩
theorem row_form {w : World} {lo k n : Nat} {t : TypeId} {v : Value} {xs : List Value} (h : w.ownsRow lo t k v n xs) : ∃ a c, v = .slice a n c := by
  rcases h.2 with ⟨rfl, rfl⟩ | ⟨g, cap, cur, rfl, _⟩
  · exact ⟨none, 0, rfl⟩
  · exact ⟨_, cap, rfl⟩
theorem row_on {w w' : World} {lo k n : Nat} {t : TypeId} {v : Value} {xs : List Value} (h : w.ownsRow lo t k v n xs) (hb : Below w.heap.size w w') : w'.ownsRow lo t k v n xs := (Kept.of_below (F := []) hb (Nat.le_refl _)).own h (by simp)
/-- The slots that a region fills, one behind the other. -/
def filledR (T0 : Array Value) (ds : Nat → Nat) (E : Nat → Value) : Nat → Array Value
  | 0 => T0
  | n + 1 => (filledR T0 ds E n).setIfInBounds (ds n) (E n)
theorem filledR_eq {T0 : Array Value} {ds : Nat → Nat} {T : Array Value} (n : Nat) (hsz : T.size = T0.size) (hfar : ∀ k, (∀ i, i < n → ds i ≠ k) → T[k]? = T0[k]?) : T = filledR T0 ds (fun i => T.getD (ds i) undef) n := by
  have size : ∀ m (E : Nat → Value), (filledR T0 ds E m).size = T0.size := by
    intro m E
    induction m with
    | zero => rfl
    | succ m ih => rw [filledR, Array.size_setIfInBounds, ih]
  have key : ∀ m k, ((∃ i, i < m ∧ ds i = k) → (filledR T0 ds (fun i => T.getD (ds i) undef) m)[k]? = T[k]?) ∧ ((∀ i, i < m → ds i ≠ k) → (filledR T0 ds (fun i => T.getD (ds i) undef) m)[k]? = T0[k]?) := by
    intro m k
    induction m with
    | zero => exact ⟨fun ⟨i, h, _⟩ => by omega, fun _ => rfl⟩
    | succ m ih =>
      rw [filledR, Array.getElem?_setIfInBounds, size]
      by_cases hk : ds m = k
      · subst hk
        refine ⟨fun _ => ?_, fun h => absurd rfl (h m (Nat.lt_succ_self m))⟩
        rw [if_pos rfl]
        by_cases hlt : ds m < T0.size
        · rw [if_pos hlt, Array.getD_eq_getD_getElem?, Array.getElem?_eq_getElem (by omega)]
          rfl
        · rw [if_neg hlt, Array.getElem?_eq_none (by omega)]
      · rw [if_neg hk]
        refine ⟨fun ⟨i, hi, he⟩ => ih.1 ⟨i, ?_, he⟩, fun h => ih.2 fun i hi => h i (by omega)⟩
        rcases Nat.lt_succ_iff_lt_or_eq.1 hi with h | h
        · exact h
        · subst h
          exact absurd he hk
  apply Array.ext_getElem?
  intro k
  by_cases h : ∃ i, i < n ∧ ds i = k
  · exact ((key n k).1 h).symm
  · have h' : ∀ i, i < n → ds i ≠ k := fun i hi he => h ⟨i, hi, he⟩
    rw [(key n k).2 h', hfar k h']
end Go.Proofs.Ytdgiellnklcioaa
