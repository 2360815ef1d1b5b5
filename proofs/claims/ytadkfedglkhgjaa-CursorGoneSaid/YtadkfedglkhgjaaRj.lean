/-
  A region that draws its order, of which an operation may bear a note of a later one that doesn't bind it. No program stands here.
-/
import Derived.Test.YtadkfedglkhgjaaRg
namespace Go.Proofs.Ytadkfedglkhgjaa
open Go.RowKit Go.ChangeShapes Go.WideShapes Go.ChangeAt

section
variable {P : Program} {md : Region.Mode} {ops : Array Oper} {Q : Exit → Act → World → Prop}
theorem mem_readyB {listed : Array Bool} {i : Nat} {o : Oper} (ho : ops[i]? = some o) (h1 : listed.getD i true = false) (h2 : ∀ e ∈ o.after, Region.binds md e = true → listed.getD e.on false = true) : i ∈ Region.ready md ops listed := by
  unfold Region.ready
  rw [List.mem_filter]
  have hi : i < ops.size := (Array.getElem?_eq_some_iff.1 ho).1
  refine ⟨by simpa using hi, ?_⟩
  rw [ho, Option.map_some, Option.getD_some, h1, Bool.not_false, Bool.true_and, Array.all_eq_true']
  intro e he
  cases hb : Region.binds md e with
  | false => rfl
  | true => rw [h2 e he hb]; rfl
theorem ready_nilB {listed : Array Bool} (hsz : listed.size = ops.size) (hb : ∀ (i : Nat) (o : Oper), ops[i]? = some o → ∀ e ∈ o.after, Region.binds md e = true → e.on < i) (h : Region.ready md ops listed = []) : ∀ i, i < ops.size → listed.getD i false = true := by
  intro i
  induction i using Nat.strongRecOn with
  | ind i ih =>
    intro hi
    have hl : i < listed.size := by omega
    cases hv : listed[i] with
    | true => simp [Array.getD, hl, hv]
    | false =>
      have : i ∈ Region.ready md ops listed := mem_readyB (o := ops[i]) (by simp [hi]) (by simp [Array.getD, hl, hv]) fun e he hbe => by
        have hlt := hb i ops[i] (by simp [hi]) e he hbe
        exact ih e.on hlt (by omega)
      rw [h] at this
      cases this
theorem wpAny_invB (Inv : Array Bool → Act → World → Prop) (hsz : ∀ l a w, Inv l a w → l.size = ops.size) (hb : ∀ (i : Nat) (o : Oper), ops[i]? = some o → ∀ e ∈ o.after, Region.binds md e = true → e.on < i)
    (hstep : ∀ (l : Array Bool) (a : Act) (w : World) (i : Nat) (o : Oper), Inv l a w → ops[i]? = some o → l.getD i true = false → (∀ e ∈ o.after, Region.binds md e = true → l.getD e.on false = true) →
      ∀ K : Act → World → Prop, (∀ a' w', Inv (l.setIfInBounds i true) a' w' → K a' w') → if Region.wanted o (yielded ops a.tmps) = true then o.wp P a w K Q else K (a.put o.dst undef) w)
    (hdone : ∀ l a w, Inv l a w → (∀ i, i < ops.size → l.getD i false = true) → Q .normal a w) :
    ∀ fuel l a w, Inv l a w → l.toList.count false ≤ fuel → wpAny P md ops Q fuel l a w := by
  intro fuel
  induction fuel with
  | zero =>
    intro l a w h hc
    have hnil : Region.ready md ops l = [] := by
      rw [List.eq_nil_iff_forall_not_mem]
      intro i hi
      obtain ⟨o, ho, hl, _⟩ := ready_mem hi
      have hi' : i < ops.size := (Array.getElem?_eq_some_iff.1 ho).1
      have hs := hsz l a w h
      have : false ∈ l.toList := by
        rw [Array.mem_toList_iff]
        have : l[i]'(by omega) = false := by simpa [Array.getD, show i < l.size by omega] using hl
        rw [← this]
        exact Array.getElem_mem _
      have := List.count_pos_iff.2 this
      omega
    exact ⟨hnil, hdone l a w h (ready_nilB (hsz l a w h) hb hnil)⟩
  | succ fuel ih =>
    intro l a w h hc
    refine ⟨fun hnil => hdone l a w h (ready_nilB (hsz l a w h) hb hnil), fun i hi => ?_⟩
    obtain ⟨o, ho, hl, hd⟩ := ready_mem hi
    refine wpOp_step ho fun K hK => ?_
    refine hstep l a w i o h ho hl hd K fun a' w' h' => hK a' w' (ih _ _ _ h' ?_)
    have hi' : i < ops.size := (Array.getElem?_eq_some_iff.1 ho).1
    have hs := hsz l a w h
    have hil : i < l.toList.length := by simp; omega
    have hv : l.toList[i] = false := by simpa [Array.getD, show i < l.size by omega] using hl
    have hcs : (l.setIfInBounds i true).toList = l.toList.set i true := by simp
    have hpos : 0 < l.toList.count false := List.count_pos_iff.2 (by rw [← hv]; exact List.getElem_mem _)
    rw [hcs, List.count_set hil, hv, if_pos (by decide), if_neg (by decide)]
    omega
end
/-- Each operation waits for elder ones alone, as far as it is bound. -/
def edgesBB (ops : Array Oper) : Bool := (List.range ops.size).all fun i => match ops[i]? with
  | some o => o.after.all fun e => !Region.binds .any e || Nat.blt e.on i
  | none => true
theorem edgesBB_of {ops : Array Oper} (h : edgesBB ops = true) (i : Nat) (o : Oper) (ho : ops[i]? = some o) (e : Edge) (he : e ∈ o.after) (hb : Region.binds .any e = true) : e.on < i := by
  have hi : i < ops.size := (Array.getElem?_eq_some_iff.1 ho).1
  have := List.all_eq_true.1 h i (by simpa using hi)
  simp only [ho] at this
  rw [Array.all_eq_true'] at this
  have := this e he
  simpa [hb, Nat.blt_eq] using this
theorem wp_growB {P : Program} {rid : Nat} {ops : Array Oper} {Q : Exit → Act → World → Prop} {T0 : Array Value} (w0 : World) (ds : Nat → Nat) (facts : (Nat → Bool) → Nat → Value → World → Prop) (hmix : P.follows .mixedOrders = true) (hb : edgesBB ops = true)
    (hst : ∀ L i j v w w', facts L j v w → Below w.heap.size w w' → facts (updN L i) j v w') (hinj : ∀ i j, i < ops.size → j < ops.size → ds i = ds j → i = j) (hds : ∀ i, i < ops.size → ds i < T0.size)
    (hstep : ∀ (l : Array Bool) (a : Act) (w : World) (i : Nat) (o : Oper), GI ops T0 ds w0 facts ops.size l a w → ops[i]? = some o → l.getD i false = false → (∀ d, waits o d = true → l.getD d false = true) →
      ∀ K : Act → World → Prop, (∀ v w', facts (updN (Lof l) i) i v w' → (Below w.heap.size w w' ∨ (Below w0.heap.size w w' ∧ ∀ j u, Lof l j = true → facts (Lof l) j u w → facts (updN (Lof l) i) j u w')) → K (a.put (some (ds i)) v) w') → if Region.wanted o (yielded ops a.tmps) = true then o.wp P a w K Q else K (a.put o.dst undef) w)
    (hQ : ∀ a w, (∀ k, (∀ i, i < ops.size → ds i ≠ k) → a.tmps[k]? = T0[k]?) → a.tmps.size = T0.size → a.defers = [] → Below w0.heap.size w0 w → (∀ i, i < ops.size → ∃ L, facts L i (a.tmps.getD (ds i) undef) w) → Q .normal a w) :
    (Code.region rid ops true).wp P Q ⟨T0, []⟩ w0 := by
  refine wp_region_any hmix ?_
  refine wpAny_invB (GI ops T0 ds w0 facts ops.size) (fun l a w h => h.lsz) (fun i o ho e he hbe => edgesBB_of hb i o ho e he hbe) ?_ ?_ ops.size _ _ _ (GI.init ops T0 ds w0 facts ops.size _ (Below.refl _ w0).drew) (by simp)
  · intro l a w i o hI ho hl hd K hK
    have hi : i < ops.size := (Array.getElem?_eq_some_iff.1 ho).1
    have hl' : l.getD i false = false := by
      have hs := hI.lsz
      rw [Array.getD_eq_getD_getElem?, Array.getElem?_eq_getElem (by omega)] at hl ⊢
      exact hl
    exact hstep l a w i o hI ho hl' (waits_listed hd) K fun v w' hf hbw => hK _ _ (hI.next hinj hds ho hd (fun _ => hf) (step_below hI.below hbw) (step_keeps hst hbw) (Nat.le_refl _))
  · intro l a w hI hall
    exact hQ a w (fun k hk => hI.far k fun i hi _ => hk i hi) hI.tsz hI.dfs hI.below fun i hi => ⟨_, hI.fact i hi (hall i hi)⟩

end Go.Proofs.Ytadkfedglkhgjaa
