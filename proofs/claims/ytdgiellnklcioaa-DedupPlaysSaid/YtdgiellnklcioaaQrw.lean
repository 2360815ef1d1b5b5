/-
  A region that draws its order, of which all operations but the last one only make new memory. No program stands here.
-/
import Derived.Test.YtdgiellnklcioaaQrq
namespace Go.Proofs.Ytdgiellnklcioaa
open Go.RowKit Go.ChangeShapes Go.WideShapes Go.ChangeAt

/-- All operations but the last one only make new memory; the last one waits, at last, for all ahead of it, and may do anything. -/
theorem wp_grow1 {P : Program} {rid : Nat} {ops : Array Oper} {Q : Exit → Act → World → Prop} {T0 : Array Value} (w0 : World) (ds : Nat → Nat) (facts : (Nat → Bool) → Nat → Value → World → Prop) (M : Nat) (hmix : P.follows .mixedOrders = true) (hb : edgesB ops = true)
    (hsz : ops.size = M + 1) (hlead : leadsB ops M = true)
    (hst : ∀ L i j v w w', facts L j v w → Below w.heap.size w w' → facts (updN L i) j v w') (hinj : ∀ i j, i < ops.size → j < ops.size → ds i = ds j → i = j) (hds : ∀ i, i < ops.size → ds i < T0.size)
    (hstep : ∀ (l : Array Bool) (a : Act) (w : World) (i : Nat) (o : Oper), GI ops T0 ds w0 facts M l a w → ops[i]? = some o → i < M → l.getD i false = false → l.getD M false = false → (∀ d, waits o d = true → l.getD d false = true) →
      ∀ K : Act → World → Prop, (∀ v w', facts (updN (Lof l) i) i v w' → (Below w.heap.size w w' ∨ (Below w0.heap.size w w' ∧ ∀ j u, Lof l j = true → facts (Lof l) j u w → facts (updN (Lof l) i) j u w')) → K (a.put (some (ds i)) v) w') → if Region.wanted o (yielded ops a.tmps) = true then o.wp P a w K Q else K (a.put o.dst undef) w)
    (hM : ∀ (a : Act) (w : World) (o : Oper), ops[M]? = some o → (∀ k, (∀ i, i < M → ds i ≠ k) → a.tmps[k]? = T0[k]?) → a.tmps.size = T0.size → a.defers = [] → Below w0.heap.size w0 w → (∃ L : Nat → Bool, L M = false ∧ ∀ i, i < M → facts L i (a.tmps.getD (ds i) undef) w) →
      ∀ K : Act → World → Prop, (∀ a' w', Q .normal a' w' → K a' w') → if Region.wanted o (yielded ops a.tmps) = true then o.wp P a w K Q else K (a.put o.dst undef) w) :
    (Code.region rid ops true).wp P Q ⟨T0, []⟩ w0 := by
  refine wp_region_any hmix ?_
  refine wpAny_inv (fun l a w => l.size = ops.size ∧ ((l.getD M false = false ∧ GI ops T0 ds w0 facts M l a w) ∨ ((∀ i, i < M + 1 → l.getD i false = true) ∧ Q .normal a w))) (fun l a w h => h.1) (edges_of hb) ?_ ?_ ops.size _ _ _ ?_ (by simp)
  · rintro l a w i o ⟨hs, hI⟩ ho hl hd K hK
    have hi : i < ops.size := (Array.getElem?_eq_some_iff.1 ho).1
    have hl' : l.getD i false = false := by
      rw [Array.getD_eq_getD_getElem?, Array.getElem?_eq_getElem (by omega)] at hl ⊢
      exact hl
    have hil : i < l.size := by omega
    have hset : ∀ k, (l.setIfInBounds i true).getD k false = (if i = k then true else l.getD k false) := fun k => getD_set hil
    rcases hI with ⟨h1, hG⟩ | ⟨h1, _⟩
    · rcases Nat.lt_or_ge i M with hlt | hge
      · refine hstep l a w i o hG ho hlt hl' h1 (waits_listed hd) K fun v w' hf hbw => hK _ _ ⟨by simp [hs], .inl ⟨?_, hG.next hinj hds ho hd (fun _ => hf) (step_below hG.below hbw) (step_keeps hst hbw) (by omega)⟩⟩
        rw [hset, if_neg (by omega)]
        exact h1
      · have heq : i = M := by omega
        subst heq
        have hall := hG.all hlead ho (waits_listed hd)
        refine hM a w o ho (fun k hk => hG.far k fun j hj hlj => ?_) hG.tsz hG.dfs hG.below ⟨Lof l, h1, fun j hj => hG.fact j hj (hall j hj)⟩ K fun a' w' hr => hK _ _ ⟨by simp [hs], .inr ⟨fun j hj => ?_, hr⟩⟩
        · rcases Nat.lt_or_ge j i with h | h
          · exact hk j h
          · have : j = i := by omega
            subst this
            rw [h1] at hlj
            cases hlj
        · rw [hset]
          split
          · rfl
          · exact hall j (by omega)
    · rw [h1 i (by omega)] at hl'
      cases hl'
  · rintro l a w ⟨hs, hI⟩ hall
    rcases hI with ⟨h1, _⟩ | ⟨_, hq⟩
    · rw [hall M (by omega)] at h1
      cases h1
    · exact hq
  · have no : ∀ i, (Array.replicate ops.size false).getD i false = false := fun i => by
      rw [Array.getD_eq_getD_getElem?, Array.getElem?_replicate]
      split <;> rfl
    exact ⟨by simp, .inl ⟨no _, GI.init ops T0 ds w0 facts M _ (Below.refl _ w0).drew⟩⟩
end Go.Proofs.Ytdgiellnklcioaa
