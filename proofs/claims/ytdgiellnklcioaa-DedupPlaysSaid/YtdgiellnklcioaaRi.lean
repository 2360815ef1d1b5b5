/-
  A region that draws its order, by an invariant: what holds of the operations that have come up, of the frame and of the world, kept by each operation that may come up next. No program stands here.
-/
import Derived.Test.YtdgiellnklcioaaBk
import Derived.RegionTactic
namespace Go.Proofs.Ytdgiellnklcioaa

section
variable {P : Program} {ops : Array Oper} {Q : Exit → Act → World → Prop} {md : Region.Mode}

theorem ready_mem {listed : Array Bool} {i : Nat} (h : i ∈ Region.ready md ops listed) :
    ∃ o, ops[i]? = some o ∧ listed.getD i true = false ∧ ∀ e ∈ o.after, Region.binds md e = true → listed.getD e.on false = true := by
  unfold Region.ready at h
  rw [List.mem_filter] at h
  obtain ⟨h1, h2⟩ := h
  rw [Bool.and_eq_true] at h2
  obtain ⟨h2, h3⟩ := h2
  have hi : i < ops.size := by simpa using h1
  refine ⟨ops[i], by simp [hi], by simpa using h2, fun e he hb => ?_⟩
  rw [Array.getElem?_eq_getElem hi, Option.map_some, Option.getD_some, Array.all_eq_true'] at h3
  have := h3 e he
  simpa [hb] using this

theorem mem_ready {listed : Array Bool} {i : Nat} {o : Oper} (ho : ops[i]? = some o) (h1 : listed.getD i true = false) (h2 : ∀ e ∈ o.after, listed.getD e.on false = true) : i ∈ Region.ready md ops listed := by
  unfold Region.ready
  rw [List.mem_filter]
  have hi : i < ops.size := (Array.getElem?_eq_some_iff.1 ho).1
  refine ⟨by simpa using hi, ?_⟩
  rw [ho, Option.map_some, Option.getD_some, h1, Bool.not_false, Bool.true_and, Array.all_eq_true']
  intro e he
  rw [h2 e he, Bool.or_true]

theorem ready_nil {listed : Array Bool} (hsz : listed.size = ops.size) (hb : ∀ (i : Nat) (o : Oper), ops[i]? = some o → ∀ e ∈ o.after, e.on < i) (h : Region.ready md ops listed = []) : ∀ i, i < ops.size → listed.getD i false = true := by
  intro i
  induction i using Nat.strongRecOn with
  | ind i ih =>
    intro hi
    have hl : i < listed.size := by omega
    cases hv : listed[i] with
    | true => simp [Array.getD, hl, hv]
    | false =>
      have : i ∈ Region.ready md ops listed := mem_ready (o := ops[i]) (by simp [hi]) (by simp [Array.getD, hl, hv]) fun e he => by
        have hlt := hb i ops[i] (by simp [hi]) e he
        exact ih e.on hlt (by omega)
      rw [h] at this
      cases this

theorem wpAny_inv (Inv : Array Bool → Act → World → Prop) (hsz : ∀ l a w, Inv l a w → l.size = ops.size) (hb : ∀ (i : Nat) (o : Oper), ops[i]? = some o → ∀ e ∈ o.after, e.on < i)
    (hstep : ∀ (l : Array Bool) (a : Act) (w : World) (i : Nat) (o : Oper), Inv l a w → ops[i]? = some o → l.getD i true = false → (∀ e ∈ o.after, Region.binds md e = true → l.getD e.on false = true) →
      ∀ K : Act → World → Prop, (∀ a' w', Inv (l.setIfInBounds i true) a' w' → K a' w') → if Region.wanted o (yielded ops a.tmps) = true then o.wp P a w K Q else K (a.put o.dst undef) w)
    (hdone : ∀ l a w, Inv l a w → (∀ i, i < ops.size → l.getD i false = true) → Q .normal a w) :
    ∀ fuel l a w, Inv l a w → l.toList.count false ≤ fuel → wpAny P md ops Q fuel l a w := by
  intro fuel
  induction fuel with
  | zero =>
    intro l a w h hc
    have hnil : Region.ready md ops l = [] := by
      rw [List.eq_nil_iff_forall_not_mem]
      intro i hi
      obtain ⟨o, ho, hl, _⟩ := ready_mem hi
      have hi' : i < ops.size := (Array.getElem?_eq_some_iff.1 ho).1
      have hs := hsz l a w h
      have : false ∈ l.toList := by
        rw [Array.mem_toList_iff]
        have : l[i]'(by omega) = false := by simpa [Array.getD, show i < l.size by omega] using hl
        rw [← this]
        exact Array.getElem_mem _
      have := List.count_pos_iff.2 this
      omega
    exact ⟨hnil, hdone l a w h (ready_nil (hsz l a w h) hb hnil)⟩
  | succ fuel ih =>
    intro l a w h hc
    refine ⟨fun hnil => hdone l a w h (ready_nil (hsz l a w h) hb hnil), fun i hi => ?_⟩
    obtain ⟨o, ho, hl, hd⟩ := ready_mem hi
    refine wpOp_step ho fun K hK => ?_
    refine hstep l a w i o h ho hl hd K fun a' w' h' => hK a' w' (ih _ _ _ h' ?_)
    have hi' : i < ops.size := (Array.getElem?_eq_some_iff.1 ho).1
    have hs := hsz l a w h
    have hil : i < l.toList.length := by simp; omega
    have hv : l.toList[i] = false := by simpa [Array.getD, show i < l.size by omega] using hl
    have hcs : (l.setIfInBounds i true).toList = l.toList.set i true := by simp
    have hpos : 0 < l.toList.count false := List.count_pos_iff.2 (by rw [← hv]; exact List.getElem_mem _)
    rw [hcs, List.count_set hil, hv, if_pos (by decide), if_neg (by decide)]
    omega
end

/-- What an operation of a region is. -/
def OpIs (ops : Array Oper) (i : Nat) (op : Op) (dst : Option Tmp) (deps : List Nat) : Prop :=
  ∃ o, ops[i]? = some o ∧ o.op = op ∧ o.dst = dst ∧ o.guard = none ∧ (deps.all fun d => o.after.any fun e => Region.binds .any e && Nat.beq e.on d) = true

/-- Each operation waits for elder ones alone. -/
def edgesB (ops : Array Oper) : Bool := (List.range ops.size).all fun i => match ops[i]? with
  | some o => o.after.all fun e => Nat.blt e.on i
  | none => true
theorem edges_of {ops : Array Oper} (h : edgesB ops = true) (i : Nat) (o : Oper) (ho : ops[i]? = some o) (e : Edge) (he : e ∈ o.after) : e.on < i := by
  have hi : i < ops.size := (Array.getElem?_eq_some_iff.1 ho).1
  have := List.all_eq_true.1 h i (by simpa using hi)
  simp only [ho] at this
  rw [Array.all_eq_true'] at this
  have := this e he
  simpa [Nat.blt_eq] using this
end Go.Proofs.Ytdgiellnklcioaa
