/-
  Loops over iterators whose bodies never leave: what such an iterator gives, and the law of the loop; an iterator may itself go through such a loop. No program stands here.
-/
import Derived.Test.YtadkfedglkhgjaaGreatBk
import Derived.RangeFuncNested
import Derived.RangeFuncBound
import Derived.RangeFuncCalls
import Derived.RangeFuncLeaves
import Derived.Shelf.Abstract
namespace Go.Proofs.YtadkfedglkhgjaaGreat
open Go.RowKit Go.Shelf

/-- What the body of a loop owns abides what an iterator does from its call's first world on: new blocks, and its own new ones turned. -/
def Abide {α : Type} (B : Nat) (J : List Nat → List α → World → Prop) : Prop :=
  ∀ F pre W1 W2 G, J F pre W1 → Kept G W1 W2 → (∀ x ∈ G, x ∉ F ∧ B ≤ x) → J F pre W2
/-- The function g with its captured values lb gives xs, one by one, to any body that goes on each time and touches its own blocks F alone (none of which lay in w). -/
def GivesL {α : Type} (P : Program) (g : Nat) (lb : Array Value) (encs : α → Array Value) (xs : List α) (w : World) : Prop :=
  ∀ (l : Nat) (J : List Nat → List α → World → Prop) (W : World) (F : List Nat), Below w.heap.size w W → Abide W.heap.size J →
    (∀ F pre W, J F pre W → ∀ x ∈ F, w.heap.size ≤ x ∧ x < W.heap.size) →
    (∀ F pre x W1, J F pre W1 → pre ++ [x] <+: xs → YieldAt Fence.wide 9 P l (encs x) W1 fun e W' => e = .returned (.bool true) ∧ ∃ F', J F' (pre ++ [x]) W' ∧ Kept F W1 W' ∧ Grows W1 F F') →
    J F [] W → Calls P g (#[.func (.yield l) #[] #[]] ++ lb) W fun e W' => (∃ v, e = .returned v) ∧ ∃ F', J F' xs W'

theorem yield_any {m : Nat} (m' : Nat) {P : Program} {l : Nat} {args : Array Value} {W : World} {R : Ending → World → Prop} (h : YieldAt Fence.wide m P l args W R) : YieldAt Fence.wide m' P l args W R := by
  obtain ⟨fn, tmps, assign, body, hy, hf, hR⟩ := h
  exact ⟨fn, tmps, assign, body, hy, hf, fun c cs _ => hR c cs (room_wide _)⟩
theorem GivesL.on {α : Type} {P : Program} {g : Nat} {lb : Array Value} {encs : α → Array Value} {xs : List α} {w w' : World} (h : GivesL P g lb encs xs w) (hb : Below w.heap.size w w') : GivesL P g lb encs xs w' :=
  fun l J W F hB hJ hF hY h0 => h l J W F (hb.trans (hB.mono hb.size)) hJ (fun F pre W h x hx => ⟨Nat.le_trans hb.size (hF F pre W h x hx).1, (hF F pre W h x hx).2⟩) hY h0

/-- How a body that never leaves ends: it goes on. -/
def givesPost {α : Type} (I : List Nat → List α → World → Prop) (F : List Nat) (ys : List α) (W : World) : Exit → Act → World → Prop
  | .normal, _, W' => ∃ F', I F' ys W' ∧ Kept F W W' ∧ Grows W F F'
  | .ret, _, _ => False
  | .exit _, _, _ => False
  | .goto _, _, _ => False
  | .panic _, _, _ => False
  | .outgrown, _, _ => False

theorem put_kept (W : World) (l : Nat) (o : Obj) : Kept [l] W (W.putObj l o) := by
  have := grownBy_putObj' W l o
  exact (Kept.refl [l] W).grown this fun k e => by cases e; exact .inl (by simp)

theorem wpIn_gives {α : Type} {P : Program} {n : Nat} {g : Operand} {ps : Array Tmp} {assign body : Code} {Q : Exit → Act → World → Prop} {a : Act} {w : World}
    (h1 : 1 ≤ n) {gf : Nat} {lb : Array Value} (hg : a.eval g = .func (.func gf) #[] lb) (eg : ∀ args w, (callFunc gf args).run P w = .ok (.enter gf args) w)
    {encs : α → Array Value} {xs : List α} {w0 : World} (hseq : GivesL P gf lb encs xs w0) (hb0 : Below w0.heap.size w0 w) (hps : ∀ x, (encs x).size = ps.size)
    (I : List Nat → List α → World → Prop) (hI : Abide w.heap.size I) (hIF : ∀ F pre W, I F pre W → ∀ x ∈ F, w0.heap.size ≤ x ∧ x < W.heap.size) (F0 : List Nat) (hF0 : ∀ x ∈ F0, x < w.heap.size) (h0 : I F0 [] w)
    (Ax : α → Act → World → Prop) (hAx : ∀ x a' W1 W2, Ax x a' W1 → Kept [w.heap.size + 1] W1 W2 → Ax x a' W2)
    (hassign : ∀ (l : Nat) (x : α) (W : World) (K : Act → World → Prop), w.heap.size + 2 ≤ W.heap.size → (∀ a' W', Kept [] W W' → Ax x a' W' → K a' W') →
      assign.wpIn (Fence.wide.inRound l) (n - 1 - 1) P (Exit.then K (fun _ _ _ => False)) { tmps := (ps.zip (encs x)).foldl (fun t (p, v) => t.setIfInBounds p v) a.tmps, defers := [] } W)
    (hbody : ∀ (l : Nat) (F : List Nat) (pre : List α) (x : α) (a' : Act) (W : World), I F pre W → Ax x a' W → w.heap.size ≤ W.heap.size → pre ++ [x] <+: xs → body.wpIn (Fence.wide.inRound l) (n - 1 - 1) P (givesPost I F (pre ++ [x]) W) a' W)
    (hdone : ∀ (D : Nat) (F : List Nat) (W : World), w.heap.size ≤ D → (∀ x ∈ F, x ≠ D) → I F xs W → W.heap[D]? = some (.deferred (some [])) → Q .normal { a with defers := { target := .collected D, args := #[] } :: a.defers } W) :
    (Code.rangeFunc g ps assign body).wpIn Fence.wide n P Q a w := by
  refine wpIn_rangeFunc fun fn hfn => ?_
  obtain ⟨B, hB⟩ : ∃ B, w.heap.size = B := ⟨_, rfl⟩
  rw [hB] at hI hbody hdone hAx hassign hF0
  have hbs := hb0.size
  rw [hB] at hbs
  let rec' : LoopState → Loop := fun st => { state := st, pending := none, fn, tmps := a.tmps, params := ps, assign, body, defers := B }
  obtain ⟨V, hV⟩ : ∃ V, (w.alloc (.deferred (some []))).alloc (.loop (rec' .ready)) = V := ⟨_, rfl⟩
  have sV : V.heap.size = B + 2 := by rw [← hV]; simp [hB]
  have dV : V.heap[B]? = some (.deferred (some [])) := by
    rw [← hV, ← hB]
    exact (Below.heap_alloc _ _ _ (by simp)).trans (World.alloc_heap_new w _)
  have lV : V.heap[B + 1]? = some (.loop (rec' .ready)) := by
    have := World.alloc_heap_new (w.alloc (.deferred (some []))) (.loop (rec' .ready))
    rw [World.size_alloc, hB] at this
    rw [← hV]
    exact this
  have kV : Kept [] w V := by
    rw [← hV]
    exact ((Kept.refl [] w).alloc _).alloc _
  have iV : I F0 [] V := hI _ _ _ _ _ h0 kV (by simp)
  have bV : Below w0.heap.size w0 V := hb0.trans (kV.below (by simp) (by omega))
  refine ⟨B + 1, [{ target := .collected B, args := #[] }], V, { target := .fn (.func gf) lb, args := #[.func (.yield (B + 1)) #[] #[]] }, V, gf, #[.func (.yield (B + 1)) #[] #[]] ++ lb, V, ?_, ?_, fun _ _ => trivial, ?_, fun _ => h1, ?_⟩
  · rw [← hV]
    have := run_enterLoop_outer (P := P) (w := w) fn a.tmps ps assign body
    rw [hB] at this
    exact this
  · simp only [resolve, hg]
    simp [go_sem]
  · simp [invoke, go_sem, eg]
  refine (callsIn_wide.2 (hseq (B + 1) (fun F' pre W => ∃ F, F' = (B + 1) :: B :: F ∧ I F pre W ∧ W.heap[B + 1]? = some (.loop (rec' .ready)) ∧ W.heap[B]? = some (.deferred (some [])) ∧ ∀ x ∈ F, x < B ∨ B + 2 ≤ x) V ((B + 1) :: B :: F0) bV ?_ ?_ ?_ ⟨F0, rfl, iV, lV, dV, fun x hx => .inl (hF0 x hx)⟩)).mono ?_
  · rintro F' pre X Y G ⟨F, rfl, h1, h2, h3, h4⟩ hk hG
    have h2' := (Array.getElem?_eq_some_iff.1 h2).1
    have h3' := (Array.getElem?_eq_some_iff.1 h3).1
    refine ⟨F, rfl, hI _ _ _ _ _ h1 hk fun x hx => ⟨fun hh => (hG x hx).1 (by simp [hh]), by have := (hG x hx).2; omega⟩, (hk.block _ h2' fun hh => (hG _ hh).1 (by simp)).trans h2, (hk.block _ h3' fun hh => (hG _ hh).1 (by simp)).trans h3, h4⟩
  · rintro F' pre X ⟨F, rfl, h1, h2, h3, h4⟩ x hx
    have h2' := (Array.getElem?_eq_some_iff.1 h2).1
    have h3' := (Array.getElem?_eq_some_iff.1 h3).1
    rcases List.mem_cons.1 hx with rfl | hx
    · exact ⟨by omega, h2'⟩
    · rcases List.mem_cons.1 hx with rfl | hx
      · exact ⟨hbs, h3'⟩
      · exact hIF _ _ _ h1 x hx
  · rintro F' pre x W ⟨F, rfl, hi, hl, hd, hF⟩ hp
    have hlt := (Array.getElem?_eq_some_iff.1 hl).1
    have hnl : B + 1 ∉ F := fun hh => by have := hF _ hh; omega
    have hnd : B ∉ F := fun hh => by have := hF _ hh; omega
    have hy := run_yield (P := P) (args := encs x) hl (hps x)
    refine yield_any (m := n - 1 - 1) 9 ⟨fn, _, assign, body, hy, roundIn_of_wpIn hfn (hassign _ x W _ (by omega) fun a' Wa ka hax => ?_)⟩
    have hia := hI _ _ _ _ _ hi ka (by simp)
    replace hl := (ka.block _ hlt (by simp)).trans hl
    replace hd := (ka.block _ (by omega) (by simp)).trans hd
    have hlta := (Array.getElem?_eq_some_iff.1 hl).1
    obtain ⟨W2, hW2⟩ : ∃ W2, Wa.putObj (B + 1) (.loop (rec' .busy)) = W2 := ⟨_, rfl⟩
    have l2 : W2.heap[B + 1]? = some (.loop (rec' .busy)) := by rw [← hW2]; exact World.putObj_heap_same hlta
    have d2 : W2.heap[B]? = some (.deferred (some [])) := by rw [← hW2]; exact (World.putObj_heap_other (by omega)).trans hd
    have k2 : Kept [B + 1] Wa W2 := by rw [← hW2]; exact put_kept _ _ _
    have i2 : I F pre W2 := hI _ _ _ _ _ hia k2 fun x hx => by
      rw [List.mem_singleton.1 hx]
      exact ⟨hnl, by omega⟩
    have sz := k2.size
    refine ⟨W2, by rw [← hW2]; exact run_beginRound hl rfl, ?_⟩
    refine wpIn_mono (hbody _ F pre x a' _ i2 (hAx _ _ _ _ hax k2) (by omega) hp) ?_
    rintro e a3 W3 hq
    cases e with
    | normal =>
      obtain ⟨F3, hi3, hk3, hg3⟩ := hq
      have l3 := (hk3.block _ (Array.getElem?_eq_some_iff.1 l2).1 hnl).trans l2
      have d3 := (hk3.block _ (Array.getElem?_eq_some_iff.1 d2).1 hnd).trans d2
      have hlt3 := (Array.getElem?_eq_some_iff.1 l3).1
      have k4 := put_kept W3 (B + 1) (.loop (rec' .ready))
      have hF3 : ∀ x ∈ F3, x < B ∨ B + 2 ≤ x := fun x hx => by
        rcases hg3 x hx with h | h
        · exact hF x h
        · exact .inr (by omega)
      refine ⟨_, _, run_endRound none l3, rfl, (B + 1) :: B :: F3, ⟨F3, rfl, hI _ _ _ _ _ hi3 k4 fun x hx => ?_, World.putObj_heap_same hlt3, (World.putObj_heap_other (by omega)).trans d3, hF3⟩, ?_, ?_⟩
      · rw [List.mem_singleton.1 hx]
        exact ⟨fun hh => by have := hF3 _ hh; omega, by omega⟩
      · refine ((ka.mono (G := (B + 1) :: B :: F) (by simp)).trans ((k2.mono (G := (B + 1) :: B :: F) (by simp)).trans ((hk3.mono (G := (B + 1) :: B :: F) (fun x hx => by simp [hx])).trans (k4.mono (G := (B + 1) :: B :: F) (by simp)) (Grows.refl _ _)) (Grows.refl _ _)) (Grows.refl _ _))
      · intro x hx
        rcases List.mem_cons.1 hx with rfl | hx
        · exact .inl (by simp)
        · rcases List.mem_cons.1 hx with rfl | hx
          · exact .inl (by simp)
          · rcases hg3 x hx with h | h
            · exact .inl (by simp [h])
            · exact .inr (by have := ka.size; omega)
    | ret => exact hq.elim
    | exit id => exact hq.elim
    | goto t => exact hq.elim
    | panic ch => exact hq.elim
    | outgrown => exact hq.elim
  · rintro e W2 ⟨⟨v, rfl⟩, F', F, rfl, hi, hl, hd, hF⟩
    refine ⟨none, _, run_endLoop hl (by simp [rec']), hdone B F _ (Nat.le_refl _) (fun x hx => by have := hF x hx; omega) (hI _ _ _ _ _ hi (put_kept _ _ _) fun x hx => ?_) ((World.putObj_heap_other (by omega)).trans hd)⟩
    rw [List.mem_singleton.1 hx]
    exact ⟨fun hh => by have := hF _ hh; omega, by omega⟩
end Go.Proofs.YtadkfedglkhgjaaGreat
