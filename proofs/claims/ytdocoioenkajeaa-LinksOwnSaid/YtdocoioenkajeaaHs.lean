/-
  Plain mathematics: lists of hits in order; what a selector keeps, as a list in order. No program stands here.
-/
import Derived.Test.YtdocoioenkajeaaHp
namespace Go.Proofs.Ytdocoioenkajeaa

/-- In order, the least first. -/
def InOrder (l : List Hit) : Prop := l.Pairwise (fun a b => ltH b a = false)

/-- x is put into a list that is in order. -/
def ins (x : Hit) : List Hit → List Hit
  | [] => [x]
  | y :: l => if ltH x y = true then x :: y :: l else y :: ins x l
theorem ins_len (x : Hit) (l : List Hit) : (ins x l).length = l.length + 1 := by
  induction l with
  | nil => rfl
  | cons y l ih => unfold ins; split <;> simp [ih]
theorem ins_perm (x : Hit) (l : List Hit) : (ins x l).Perm (x :: l) := by
  induction l with
  | nil => exact .refl _
  | cons y l ih =>
    unfold ins
    split
    · exact .refl _
    · exact (ih.cons y).trans (.swap x y l)
theorem ins_order (x : Hit) (l : List Hit) (h : InOrder l) : InOrder (ins x l) := by
  induction l with
  | nil => simp [ins, InOrder]
  | cons y l ih =>
    unfold InOrder at h ih ⊢
    rw [List.pairwise_cons] at h
    unfold ins
    split
    · next hlt =>
      rw [List.pairwise_cons, List.pairwise_cons]
      refine ⟨fun z hz => ?_, h⟩
      rcases List.mem_cons.1 hz with rfl | hz
      · exact ltH_asymm hlt
      · exact ge_trans (h.1 z hz) (ltH_asymm hlt)
    · next hge =>
      rw [List.pairwise_cons]
      refine ⟨fun z hz => ?_, ih h.2⟩
      rcases List.mem_cons.1 ((ins_perm x l).mem_iff.1 hz) with rfl | hz
      · simpa using hge
      · exact h.1 z hz
theorem order_eq {l m : List Hit} (hl : InOrder l) (hm : InOrder m) (hp : l.Perm m) : l = m := by
  induction l generalizing m with
  | nil => exact (List.Perm.nil_eq hp)
  | cons x l ih =>
    cases m with
    | nil => exact absurd hp.symm (by simp)
    | cons y m =>
      unfold InOrder at hl hm
      rw [List.pairwise_cons] at hl hm
      have hxy : x = y := by
        have h1 : x ∈ y :: m := hp.mem_iff.1 (by simp)
        have h2 : y ∈ x :: l := hp.mem_iff.2 (by simp)
        rcases List.mem_cons.1 h1 with h1 | h1
        · exact h1
        rcases List.mem_cons.1 h2 with h2 | h2
        · exact h2.symm
        exact ge_antisymm (hm.1 x h1) (hl.1 y h2)
      subst hxy
      rw [ih hl.2 hm.2 (List.Perm.cons_inv hp)]

/-- A list put in order. -/
def sortL (l : List Hit) : List Hit := l.foldl (fun s x => ins x s) []
theorem fold_order (l s : List Hit) (h : InOrder s) : InOrder (l.foldl (fun s x => ins x s) s) := by
  induction l generalizing s with
  | nil => exact h
  | cons x l ih => exact ih _ (ins_order x s h)
theorem fold_perm (l s : List Hit) : (l.foldl (fun s x => ins x s) s).Perm (l ++ s) := by
  induction l generalizing s with
  | nil => exact .refl _
  | cons x l ih =>
    refine (ih _).trans ?_
    exact ((ins_perm x s).append_left l).trans (by simp)
theorem sortL_order (l : List Hit) : InOrder (sortL l) := fold_order l [] (by simp [InOrder])
theorem sortL_perm (l : List Hit) : (sortL l).Perm l := by simpa [sortL] using fold_perm l []
theorem sortL_len (l : List Hit) : (sortL l).length = l.length := (sortL_perm l).length_eq
theorem sortL_eq {l m : List Hit} (h : l.Perm m) : sortL l = sortL m := order_eq (sortL_order l) (sortL_order m) ((sortL_perm l).trans (h.trans (sortL_perm m).symm))
theorem sortL_snoc (l : List Hit) (x : Hit) : sortL (l ++ [x]) = ins x (sortL l) := by simp [sortL]

theorem ins_last (x s : Hit) (l : List Hit) (h : InOrder (l ++ [s])) : ins x (l ++ [s]) = if ltH x s = true then ins x l ++ [s] else l ++ [s, x] := by
  induction l with
  | nil => simp only [List.nil_append, ins]; split <;> simp
  | cons y l ih =>
    have h' : InOrder (l ++ [s]) := by unfold InOrder at h ⊢; rw [List.cons_append, List.pairwise_cons] at h; exact h.2
    have hys : ltH s y = false := by unfold InOrder at h; rw [List.cons_append, List.pairwise_cons] at h; exact h.1 s (by simp)
    simp only [List.cons_append, ins]
    rw [ih h']
    by_cases h1 : ltH x y = true
    · have : ltH x s = true := ltH_trans h1 hys
      simp [h1, this]
    · by_cases h2 : ltH x s = true
      · simp [h1, h2]
      · simp [h1, h2]

theorem take_ins (x : Hit) (s : List Hit) (k : Nat) : (ins x (s.take k)).take k = (ins x s).take k := by
  induction s generalizing k with
  | nil => simp
  | cons y s ih =>
    cases k with
    | zero => simp
    | succ k =>
      simp only [List.take_succ_cons, ins]
      split
      · cases k with
        | zero => simp
        | succ k => simp [List.take_take]
      · simp [ih]
theorem fold_take (l s : List Hit) (k : Nat) : l.foldl (fun s x => (ins x s).take k) (s.take k) = (l.foldl (fun s x => ins x s) s).take k := by
  induction l generalizing s with
  | nil => rfl
  | cons x l ih =>
    simp only [List.foldl_cons]
    rw [take_ins, ih]

/-- What a selector of k keeps of what was put. -/
def keepL (k : Nat) (l : List Hit) : List Hit := (sortL l).take k
theorem keepL_snoc (k : Nat) (l : List Hit) (x : Hit) : keepL k (l ++ [x]) = (ins x (keepL k l)).take k := by
  rw [keepL, keepL, sortL_snoc, take_ins]
theorem keepL_order (k : Nat) (l : List Hit) : InOrder (keepL k l) := (sortL_order l).sublist (List.take_sublist _ _)

/-- A heap keeps the list s that is in order. -/
structure Rep (xs s : List Hit) : Prop where
  heap : HeapP xs
  perm : xs.Perm s
  order : InOrder s

theorem Rep.nil : Rep [] [] := ⟨fun i _ h => by simp at h, .refl _, by simp [InOrder]⟩
theorem Rep.len {xs s : List Hit} (h : Rep xs s) : xs.length = s.length := h.perm.length_eq
theorem Rep.top {x : Hit} {xs s : List Hit} (h : Rep (x :: xs) s) : ∃ s', s = s' ++ [x] := by
  have hne : s ≠ [] := by
    intro e
    have := h.len
    rw [e] at this
    simp at this
  obtain ⟨s', y, hs⟩ : ∃ s' y, s = s' ++ [y] := ⟨s.dropLast, s.getLast hne, (List.dropLast_concat_getLast hne).symm⟩
  have e : x = y := by
    have h1 : x ∈ s' ++ [y] := by rw [← hs]; exact h.perm.mem_iff.1 (by simp)
    have h2 : y ∈ x :: xs := h.perm.mem_iff.2 (by rw [hs]; simp)
    have h3 : ltH x y = false := by
      obtain ⟨i, hi, e⟩ := List.getElem_of_mem h2
      have := heap_root _ h.heap i hi
      unfold at0 at this
      rw [List.getD_eq_getElem?_getD, List.getD_eq_getElem?_getD, List.getElem?_eq_getElem hi, e] at this
      exact this
    have ho := h.order
    rw [hs] at ho
    unfold InOrder at ho
    rw [List.pairwise_append] at ho
    rcases List.mem_append.1 h1 with h1 | h1
    · exact ge_antisymm h3 (ho.2.2 x h1 y (by simp))
    · simpa using h1
  exact ⟨s', by rw [hs, e]⟩
theorem Rep.order_init {s : List Hit} {x : Hit} (h : InOrder (s ++ [x])) : InOrder s := by
  unfold InOrder at h ⊢
  rw [List.pairwise_append] at h
  exact h.1
theorem perm_init {x : Hit} {xs s : List Hit} (h : (x :: xs).Perm (s ++ [x])) : xs.Perm s := by
  have : (x :: xs).Perm (x :: s) := h.trans (List.perm_append_comm.trans (by simp))
  exact List.Perm.cons_inv this

theorem Rep.pop {x : Hit} {xs s : List Hit} (h : Rep (x :: xs) (s ++ [x])) : Rep (popL (x :: xs)) s := by
  have hlen : (((x :: xs).set 0 ((x :: xs).getD ((x :: xs).length - 1) (0, 0))).take ((x :: xs).length - 1)).length = xs.length := by simp
  have hor : 0 < (((x :: xs).set 0 ((x :: xs).getD ((x :: xs).length - 1) (0, 0))).take ((x :: xs).length - 1)).length ∨ ((x :: xs).set 0 ((x :: xs).getD ((x :: xs).length - 1) (0, 0))).take ((x :: xs).length - 1) = [] := by
    cases xs with
    | nil => right; simp
    | cons y ys => left; rw [hlen]; simp
  refine ⟨?_, ?_, Rep.order_init h.order⟩
  · unfold popL
    refine sinkL_heap _ 0 hor ?_ (fun h0 => absurd h0 (by omega))
    intro j hj hjl hne
    rw [hlen] at hjl
    have hh := h.heap j hj (by simp; omega)
    have e1 : ∀ k, 0 < k → k < xs.length → at0 (((x :: xs).set 0 ((x :: xs).getD ((x :: xs).length - 1) (0, 0))).take ((x :: xs).length - 1)) k = at0 (x :: xs) k := by
      intro k hk hkl
      unfold at0
      simp only [List.getD_eq_getElem?_getD]
      rw [List.getElem?_take_of_lt (by simp; omega), List.getElem?_set_ne (by omega)]
    rw [e1 j hj hjl, e1 ((j - 1) / 2) (by omega) (by omega)]
    exact hh
  · unfold popL
    refine (sinkL_perm _ 0 hor).trans (List.Perm.trans ?_ (perm_init h.perm))
    cases hx : xs with
    | nil => simp
    | cons y ys =>
      have hne : y :: ys ≠ [] := by simp
      have e : (x :: y :: ys).getD ((x :: y :: ys).length - 1) (0, 0) = (y :: ys).getLast hne := by
        rw [List.getD_eq_getElem?_getD, List.getLast_eq_getElem]
        simp
      rw [e]
      have e2 : ((x :: y :: ys).set 0 ((y :: ys).getLast hne)).take ((x :: y :: ys).length - 1) = (y :: ys).getLast hne :: (y :: ys).dropLast := by
        simp [List.dropLast_eq_take]
      rw [e2]
      have := List.dropLast_concat_getLast hne
      refine (List.perm_append_comm (l₁ := [(y :: ys).getLast hne]) (l₂ := (y :: ys).dropLast)).trans ?_
      rw [this]

theorem drain_rep (n : Nat) (xs s acc : List Hit) (h : Rep xs s) (hn : xs.length = n) : drainL n xs acc = s ++ acc := by
  induction n generalizing xs s acc with
  | zero =>
    have : s = [] := List.eq_nil_of_length_eq_zero (by rw [← h.len]; exact hn)
    subst this
    rfl
  | succ n ih =>
    cases xs with
    | nil => simp at hn
    | cons x xs =>
      obtain ⟨s', rfl⟩ := h.top
      rw [drainL, ih _ s' (x :: acc) h.pop (by rw [popL_len]; simpa using hn)]
      simp

theorem put_rep (room : Nat) (xs s : List Hit) (x : Hit) (h : Rep xs s) (hr : xs.length ≤ room) : Rep (putH room xs x) ((ins x s).take room) := by
  unfold putH
  by_cases h1 : xs.length < room
  · rw [if_pos h1, List.take_of_length_le (by rw [ins_len, ← h.len]; omega)]
    refine ⟨riseL_heap _ _ (by simp) ?_ ?_, (riseL_perm _ _ (by simp)).trans ?_, ins_order x s h.order⟩
    · intro j hj hjl hne
      have hjx : j < xs.length := by simp at hjl; omega
      have e : ∀ k, k < xs.length → at0 (xs ++ [x]) k = at0 xs k := fun k hk => by simp [at0, List.getD_eq_getElem?_getD, List.getElem?_append_left hk]
      rw [e j hjx, e _ (by omega)]
      exact h.heap j hj hjx
    · intro h0 j hj hjl hp
      simp at hjl
      omega
    · exact (List.perm_append_comm.trans (by simpa using h.perm.cons x)).trans (ins_perm x s).symm
  · rw [if_neg h1]
    cases xs with
    | nil =>
      have : room = 0 := by simp at h1; exact h1
      subst this
      rw [if_neg (by simp)]
      exact Rep.nil
    | cons y ys =>
      obtain ⟨s', rfl⟩ := h.top
      have hroom : room = s'.length + 1 := by have := h.len; simp at this hr h1; omega
      have e0 : (y :: ys).getD 0 (0, 0) = y := rfl
      rw [e0, ins_last x y s' h.order]
      by_cases h2 : ltH x y = true
      · rw [if_pos ⟨h2, by omega⟩, if_pos h2, List.take_append_of_le_length (by rw [ins_len]; omega), List.take_of_length_le (by rw [ins_len]; omega)]
        have e1 : (y :: ys).set 0 x = x :: ys := rfl
        rw [e1]
        refine ⟨sinkL_heap _ 0 (.inl (by simp)) ?_ (fun h0 => absurd h0 (by omega)), (sinkL_perm _ 0 (.inl (by simp))).trans (((perm_init h.perm).cons x).trans (ins_perm x s').symm), ins_order x s' (Rep.order_init h.order)⟩
        intro j hj hjl hne
        have e : ∀ k, 0 < k → at0 (x :: ys) k = at0 (y :: ys) k := fun k hk => by
          cases k with
          | zero => omega
          | succ k => rfl
        rw [e j hj, e _ (by omega)]
        exact h.heap j hj (by simpa using hjl)
      · rw [if_neg (fun hh => h2 hh.1), if_neg h2, show s' ++ [y, x] = (s' ++ [y]) ++ [x] by simp, List.take_append_of_le_length (by simp; omega), List.take_of_length_le (by simp; omega)]
        exact h
end Go.Proofs.Ytdocoioenkajeaa
