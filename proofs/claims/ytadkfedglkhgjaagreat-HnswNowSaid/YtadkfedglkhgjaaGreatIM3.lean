/-
  Plain mathematics of graphs and of walks in them. (Im, Iw merged.) No program stands here.
-/
import Derived.Test.YtadkfedglkhgjaaGreatTr1
import Derived.Test.YtadkfedglkhgjaaGreatTw2
namespace Go.Proofs.YtadkfedglkhgjaaGreat


/-- A node, and a graph, as things of mathematics. -/
structure NodeV where
  id : Nat
  vec : List Int
  tags : List ByteArray
  frm : Nat
  til : Nat
  links : List (List Nat)
structure GraphV where
  m : Nat
  L : List NodeV

/-- How far two vectors are apart; 0, where that can't be told. -/
def farV (m : Nat) (xs ys : List Int) : Int := (distV m xs.length ys.length xs ys).getD 0
theorem farV_comm (m : Nat) (xs ys : List Int) : farV m xs ys = farV m ys xs := by
  unfold farV
  rw [distV_comm m _ _ _ _ (by omega)]

def GraphV.vec (g : GraphV) (i : Nat) : List Int := match g.L[i]? with
  | some x => x.vec
  | none => []
def GraphV.hit (g : GraphV) (q : List Int) (i : Nat) : Hit := (farV g.m q (g.vec i), (i : Int))
/-- How many levels a place is on. -/
def GraphV.lv (g : GraphV) (i : Nat) : Nat := match g.L[i]? with
  | some x => x.links.length
  | none => 0
def GraphV.onB (g : GraphV) (i level : Int) : Bool := decide (0 ≤ i ∧ i < (g.L.length : Int) ∧ 0 ≤ level ∧ level < (g.lv i.toNat : Int))
def GraphV.thereB (g : GraphV) (i : Int) : Bool := decide (0 ≤ i ∧ i < (g.L.length : Int))
/-- A place's links on a level. -/
def GraphV.links (g : GraphV) (i level : Nat) : List Nat := match g.L[i]? with
  | some x => x.links.getD level []
  | none => []
/-- What each graph keeps: a node has a level at least; links go to other nodes of their level, each once. -/
structure GraphV.Right (g : GraphV) : Prop where
  one : ∀ x ∈ g.L, 1 ≤ x.links.length
  most : ∀ x ∈ g.L, x.links.length ≤ 5
  dest : ∀ i level j, j ∈ g.links i level → level < g.lv j ∧ j ≠ i
  each : ∀ i level, (g.links i level).Nodup

theorem GraphV.lv_lt {g : GraphV} {i : Nat} (h : 0 < g.lv i) : i < g.L.length := by
  unfold GraphV.lv at h
  cases e : g.L[i]? with
  | none => rw [e] at h; simp at h
  | some x => exact (List.getElem?_eq_some_iff.1 e).1
theorem GraphV.lv_some {g : GraphV} {i : Nat} {x : NodeV} (h : g.L[i]? = some x) : g.lv i = x.links.length := by
  unfold GraphV.lv
  rw [h]
theorem GraphV.vec_some {g : GraphV} {i : Nat} {x : NodeV} (h : g.L[i]? = some x) : g.vec i = x.vec := by
  unfold GraphV.vec
  rw [h]
theorem GraphV.links_some {g : GraphV} {i : Nat} {x : NodeV} (h : g.L[i]? = some x) (level : Nat) : g.links i level = x.links.getD level [] := by
  unfold GraphV.links
  rw [h]
theorem GraphV.Right.there {g : GraphV} (h : g.Right) (i : Int) : g.thereB i = g.onB i 0 := by
  unfold GraphV.thereB GraphV.onB
  by_cases h0 : 0 ≤ i ∧ i < (g.L.length : Int)
  · have hl : i.toNat < g.L.length := by omega
    have h1 := h.one _ (List.getElem_mem hl)
    rw [GraphV.lv_some (List.getElem?_eq_getElem hl)]
    rw [decide_eq_true h0, decide_eq_true (by omega)]
  · rw [decide_eq_false h0, decide_eq_false (by omega)]
theorem GraphV.on_nat {g : GraphV} {i : Int} {level : Nat} (h : g.onB i level = true) : ∃ j : Nat, i = (j : Int) ∧ j < g.L.length ∧ level < g.lv j := by
  unfold GraphV.onB at h
  have h := of_decide_eq_true h
  exact ⟨i.toNat, by omega, by omega, by omega⟩
theorem GraphV.on_iff {g : GraphV} {j level : Nat} : g.onB (j : Int) (level : Int) = decide (level < g.lv j) := by
  unfold GraphV.onB
  by_cases h : level < g.lv j
  · have := GraphV.lv_lt (Nat.lt_of_le_of_lt (Nat.zero_le _) h)
    rw [decide_eq_true h, decide_eq_true]
    simp only [Int.toNat_natCast]
    omega
  · rw [decide_eq_false h, decide_eq_false]
    simp only [Int.toNat_natCast]
    omega

/-- Those of a list of places that are wanted, each once, in order. -/
def pickS (p : Int → Bool) (acc : List Nat) (i : Int) : List Nat := if p i = true ∧ i.toNat ∉ acc then acc ++ [i.toNat] else acc
def pick (p : Int → Bool) (l : List Int) : List Nat := l.foldl (pickS p) []
theorem pick_snoc (p : Int → Bool) (l : List Int) (i : Int) : pick p (l ++ [i]) = pickS p (pick p l) i := by simp [pick]
theorem pickS_ok {p : Int → Bool} {acc : List Nat} {i : Int} (h : acc.Nodup ∧ ∀ j ∈ acc, p (j : Int) = true) (h0 : p i = true → 0 ≤ i) : (pickS p acc i).Nodup ∧ ∀ j ∈ pickS p acc i, p (j : Int) = true := by
  unfold pickS
  split
  · next hc =>
    refine ⟨?_, fun j hj => ?_⟩
    · rw [List.nodup_append]
      refine ⟨h.1, by simp, fun a ha b hb => ?_⟩
      simp at hb
      subst hb
      intro e
      exact hc.2 (e ▸ ha)
    · rcases List.mem_append.1 hj with hj | hj
      · exact h.2 j hj
      · simp at hj
        rw [hj, Int.toNat_of_nonneg (h0 hc.1)]
        exact hc.1
  · exact h
theorem pick_ok (p : Int → Bool) (l : List Int) (h0 : ∀ i, p i = true → 0 ≤ i) : (pick p l).Nodup ∧ ∀ j ∈ pick p l, p (j : Int) = true := by
  unfold pick
  suffices ∀ acc : List Nat, (acc.Nodup ∧ ∀ j ∈ acc, p (j : Int) = true) → ((l.foldl (pickS p) acc).Nodup ∧ ∀ j ∈ l.foldl (pickS p) acc, p (j : Int) = true) from this [] ⟨by simp, by simp⟩
  induction l with
  | nil => exact fun acc h => h
  | cons i l ih => exact fun acc h => ih _ (pickS_ok h (h0 i))
theorem pickS_len (p : Int → Bool) (acc : List Nat) (i : Int) : (pickS p acc i).length ≤ acc.length + 1 := by
  unfold pickS
  split <;> simp
theorem pick_len (p : Int → Bool) (l : List Int) : (pick p l).length ≤ l.length := by
  suffices ∀ (l : List Int) (acc : List Nat), (l.foldl (pickS p) acc).length ≤ acc.length + l.length from by simpa [pick] using this l []
  intro l
  induction l with
  | nil => simp
  | cons i l ih =>
    intro acc
    have h1 := ih (pickS p acc i)
    have h2 := pickS_len p acc i
    simp only [List.foldl_cons, List.length_cons]
    omega
theorem mem_pickS {p : Int → Bool} {acc : List Nat} {i : Int} {j : Nat} : j ∈ pickS p acc i ↔ j ∈ acc ∨ (p i = true ∧ j = i.toNat) := by
  unfold pickS
  split
  · next h => simp [h.1]
  · next h =>
    constructor
    · exact .inl
    · rintro (hj | ⟨h1, rfl⟩)
      · exact hj
      · by_cases hm : i.toNat ∈ acc
        · exact hm
        · exact absurd ⟨h1, hm⟩ h
theorem mem_pick {p : Int → Bool} {l : List Int} {j : Nat} : j ∈ pick p l ↔ ∃ i ∈ l, p i = true ∧ j = i.toNat := by
  suffices ∀ (l : List Int) (acc : List Nat), j ∈ l.foldl (pickS p) acc ↔ j ∈ acc ∨ ∃ i ∈ l, p i = true ∧ j = i.toNat from by simpa [pick] using this l []
  intro l
  induction l with
  | nil => simp
  | cons i l ih =>
    intro acc
    rw [List.foldl_cons, ih, mem_pickS]
    simp [or_assoc]
theorem pick_congr {p p' : Int → Bool} (h : ∀ i, p i = p' i) : pick p = pick p' := by rw [funext h]
/-- Picked out of what was picked. -/
theorem pick_twice (p p' : Int → Bool) (l : List Int) (h : ∀ i, p i = true → p' i = true) : pick p' (l.filter p) = pick p l := by
  suffices ∀ (l : List Int) (acc : List Nat), (l.filter p).foldl (pickS p') acc = l.foldl (pickS p) acc from this l []
  intro l
  induction l with
  | nil => exact fun _ => rfl
  | cons i l ih =>
    intro acc
    cases hp : p i with
    | true =>
      rw [List.filter_cons_of_pos hp, List.foldl_cons, List.foldl_cons, ih]
      congr 1
      unfold pickS
      rw [hp, h i hp]
    | false =>
      rw [List.filter_cons_of_neg (by simp [hp]), List.foldl_cons, ih]
      congr 1
      unfold pickS
      rw [hp]
      simp

/-- P11.2: Near. -/
def GraphV.near (g : GraphV) (q : List Int) (l : List Int) : List Hit := sortL ((pick (fun i => g.onB i 0) l).map (g.hit q))
theorem GraphV.near_len (g : GraphV) (q l : List Int) : (g.near q l).length ≤ l.length := by
  unfold GraphV.near
  rw [sortL_len, List.length_map]
  exact pick_len _ _
theorem onB_nonneg {g : GraphV} {level i : Int} (h : g.onB i level = true) : 0 ≤ i := by
  unfold GraphV.onB at h
  exact (of_decide_eq_true h).1
theorem GraphV.near_mem {g : GraphV} {q l : List Int} {h : Hit} (hm : h ∈ g.near q l) : ∃ j : Nat, h = g.hit q j ∧ 0 < g.lv j ∧ (j : Int) ∈ l := by
  unfold GraphV.near at hm
  obtain ⟨j, hj, rfl⟩ := List.mem_map.1 ((sortL_perm _).mem_iff.1 hm)
  refine ⟨j, rfl, ?_, ?_⟩
  · have h1 := (pick_ok _ l (fun i => onB_nonneg)).2 j hj
    rw [show (0 : Int) = ((0 : Nat) : Int) from rfl, GraphV.on_iff] at h1
    exact of_decide_eq_true h1
  · obtain ⟨i, hi, hp, rfl⟩ := mem_pick.1 hj
    rw [Int.toNat_of_nonneg (onB_nonneg hp)]
    exact hi
theorem map_hit_nodup (g : GraphV) (q : List Int) {l : List Nat} (h : l.Nodup) : (l.map (g.hit q)).Nodup := by
  unfold List.Nodup at h ⊢
  rw [List.pairwise_map]
  exact h.imp fun hne e => hne (by have := congrArg Prod.snd e; simp [GraphV.hit] at this; omega)
theorem GraphV.near_ids (g : GraphV) (q l : List Int) : ((g.near q l).map fun h => h.2.toNat).Nodup := by
  unfold GraphV.near
  have h1 := ((sortL_perm ((pick (fun i => g.onB i 0) l).map (g.hit q))).map fun h => h.2.toNat)
  rw [h1.nodup_iff, List.map_map]
  have h2 : ((fun h : Hit => h.2.toNat) ∘ g.hit q) = fun j => j := funext fun j => by simp [GraphV.hit]
  rw [h2, List.map_id']
  exact (pick_ok _ l (fun i => onB_nonneg)).1

/-- P11.2: Choose: taken and passed. -/
def GraphV.nearer (g : GraphV) (taken : List Nat) (i : Nat) (d : Int) : Bool := taken.any fun one => decide ((g.hit (g.vec i) one).1 < d)
def GraphV.takeS (g : GraphV) (most : Nat) (s : List Nat × List Nat) (h : Hit) : List Nat × List Nat :=
  if s.1.length = most then s else if g.nearer s.1 h.2.toNat h.1 = true then (s.1, s.2 ++ [h.2.toNat]) else (s.1 ++ [h.2.toNat], s.2)
def GraphV.chooseF (g : GraphV) (most : Nat) (near : List Hit) : List Nat × List Nat := near.foldl (g.takeS most) ([], [])
def GraphV.choose (g : GraphV) (q l : List Int) (most : Nat) : List Nat := (g.chooseF most (g.near q l)).1 ++ (g.chooseF most (g.near q l)).2.take (most - (g.chooseF most (g.near q l)).1.length)
theorem GraphV.chooseF_snoc (g : GraphV) (most : Nat) (l : List Hit) (h : Hit) : g.chooseF most (l ++ [h]) = g.takeS most (g.chooseF most l) h := by simp [GraphV.chooseF]
theorem GraphV.choose_most (g : GraphV) (most : Nat) (l : List Hit) : (g.chooseF most l).1.length ≤ most := by
  unfold GraphV.chooseF
  suffices ∀ s : List Nat × List Nat, s.1.length ≤ most → (l.foldl (g.takeS most) s).1.length ≤ most from this _ (by simp)
  induction l with
  | nil => exact fun s h => h
  | cons h l ih =>
    intro s hs
    refine ih _ ?_
    unfold GraphV.takeS
    split
    · exact hs
    · split
      · exact hs
      · next hne _ =>
        simp
        omega
/-- Once most are taken nothing turns any more. -/
theorem GraphV.choose_full (g : GraphV) (most : Nat) (l m : List Hit) (h : (g.chooseF most l).1.length = most) : g.chooseF most (l ++ m) = g.chooseF most l := by
  have e : g.chooseF most (l ++ m) = m.foldl (g.takeS most) (g.chooseF most l) := by simp [GraphV.chooseF]
  rw [e]
  clear e
  generalize g.chooseF most l = s at h ⊢
  induction m with
  | nil => rfl
  | cons x m ih =>
    rw [List.foldl_cons]
    have : g.takeS most s x = s := by
      unfold GraphV.takeS
      rw [if_pos h]
    rw [this]
    exact ih
theorem GraphV.choose_len (g : GraphV) (most : Nat) (l : List Hit) : (g.chooseF most l).1.length + (g.chooseF most l).2.length ≤ l.length := by
  unfold GraphV.chooseF
  suffices ∀ s : List Nat × List Nat, (l.foldl (g.takeS most) s).1.length + (l.foldl (g.takeS most) s).2.length ≤ s.1.length + s.2.length + l.length from by simpa using this ([], [])
  induction l with
  | nil => simp
  | cons h l ih =>
    intro s
    have h1 := ih (g.takeS most s h)
    have h2 : (g.takeS most s h).1.length + (g.takeS most s h).2.length ≤ s.1.length + s.2.length + 1 := by
      unfold GraphV.takeS
      split
      · omega
      · split <;> simp <;> omega
    simp only [List.foldl_cons, List.length_cons]
    omega
/-- What is taken and passed are places of the hits, each once. -/
theorem GraphV.choose_sub (g : GraphV) (most : Nat) (l : List Hit) : ∀ j, (j ∈ (g.chooseF most l).1 ∨ j ∈ (g.chooseF most l).2) → j ∈ l.map fun h => h.2.toNat := by
  unfold GraphV.chooseF
  suffices ∀ s : List Nat × List Nat, ∀ j, (j ∈ (l.foldl (g.takeS most) s).1 ∨ j ∈ (l.foldl (g.takeS most) s).2) → (j ∈ s.1 ∨ j ∈ s.2) ∨ j ∈ l.map fun h => h.2.toNat from fun j hj => by simpa using this ([], []) j hj
  induction l with
  | nil => exact fun s j hj => .inl hj
  | cons h l ih =>
    intro s j hj
    rcases ih _ j hj with h1 | h1
    · unfold GraphV.takeS at h1
      split at h1
      · exact .inl h1
      · split at h1
        · simp at h1
          rcases h1 with h1 | h1 | h1
          · exact .inl (.inl h1)
          · exact .inl (.inr h1)
          · exact .inr (by simp [h1])
        · simp at h1
          rcases h1 with (h1 | h1) | h1
          · exact .inl (.inl h1)
          · exact .inr (by simp [h1])
          · exact .inl (.inr h1)
    · exact .inr (List.mem_cons_of_mem _ h1)
theorem GraphV.choose_nodup (g : GraphV) (most : Nat) (l : List Hit) (h : (l.map fun h => h.2.toNat).Nodup) : ((g.chooseF most l).1 ++ (g.chooseF most l).2).Nodup := by
  unfold GraphV.chooseF
  suffices ∀ s : List Nat × List Nat, (s.1 ++ s.2).Nodup → (∀ j, (j ∈ s.1 ∨ j ∈ s.2) → j ∉ l.map fun h => h.2.toNat) → ((l.foldl (g.takeS most) s).1 ++ (l.foldl (g.takeS most) s).2).Nodup from this ([], []) (by simp) (by simp)
  induction l with
  | nil => exact fun s hs _ => hs
  | cons x l ih =>
    intro s hs hd
    rw [List.map_cons, List.nodup_cons] at h
    have hx : x.2.toNat ∉ s.1 ∧ x.2.toNat ∉ s.2 := ⟨fun hh => hd _ (.inl hh) (by simp), fun hh => hd _ (.inr hh) (by simp)⟩
    refine ih h.2 _ ?_ ?_
    · unfold GraphV.takeS
      split
      · exact hs
      · split
        · rw [← List.append_assoc]
          rw [List.nodup_append] at hs ⊢
          rw [List.nodup_append]
          refine ⟨⟨hs.1, hs.2.1, hs.2.2⟩, by simp, fun a ha b hb => ?_⟩
          simp at hb
          subst hb
          rintro rfl
          rcases List.mem_append.1 ha with ha | ha
          · exact hx.1 ha
          · exact hx.2 ha
        · have hp : (s.1 ++ [x.2.toNat] ++ s.2).Perm (x.2.toNat :: (s.1 ++ s.2)) := by
            rw [List.append_assoc]
            exact List.perm_middle
          rw [hp.nodup_iff, List.nodup_cons]
          exact ⟨fun hh => by rcases List.mem_append.1 hh with hh | hh; exact hx.1 hh; exact hx.2 hh, hs⟩
    · intro j hj hjl
      unfold GraphV.takeS at hj
      split at hj
      · exact hd j hj (List.mem_cons_of_mem _ hjl)
      · split at hj
        · simp at hj
          rcases hj with hj | hj | hj
          · exact hd j (.inl hj) (List.mem_cons_of_mem _ hjl)
          · exact hd j (.inr hj) (List.mem_cons_of_mem _ hjl)
          · exact h.1 (hj ▸ hjl)
        · simp at hj
          rcases hj with (hj | hj) | hj
          · exact hd j (.inl hj) (List.mem_cons_of_mem _ hjl)
          · exact h.1 (hj ▸ hjl)
          · exact hd j (.inr hj) (List.mem_cons_of_mem _ hjl)
theorem GraphV.choose_is (g : GraphV) (q l : List Int) (most : Nat) : (g.choose q l most).Nodup ∧ (g.choose q l most).length ≤ most ∧ ∀ j ∈ g.choose q l most, 0 < g.lv j ∧ (j : Int) ∈ l := by
  unfold GraphV.choose
  have h1 := g.choose_nodup most (g.near q l) (g.near_ids q l)
  have h2 := g.choose_most most (g.near q l)
  refine ⟨?_, ?_, fun j hj => ?_⟩
  · rw [List.nodup_append] at h1 ⊢
    exact ⟨h1.1, h1.2.1.sublist (List.take_sublist _ _), fun a ha b hb => h1.2.2 a ha b (List.mem_of_mem_take hb)⟩
  · rw [List.length_append, List.length_take]
    omega
  · have hm : j ∈ (g.near q l).map fun h => h.2.toNat := g.choose_sub most _ j (by
      rcases List.mem_append.1 hj with hj | hj
      · exact .inl hj
      · exact .inr (List.mem_of_mem_take hj))
    obtain ⟨h, hh, rfl⟩ := List.mem_map.1 hm
    obtain ⟨k, rfl, hk1, hk2⟩ := GraphV.near_mem hh
    simpa [GraphV.hit] using And.intro hk1 hk2

/-- P11.3: the list that a link leaves. -/
def putIn (l : List Nat) (b : Nat) : List Nat := if b ∈ l then l else l ++ [b]
def GraphV.linkL (g : GraphV) (a b level : Nat) (most : Int) : List Nat :=
  if most < ((putIn (g.links a level) b).length : Int) then g.choose (g.vec a) ((putIn (g.links a level) b).map fun (j : Nat) => (j : Int)) most.toNat else putIn (g.links a level) b
def GraphV.setLink (g : GraphV) (a level : Nat) (l : List Nat) : GraphV := ⟨g.m, g.L.modify a fun x => { x with links := x.links.set level l }⟩
def GraphV.linkB (g : GraphV) (a b level : Int) : Bool := g.onB a level && g.onB b level && !decide (a = b)
def GraphV.link (g : GraphV) (a b level most : Int) : GraphV := if g.linkB a b level = true then g.setLink a.toNat level.toNat (g.linkL a.toNat b.toNat level.toNat most) else g
def GraphV.till (g : GraphV) (i : Int) (v : Nat) : GraphV := if g.thereB i = true then ⟨g.m, g.L.modify i.toNat fun x => { x with til := v }⟩ else g
def newN (id : Nat) (vec : List Int) (tags : List ByteArray) (top v : Nat) : NodeV := ⟨id, vec, tags, v, 0, List.replicate (top + 1) []⟩
def topN (level : Int) : Nat := (min (max level 0) 4).toNat
def GraphV.add (g : GraphV) (x : NodeV) : GraphV := ⟨g.m, g.L ++ [x]⟩

structure WalkV where
  met : List Nat
  waits : List Hit
  best : List Hit
/-- Whom a node has on a level: its links, and on the lowest one those of the spine. -/
def GraphV.nbrs (g : GraphV) (i level : Nat) : List Nat := g.links i level ++ (if level = 0 then (if 0 < i then [i - 1] else []) ++ (if i + 1 < g.L.length then [i + 1] else []) else [])
def GraphV.meet (g : GraphV) (q : List Int) (W : Nat) (s : WalkV) (j : Nat) : WalkV :=
  if j ∈ s.met then s
  else if s.best.length < W ∨ ltH (g.hit q j) (lastL s.best) = true then ⟨s.met ++ [j], ins (g.hit q j) s.waits, (ins (g.hit q j) s.best).take W⟩
  else ⟨s.met ++ [j], s.waits, s.best⟩
def GraphV.meets (g : GraphV) (q : List Int) (W : Nat) (s : WalkV) (l : List Nat) : WalkV := l.foldl (g.meet q W) s
def GraphV.walkF (g : GraphV) (q : List Int) (W level : Nat) : Nat → WalkV → List Hit
  | 0, s => s.best
  | k + 1, s => match s.waits with
    | [] => s.best
    | c :: ws => if s.best.length = W ∧ ltH (lastL s.best) c = true then s.best else g.walkF q W level k (g.meets q W ⟨s.met, ws, s.best⟩ (g.nbrs c.2.toNat level))
def GraphV.start (g : GraphV) (q : List Int) (W : Nat) (ps : List Nat) : WalkV := ⟨ps, sortL (ps.map (g.hit q)), keepL W (ps.map (g.hit q))⟩
def widthN (width : Int) : Nat := (min (max width 1) 256).toNat
def GraphV.walk (g : GraphV) (q fr : List Int) (width level : Int) : List Hit :=
  g.walkF q (widthN width) level.toNat (g.L.length + 1) (g.start q (widthN width) (pick (fun i => g.onB i level) fr))

theorem walkF_nil {g : GraphV} {q : List Int} {W level k : Nat} {s : WalkV} (e : s.waits = []) : g.walkF q W level k s = s.best := by
  cases k with
  | zero => rfl
  | succ k => rw [GraphV.walkF.eq_def]; simp only [e]
theorem walkF_stop {g : GraphV} {q : List Int} {W level k : Nat} {s : WalkV} {c : Hit} {ws : List Hit} (e : s.waits = c :: ws) (h : s.best.length = W ∧ ltH (lastL s.best) c = true) : g.walkF q W level k s = s.best := by
  cases k with
  | zero => rfl
  | succ k => rw [GraphV.walkF.eq_def]; simp only [e]; rw [if_pos h]
theorem walkF_go {g : GraphV} {q : List Int} {W level k : Nat} {s : WalkV} {c : Hit} {ws : List Hit} (e : s.waits = c :: ws) (h : ¬ (s.best.length = W ∧ ltH (lastL s.best) c = true)) : g.walkF q W level (k + 1) s = g.walkF q W level k (g.meets q W ⟨s.met, ws, s.best⟩ (g.nbrs c.2.toNat level)) := by
  rw [GraphV.walkF.eq_def]; simp only [e]; rw [if_neg h]

theorem nodup_le : ∀ (n : Nat) (l : List Nat), l.Nodup → (∀ x ∈ l, x < n) → l.length ≤ n
  | 0, l, _, h => by
    cases l with
    | nil => simp
    | cons x l => exact absurd (h x (by simp)) (by omega)
  | n + 1, l, hd, h => by
    have h1 := nodup_le n (l.erase n) (hd.erase n) fun x hx => by
      have h2 := (hd.mem_erase_iff).1 hx
      have := h x h2.2
      have := h2.1
      omega
    rw [List.length_erase] at h1
    split at h1 <;> omega

structure WalkOk (g : GraphV) (q : List Int) (W level : Nat) (s : WalkV) : Prop where
  nodup : s.met.Nodup
  on : ∀ j ∈ s.met, level < g.lv j
  wlen : s.waits.length ≤ s.met.length
  whit : ∀ h ∈ s.waits, ∃ j ∈ s.met, h = g.hit q j
  bhit : ∀ h ∈ s.best, ∃ j ∈ s.met, h = g.hit q j
  blen : s.best.length ≤ W
  word : InOrder s.waits
  bord : InOrder s.best
def measW (g : GraphV) (s : WalkV) : Nat := g.L.length - s.met.length + s.waits.length
theorem lv_len {g : GraphV} {level j : Nat} (h : level < g.lv j) : j < g.L.length := GraphV.lv_lt (Nat.lt_of_le_of_lt (Nat.zero_le _) h)
theorem WalkOk.met_le {g : GraphV} {q : List Int} {W level : Nat} {s : WalkV} (h : WalkOk g q W level s) : s.met.length ≤ g.L.length :=
  nodup_le _ _ h.nodup fun j hj => lv_len (h.on j hj)
theorem mem_ins {x y : Hit} {l : List Hit} : y ∈ ins x l ↔ y = x ∨ y ∈ l := by
  rw [(ins_perm x l).mem_iff, List.mem_cons]
theorem nodup_snoc {l : List Nat} {j : Nat} (h : l.Nodup) (hj : j ∉ l) : (l ++ [j]).Nodup := by
  rw [List.nodup_append]
  refine ⟨h, by simp, fun a ha b hb => ?_⟩
  simp at hb
  subst hb
  rintro rfl
  exact hj ha
theorem WalkOk.meet {g : GraphV} {q : List Int} {W level : Nat} {s : WalkV} (h : WalkOk g q W level s) {j : Nat} (hj : level < g.lv j) : WalkOk g q W level (g.meet q W s j) ∧ measW g (g.meet q W s j) ≤ measW g s := by
  unfold GraphV.meet
  split
  · exact ⟨h, Nat.le_refl _⟩
  · next hn =>
    have h1 : (s.met ++ [j]).Nodup := nodup_snoc h.nodup hn
    have h2 : ∀ k ∈ s.met ++ [j], level < g.lv k := fun k hk => by
      rcases List.mem_append.1 hk with hk | hk
      · exact h.on k hk
      · simp at hk
        rw [hk]
        exact hj
    have h3 := nodup_le _ _ h1 fun k hk => lv_len (h2 k hk)
    simp at h3
    have up : ∀ (x : Hit), (∃ k ∈ s.met, x = g.hit q k) → ∃ k ∈ s.met ++ [j], x = g.hit q k := fun x ⟨k, hk, e⟩ => ⟨k, List.mem_append.2 (.inl hk), e⟩
    split
    · refine ⟨⟨h1, h2, by rw [ins_len]; simp; exact h.wlen, fun x hx => ?_, fun x hx => ?_, by simp; omega, ins_order _ _ h.word, (ins_order _ _ h.bord).sublist (List.take_sublist _ _)⟩, ?_⟩
      · rcases mem_ins.1 hx with rfl | hx
        · exact ⟨j, by simp, rfl⟩
        · exact up x (h.whit x hx)
      · rcases mem_ins.1 (List.mem_of_mem_take hx) with rfl | hx
        · exact ⟨j, by simp, rfl⟩
        · exact up x (h.bhit x hx)
      · unfold measW
        simp only [List.length_append, List.length_cons, List.length_nil, ins_len]
        omega
    · refine ⟨⟨h1, h2, by have := h.wlen; simp; omega, fun x hx => up x (h.whit x hx), fun x hx => up x (h.bhit x hx), h.blen, h.word, h.bord⟩, ?_⟩
      unfold measW
      simp only [List.length_append, List.length_cons, List.length_nil]
      omega
theorem WalkOk.meets {g : GraphV} {q : List Int} {W level : Nat} {l : List Nat} : ∀ {s : WalkV}, WalkOk g q W level s → (∀ j ∈ l, level < g.lv j) → WalkOk g q W level (g.meets q W s l) ∧ measW g (g.meets q W s l) ≤ measW g s := by
  induction l with
  | nil => exact fun h _ => ⟨h, Nat.le_refl _⟩
  | cons j l ih =>
    intro s h hl
    have h1 := h.meet (hl j (by simp))
    have h2 := ih h1.1 fun k hk => hl k (by simp [hk])
    exact ⟨h2.1, Nat.le_trans h2.2 h1.2⟩
theorem GraphV.Right.nbrs {g : GraphV} (h : g.Right) {i level : Nat} (hi : level < g.lv i) : ∀ j ∈ g.nbrs i level, level < g.lv j := by
  intro j hj
  unfold GraphV.nbrs at hj
  rcases List.mem_append.1 hj with hj | hj
  · exact (h.dest i level j hj).1
  · split at hj
    · next h0 =>
      have hlt : j < g.L.length := by
        have := lv_len hi
        rcases List.mem_append.1 hj with hj | hj
        · split at hj
          · simp at hj
            omega
          · simp at hj
        · split at hj
          · simp at hj
            omega
          · simp at hj
      have h1 := h.one _ (List.getElem_mem hlt)
      rw [GraphV.lv_some (List.getElem?_eq_getElem hlt)]
      omega
    · simp at hj
/-- One round: what waits is taken, its neighbours are met. -/
theorem WalkOk.next {g : GraphV} {q : List Int} {W level : Nat} {s : WalkV} (h : WalkOk g q W level s) (hr : g.Right) {c : Hit} {ws : List Hit} (e : s.waits = c :: ws) :
    (∃ j, c = g.hit q j ∧ level < g.lv j) ∧ WalkOk g q W level ⟨s.met, ws, s.best⟩ ∧ WalkOk g q W level (g.meets q W ⟨s.met, ws, s.best⟩ (g.nbrs c.2.toNat level)) ∧ measW g (g.meets q W ⟨s.met, ws, s.best⟩ (g.nbrs c.2.toNat level)) < measW g s := by
  obtain ⟨j, hj, hc⟩ := h.whit c (by rw [e]; simp)
  have hon := h.on j hj
  have h0 : WalkOk g q W level ⟨s.met, ws, s.best⟩ := ⟨h.nodup, h.on, by have := h.wlen; rw [e] at this; simp at this; simp; omega, fun x hx => h.whit x (by rw [e]; simp [hx]), h.bhit, h.blen, by
    have := h.word
    rw [e] at this
    unfold InOrder at this ⊢
    exact (List.pairwise_cons.1 this).2, h.bord⟩
  have hcj : c.2.toNat = j := by rw [hc]; simp [GraphV.hit]
  have h1 := h0.meets (hr.nbrs (i := c.2.toNat) (by rw [hcj]; exact hon))
  refine ⟨⟨j, hc, hon⟩, h0, h1.1, ?_⟩
  have h2 : measW g ⟨s.met, ws, s.best⟩ < measW g s := by
    unfold measW
    rw [e]
    simp
  omega
theorem keepL_len (k : Nat) (l : List Hit) : (keepL k l).length ≤ k := by
  unfold keepL
  simp
  omega
theorem GraphV.start_ok (g : GraphV) (q : List Int) (W : Nat) (level : Nat) (ps : List Nat) (h1 : ps.Nodup) (h2 : ∀ j ∈ ps, level < g.lv j) : WalkOk g q W level (g.start q W ps) ∧ measW g (g.start q W ps) < g.L.length + 1 := by
  have hl := nodup_le _ _ h1 fun k hk => lv_len (h2 k hk)
  have hm : ∀ (l : List Hit), (∀ x ∈ l, x ∈ ps.map (g.hit q)) → ∀ x ∈ l, ∃ j ∈ ps, x = g.hit q j := fun l hl x hx => by
    obtain ⟨j, hj, e⟩ := List.mem_map.1 (hl x hx)
    exact ⟨j, hj, e.symm⟩
  refine ⟨⟨h1, h2, by simp [GraphV.start, sortL_len], hm _ fun x hx => (sortL_perm _).mem_iff.1 hx, hm _ fun x hx => (sortL_perm _).mem_iff.1 (List.mem_of_mem_take hx), keepL_len _ _, sortL_order _, keepL_order _ _⟩, ?_⟩
  unfold measW GraphV.start
  simp only [sortL_len, List.length_map]
  omega
theorem pick_on {g : GraphV} {level : Int} (fr : List Int) (h0 : 0 ≤ level) : ∀ j ∈ pick (fun i => g.onB i level) fr, level.toNat < g.lv j := fun j hj => by
  have h1 := (pick_ok _ fr (fun i => onB_nonneg)).2 j hj
  have e : level = ((level.toNat : Nat) : Int) := by omega
  rw [e, GraphV.on_iff] at h1
  exact of_decide_eq_true h1
theorem pick_none {g : GraphV} {level : Int} (fr : List Int) (h0 : level < 0) : pick (fun i => g.onB i level) fr = [] := by
  apply List.eq_nil_iff_forall_not_mem.2
  intro j hj
  have h1 := (pick_ok _ fr (fun i => onB_nonneg)).2 j hj
  unfold GraphV.onB at h1
  have := of_decide_eq_true h1
  omega

/-- The document's round: any places are looked at, those that are on the level are met. -/
def GraphV.meetI (g : GraphV) (q : List Int) (W : Nat) (level : Int) (s : WalkV) (i : Int) : WalkV := if g.onB i level = true then g.meet q W s i.toNat else s
def GraphV.nextI (g : GraphV) (i level : Nat) : List Int := (g.links i level).map (fun (j : Nat) => (j : Int)) ++ (if level = 0 then [(i : Int) - 1, (i : Int) + 1] else [])
theorem GraphV.meets_next {g : GraphV} (h : g.Right) (q : List Int) (W : Nat) {i level : Nat} (hi : level < g.lv i) (s : WalkV) : (g.nextI i level).foldl (g.meetI q W (level : Int)) s = g.meets q W s (g.nbrs i level) := by
  unfold GraphV.nextI GraphV.nbrs GraphV.meets
  rw [List.foldl_append, List.foldl_append]
  have h1 : ∀ (l : List Nat) (s : WalkV), (∀ j ∈ l, level < g.lv j) → (l.map fun (j : Nat) => (j : Int)).foldl (g.meetI q W (level : Int)) s = l.foldl (g.meet q W) s := by
    intro l
    induction l with
    | nil => exact fun _ _ => rfl
    | cons j l ih =>
      intro s hl
      rw [List.map_cons, List.foldl_cons, List.foldl_cons, ih _ fun k hk => hl k (by simp [hk])]
      congr 1
      unfold GraphV.meetI
      rw [GraphV.on_iff, if_pos (decide_eq_true (hl j (by simp)))]
      simp
  rw [h1 _ _ fun j hj => (h.dest i level j hj).1]
  generalize (g.links i level).foldl (g.meet q W) s = s1
  split
  · next h0 =>
    subst h0
    have hlt := lv_len hi
    have one : ∀ j, j < g.L.length → 0 < g.lv j := fun j hj => by
      have := h.one _ (List.getElem_mem hj)
      rw [GraphV.lv_some (List.getElem?_eq_getElem hj)]
      omega
    have ha : ∀ s : WalkV, g.meetI q W ((0 : Nat) : Int) s ((i : Int) - 1) = (if 0 < i then [i - 1] else []).foldl (g.meet q W) s := fun s => by
      unfold GraphV.meetI
      by_cases h0 : 0 < i
      · rw [if_pos h0, show (i : Int) - 1 = ((i - 1 : Nat) : Int) by omega, GraphV.on_iff, if_pos (decide_eq_true (one _ (by omega)))]
        rfl
      · rw [if_neg h0, if_neg (by unfold GraphV.onB; rw [decide_eq_true_iff]; omega)]
        rfl
    have hb : ∀ s : WalkV, g.meetI q W ((0 : Nat) : Int) s ((i : Int) + 1) = (if i + 1 < g.L.length then [i + 1] else []).foldl (g.meet q W) s := fun s => by
      unfold GraphV.meetI
      by_cases h0 : i + 1 < g.L.length
      · rw [if_pos h0, show (i : Int) + 1 = ((i + 1 : Nat) : Int) by omega, GraphV.on_iff, if_pos (decide_eq_true (one _ h0))]
        rfl
      · rw [if_neg h0, if_neg (by unfold GraphV.onB; rw [decide_eq_true_iff]; omega)]
        rfl
    rw [List.foldl_cons, List.foldl_cons, List.foldl_nil, ha, hb, List.foldl_append]
  · rfl

/-! ### A width of as many as there are nodes: all are found -/
def FullOk (g : GraphV) (q : List Int) (s : WalkV) : Prop := s.best.Perm (s.met.map (g.hit q)) ∧ ∀ j ∈ s.met, g.hit q j ∈ s.waits ∨ ∀ k ∈ g.nbrs j 0, k ∈ s.met
theorem hit_inj {g : GraphV} {q : List Int} {i j : Nat} (h : g.hit q i = g.hit q j) : i = j := by
  have := congrArg Prod.snd h
  simp [GraphV.hit] at this
  omega
theorem meet_mem {g : GraphV} {q : List Int} {W : Nat} {s : WalkV} {j : Nat} : (∀ k ∈ s.met, k ∈ (g.meet q W s j).met) ∧ j ∈ (g.meet q W s j).met := by
  unfold GraphV.meet
  split
  · next h => exact ⟨fun _ h => h, h⟩
  · split <;> exact ⟨fun k hk => List.mem_append.2 (.inl hk), by simp⟩
theorem meets_mem {g : GraphV} {q : List Int} {W : Nat} {l : List Nat} : ∀ {s : WalkV}, (∀ k ∈ s.met, k ∈ (g.meets q W s l).met) ∧ ∀ j ∈ l, j ∈ (g.meets q W s l).met := by
  induction l with
  | nil => exact fun {s} => ⟨fun _ h => h, by simp⟩
  | cons j l ih =>
    intro s
    have h1 := @meet_mem g q W s j
    have h2 := @ih (g.meet q W s j)
    refine ⟨fun k hk => h2.1 k (h1.1 k hk), fun k hk => ?_⟩
    rcases List.mem_cons.1 hk with rfl | hk
    · exact h2.1 k h1.2
    · exact h2.2 k hk
/-- What is met: best has all, what is new waits. -/
theorem full_meet {g : GraphV} {q : List Int} {s : WalkV} (h : WalkOk g q g.L.length 0 s) (hp : s.best.Perm (s.met.map (g.hit q))) {j : Nat} (hj : 0 < g.lv j) :
    (g.meet q g.L.length s j).best.Perm ((g.meet q g.L.length s j).met.map (g.hit q)) ∧ (∀ x ∈ s.waits, x ∈ (g.meet q g.L.length s j).waits) ∧ ∀ k ∈ (g.meet q g.L.length s j).met, k ∈ s.met ∨ g.hit q k ∈ (g.meet q g.L.length s j).waits := by
  have hok := (h.meet hj).1
  unfold GraphV.meet at hok ⊢
  split at hok
  · next hm =>
    simp only [hm, if_true]
    exact ⟨hp, fun _ h => h, fun k hk => .inl hk⟩
  · next hm =>
    have hl := hp.length_eq
    rw [List.length_map] at hl
    have h3 := nodup_le _ _ (nodup_snoc h.nodup hm) fun k hk => by
      rcases List.mem_append.1 hk with hk | hk
      · exact lv_len (h.on k hk)
      · simp at hk
        rw [hk]
        exact lv_len hj
    simp at h3
    have hb : s.best.length < g.L.length := by omega
    simp only [hm, if_false]
    rw [if_pos (.inl hb)]
    refine ⟨?_, fun x hx => mem_ins.2 (.inr hx), fun k hk => ?_⟩
    · show ((ins (g.hit q j) s.best).take g.L.length).Perm ((s.met ++ [j]).map (g.hit q))
      rw [List.take_of_length_le (by rw [ins_len]; omega), List.map_append]
      exact (ins_perm _ _).trans ((hp.cons _).trans (List.perm_append_comm (l₁ := [g.hit q j])))
    · rcases List.mem_append.1 hk with hk | hk
      · exact .inl hk
      · simp at hk
        subst hk
        exact .inr (mem_ins.2 (.inl rfl))
theorem full_meets {g : GraphV} {q : List Int} {l : List Nat} : ∀ {s : WalkV}, WalkOk g q g.L.length 0 s → s.best.Perm (s.met.map (g.hit q)) → (∀ j ∈ l, 0 < g.lv j) →
    (g.meets q g.L.length s l).best.Perm ((g.meets q g.L.length s l).met.map (g.hit q)) ∧ (∀ x ∈ s.waits, x ∈ (g.meets q g.L.length s l).waits) ∧ ∀ k ∈ (g.meets q g.L.length s l).met, k ∈ s.met ∨ g.hit q k ∈ (g.meets q g.L.length s l).waits := by
  induction l with
  | nil => exact fun _ hp _ => ⟨hp, fun _ h => h, fun k hk => .inl hk⟩
  | cons j l ih =>
    intro s h hp hl
    have h1 := full_meet h hp (hl j (by simp))
    have h2 := ih (h.meet (hl j (by simp))).1 h1.1 fun k hk => hl k (by simp [hk])
    refine ⟨h2.1, fun x hx => h2.2.1 x (h1.2.1 x hx), fun k hk => ?_⟩
    rcases h2.2.2 k hk with h3 | h3
    · rcases h1.2.2 k h3 with h4 | h4
      · exact .inl h4
      · exact .inr (h2.2.1 _ h4)
    · exact .inr h3
theorem met_all {g : GraphV} {met : List Nat} (h0 : met ≠ []) (hc : ∀ j ∈ met, ∀ k ∈ g.nbrs j 0, k ∈ met) : ∀ j, j < g.L.length → j ∈ met := by
  have up : ∀ d j, j ∈ met → j + d < g.L.length → j + d ∈ met := by
    intro d
    induction d with
    | zero => exact fun j hj _ => hj
    | succ d ih =>
      intro j hj hl
      refine hc _ (ih j hj (by omega)) _ ?_
      unfold GraphV.nbrs
      rw [if_pos rfl, if_pos (show j + d + 1 < g.L.length by omega)]
      simp
      omega
  have down : ∀ d j, j ∈ met → d ≤ j → j - d ∈ met := by
    intro d
    induction d with
    | zero => exact fun j hj _ => hj
    | succ d ih =>
      intro j hj hl
      refine hc _ (ih j hj (by omega)) _ ?_
      unfold GraphV.nbrs
      rw [if_pos rfl, if_pos (show 0 < j - d by omega)]
      simp
      right
      left
      omega
  obtain ⟨i, hi⟩ := List.exists_mem_of_ne_nil _ h0
  intro j hj
  by_cases hij : i ≤ j
  · have := up (j - i) i hi (by omega)
    rwa [show i + (j - i) = j by omega] at this
  · have := down (i - j) i hi (by omega)
    rwa [show i - (i - j) = j by omega] at this
theorem perm_of_sub {l m : List Nat} (hl : l.Nodup) (hm : m.Nodup) (h : ∀ x, x ∈ l ↔ x ∈ m) : l.Perm m := (List.perm_ext_iff_of_nodup hl hm).2 h
theorem full_end {g : GraphV} {q : List Int} {s : WalkV} (h : WalkOk g q g.L.length 0 s) (hp : s.best.Perm (s.met.map (g.hit q))) (hall : ∀ j, j < g.L.length → j ∈ s.met) : s.best = sortL ((List.range g.L.length).map (g.hit q)) := by
  refine order_eq h.bord (sortL_order _) (hp.trans (List.Perm.trans ?_ (sortL_perm _).symm))
  refine List.Perm.map _ (perm_of_sub h.nodup List.nodup_range fun x => ⟨fun hx => ?_, fun hx => hall x (List.mem_range.1 hx)⟩)
  exact List.mem_range.2 (lv_len (h.on x hx))
theorem full_of_len {n : Nat} {l : List Nat} (h : l.Nodup) (hl : ∀ x ∈ l, x < n) (hn : l.length = n) : ∀ j, j < n → j ∈ l := by
  intro j hj
  by_cases hm : j ∈ l
  · exact hm
  · have := nodup_le n (l ++ [j]) (nodup_snoc h hm) fun x hx => by
      rcases List.mem_append.1 hx with hx | hx
      · exact hl x hx
      · simp at hx
        omega
    simp at this
    omega
theorem walkF_full {g : GraphV} (hr : g.Right) (q : List Int) : ∀ (k : Nat) (s : WalkV), WalkOk g q g.L.length 0 s → FullOk g q s → s.met ≠ [] → measW g s < k → g.walkF q g.L.length 0 k s = sortL ((List.range g.L.length).map (g.hit q)) := by
  intro k
  induction k with
  | zero => exact fun s _ _ _ hk => absurd hk (by omega)
  | succ k ih =>
    intro s h hf h0 hk
    cases e : s.waits with
    | nil =>
      rw [walkF_nil e]
      refine full_end h hf.1 (met_all h0 fun j hj => ?_)
      rcases hf.2 j hj with h1 | h1
      · rw [e] at h1
        exact absurd h1 (by simp)
      · exact h1
    | cons c ws =>
      obtain ⟨⟨j, hc, hon⟩, h1, h2, h3⟩ := h.next hr e
      by_cases hb : s.best.length = g.L.length ∧ ltH (lastL s.best) c = true
      · rw [walkF_stop e hb]
        refine full_end h hf.1 (full_of_len h.nodup (fun x hx => lv_len (h.on x hx)) ?_)
        have := hf.1.length_eq
        rw [List.length_map] at this
        exact this.symm.trans hb.1
      · rw [walkF_go e hb]
        have hcj : c.2.toNat = j := by rw [hc]; simp [GraphV.hit]
        have hnb := hr.nbrs (i := c.2.toNat) (by rw [hcj]; exact hon)
        have h4 := full_meets h1 hf.1 hnb
        have h5 := @meets_mem g q g.L.length (g.nbrs c.2.toNat 0) ⟨s.met, ws, s.best⟩
        refine ih _ h2 ⟨h4.1, fun i hi => ?_⟩ ?_ (by omega)
        · rcases h4.2.2 i hi with h6 | h6
          · rcases hf.2 i h6 with h7 | h7
            · rw [e] at h7
              rcases List.mem_cons.1 h7 with h7 | h7
              · have : i = j := hit_inj (h7.trans hc)
                subst this
                exact .inr fun k hk => h5.2 k (by rw [hcj]; exact hk)
              · exact .inl (h4.2.1 _ h7)
            · exact .inr fun k hk => h5.1 k (h7 k hk)
          · exact .inl h6
        · obtain ⟨i, hi⟩ := List.exists_mem_of_ne_nil _ h0
          exact List.ne_nil_of_mem (h5.1 i hi)
end Go.Proofs.YtadkfedglkhgjaaGreat
