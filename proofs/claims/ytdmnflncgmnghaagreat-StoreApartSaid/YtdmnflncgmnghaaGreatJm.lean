/-
  Mathematics of items as they were at each version: rows, what is there at a version, sweeps. No program stands here.
-/
import Derived.Test.YtdmnflncgmnghaaGreatMn
namespace Go.Proofs.YtdmnflncgmnghaaGreat

structure RowV where
  v : Nat
  gone : Bool
  item : ItemV
def RowV.hit (id v : Nat) (r : RowV) : Bool := r.item.id == id && decide (r.v ≤ v)
/-- The place of the last one, counted from the other end of the turned list; -1: none. -/
def lastR (p : RowV → Bool) : List RowV → Int
  | [] => -1
  | x :: r => if p x then (r.length : Int) else lastR p r
/-- The place of an id's row at a version. -/
def atP (L : List RowV) (id v : Nat) : Int := lastR (RowV.hit id v) L.reverse
theorem atP_nil (id v : Nat) : atP [] id v = -1 := rfl
theorem atP_snoc (L : List RowV) (r : RowV) (id v : Nat) : atP (L ++ [r]) id v = if r.hit id v then (L.length : Int) else atP L id v := by
  simp [atP, lastR]
theorem atP_next {L : List RowV} {i : Nat} {r : RowV} (h : L[i]? = some r) (id v : Nat) : atP (L.take (i + 1)) id v = if r.hit id v then (i : Int) else atP (L.take i) id v := by
  have hi := (List.getElem?_eq_some_iff.1 h).1
  have e : L.take (i + 1) = L.take i ++ [r] := by rw [List.take_add_one, h]; rfl
  rw [e, atP_snoc, List.length_take, Nat.min_eq_left (Nat.le_of_lt hi)]
theorem lastR_lt (p : RowV → Bool) : ∀ l, -1 ≤ lastR p l ∧ lastR p l < l.length := by
  intro l
  induction l with
  | nil => exact ⟨Int.le_refl _, by simp [lastR]⟩
  | cons x r ih =>
    unfold lastR
    simp only [List.length_cons]
    split
    · omega
    · omega
theorem atP_lt (L : List RowV) (id v : Nat) : -1 ≤ atP L id v ∧ atP L id v < L.length := by
  have := lastR_lt (RowV.hit id v) L.reverse
  rw [List.length_reverse] at this
  exact this
theorem lastR_hit (p : RowV → Bool) : ∀ (l : List RowV) (i : Nat), lastR p l = i → ∃ r, l.reverse[i]? = some r ∧ p r = true := by
  intro l
  induction l with
  | nil =>
    intro i h
    unfold lastR at h
    omega
  | cons x r ih =>
    intro i h
    unfold lastR at h
    split at h
    · rename_i hp
      obtain rfl : r.length = i := by omega
      exact ⟨x, by simp, hp⟩
    · obtain ⟨y, hy, hp⟩ := ih i h
      refine ⟨y, ?_, hp⟩
      have hl := (List.getElem?_eq_some_iff.1 hy).1
      rw [List.reverse_cons, List.getElem?_append_left hl]
      exact hy
theorem atP_hit {L : List RowV} {id v i : Nat} (h : atP L id v = i) : ∃ r, L[i]? = some r ∧ r.item.id = id ∧ r.v ≤ v := by
  obtain ⟨r, hr, hp⟩ := lastR_hit _ _ i h
  rw [List.reverse_reverse] at hr
  refine ⟨r, hr, ?_⟩
  simpa [RowV.hit] using hp
/-- The row that is there: it doesn't say gone. -/
def thereP (L : List RowV) (id v : Nat) : Option RowV := if atP L id v < 0 then none else (L[(atP L id v).toNat]?).filter fun r => !r.gone
structure PastV where
  rows : List RowV
  last : Nat
  floor : Nat
  kept : List Nat
def PastV.known (p : PastV) (v : Nat) : Bool := p.kept.contains v || decide (p.floor ≤ v)
def PastV.new : PastV := ⟨[], 0, 0, []⟩
/-- A row is laid, or an error's number. -/
def PastV.lay (p : PastV) (r : RowV) : PastV × Nat :=
  if r.v = 0 ∨ r.v < p.last then (p, 1)
  else if r.gone = true ∧ thereP p.rows r.item.id r.v = none then (p, 2)
  else if 1024 ≤ p.rows.length then (p, 4)
  else ({ p with rows := p.rows ++ [r], last := r.v }, 0)
def PastV.get (p : PastV) (id v : Nat) : ItemV × Nat :=
  if p.known v then match thereP p.rows id v with
    | some r => (r.item, 0)
    | none => (⟨0, [], []⟩, 2)
  else (⟨0, [], []⟩, 80)
/-- A thing into a list by rising keys. -/
def insG {α : Type} (key : α → Nat) (x : α) : List α → List α
  | [] => [x]
  | y :: l => if key x < key y then x :: y :: l else y :: insG key x l
/-- Is there a greater one? -/
def anyG {α : Type} (key : α → Nat) (x : α) (l : List α) : Bool := l.any fun y => decide (key x < key y)
theorem insG_map {α β : Type} (key : α → Nat) (key' : β → Nat) (f : α → β) (h : ∀ a, key' (f a) = key a) (x : α) : ∀ l, (insG key x l).map f = insG key' (f x) (l.map f) := by
  intro l
  induction l with
  | nil => rfl
  | cons y l ih =>
    unfold insG
    simp only [List.map_cons, h]
    split
    · rfl
    · rw [← ih]
      rfl
theorem insG_len {α : Type} (key : α → Nat) (x : α) : ∀ l, (insG key x l).length = l.length + 1 := by
  intro l
  induction l with
  | nil => rfl
  | cons y l ih =>
    unfold insG
    split
    · rfl
    · simp [ih]
theorem insG_mem {α : Type} (key : α → Nat) (x : α) : ∀ l z, z ∈ insG key x l → z = x ∨ z ∈ l := by
  intro l
  induction l with
  | nil =>
    intro z h
    simpa [insG] using h
  | cons y l ih =>
    intro z h
    unfold insG at h
    split at h
    · simpa using h
    · rcases List.mem_cons.1 h with h | h
      · exact .inr (by simp [h])
      · rcases ih z h with h | h
        · exact .inl h
        · exact .inr (List.mem_cons_of_mem _ h)
theorem insG_none {α : Type} (key : α → Nat) (x : α) : ∀ l, anyG key x l = false → insG key x l = l ++ [x] := by
  intro l
  induction l with
  | nil => exact fun _ => rfl
  | cons y l ih =>
    intro h
    simp only [anyG, List.any_cons, Bool.or_eq_false_iff, decide_eq_false_iff_not] at h
    unfold insG
    rw [if_neg h.1, ih h.2]
    rfl
theorem insG_new {α : Type} (key : α → Nat) (x y : α) : ∀ l, anyG key x l = false → key x < key y → insG key x (l ++ [y]) = l ++ [x] ++ [y] := by
  intro l
  induction l with
  | nil =>
    intro _ h
    simp [insG, h]
  | cons z l ih =>
    intro h hy
    simp only [anyG, List.any_cons, Bool.or_eq_false_iff, decide_eq_false_iff_not] at h
    rw [List.cons_append]
    unfold insG
    rw [if_neg h.1, ih h.2 hy]
    rfl
theorem insG_old {α : Type} (key : α → Nat) (x y : α) : ∀ l, anyG key x l = true → insG key x (l ++ [y]) = insG key x l ++ [y] := by
  intro l
  induction l with
  | nil =>
    intro h
    cases h
  | cons z l ih =>
    intro h
    rw [List.cons_append]
    unfold insG
    split
    · rfl
    · rename_i hz
      simp only [anyG, List.any_cons, Bool.or_eq_true, decide_eq_true_eq] at h
      rcases h with h | h
      · exact absurd h hz
      · rw [ih (by simpa [anyG] using h)]
        rfl
/-- The state of going through a list to lay x in its place. -/
def insS {α : Type} (key : α → Nat) (x : α) (l : List α) : List α := if anyG key x l then insG key x l else l
theorem anyG_snoc {α : Type} (key : α → Nat) (x y : α) (l : List α) : anyG key x (l ++ [y]) = (anyG key x l || decide (key x < key y)) := by simp [anyG]
theorem insS_new {α : Type} (key : α → Nat) (x y : α) (l : List α) (h : anyG key x l = false) (hy : key x < key y) : insS key x (l ++ [y]) = insS key x l ++ [x] ++ [y] := by
  unfold insS
  rw [anyG_snoc, h, decide_eq_true hy, Bool.false_or, if_pos rfl, insG_new key x y l h hy]
  simp
theorem insS_skip {α : Type} (key : α → Nat) (x y : α) (l : List α) (h : anyG key x l = true ∨ ¬ key x < key y) : insS key x (l ++ [y]) = insS key x l ++ [y] := by
  unfold insS
  rw [anyG_snoc]
  by_cases ha : anyG key x l = true
  · rw [ha, Bool.true_or, if_pos rfl, if_pos rfl, insG_old key x y l ha]
  · have ha' : anyG key x l = false := by simpa using ha
    rcases h with h | h
    · exact absurd h ha
    · rw [ha', decide_eq_false h]
      simp
theorem insS_end {α : Type} (key : α → Nat) (x : α) (l : List α) : insG key x l = if anyG key x l then insS key x l else insS key x l ++ [x] := by
  unfold insS
  by_cases ha : anyG key x l = true
  · rw [ha]
    rfl
  · have ha' : anyG key x l = false := by simpa using ha
    rw [ha', insG_none key x l ha']
    rfl
def insI (x : ItemV) (l : List ItemV) : List ItemV := insG ItemV.id x l
/-- What of the first i rows is there at v. -/
def allI (L : List RowV) (v : Nat) : Nat → List ItemV
  | 0 => []
  | i + 1 => match L[i]? with
    | none => allI L v i
    | some r => if atP L r.item.id v = i ∧ r.gone = false then insI r.item (allI L v i) else allI L v i
def PastV.all (p : PastV) (v : Nat) : List ItemV × Nat := if p.known v then (allI p.rows v p.rows.length, 0) else ([], 80)
def needP (L : List RowV) (last : Nat) (kept : List Nat) (r : RowV) (i : Nat) : Bool := decide (atP L r.item.id last = i) || kept.any fun k => decide (atP L r.item.id k = i)
/-- What a sweep leaves of the first i rows. -/
def sweepI (L : List RowV) (last : Nat) (kept : List Nat) : Nat → List RowV
  | 0 => []
  | i + 1 => match L[i]? with
    | none => sweepI L last kept i
    | some r => if needP L last kept r i && (!r.gone || (sweepI L last kept i).any fun s => s.item.id == r.item.id) then sweepI L last kept i ++ [r] else sweepI L last kept i
def PastV.sweep (p : PastV) (keep : List Nat) : PastV × Nat :=
  let kept := keep.filter p.known
  let l := sweepI p.rows p.last kept p.rows.length
  (⟨l, p.last, p.last, kept⟩, p.rows.length - l.length)
end Go.Proofs.YtdmnflncgmnghaaGreat
