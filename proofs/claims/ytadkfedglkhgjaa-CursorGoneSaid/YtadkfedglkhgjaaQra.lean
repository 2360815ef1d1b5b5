/-
  Layer 14, plain words: cursors, and a table of them, as pure functions (no program stands here); the document's cursors, which have the ends of all their pages.
-/
import Derived.Test.YtadkfedglkhgjaaBk
namespace Go.Proofs.Ytadkfedglkhgjaa

/-- The end of a page: whether it has a hit, how far that is, its number. -/
structure EndV where
  has : Bool
  dist : Int
  id : Int
def EndV.nil : EndV := ⟨false, 0, 0⟩
/-- What a cursor asks for: a vector and a filter. -/
structure QryV where
  vec : List Int
  all : List ByteArray
  any : List ByteArray
  none : List ByteArray
structure CurV where
  n : Nat
  owner : Nat
  pin : Int
  q : QryV
  used : Nat
  told : Nat
  ahead : EndV
  last : EndV
structure CTab where
  cs : List CurV
  last : Nat
  idle : Nat
def CurV.may (c : CurV) (page : Nat) : Bool := decide (0 < page ∧ (page = c.told ∨ page = c.told + 1))
def CurV.behind (c : CurV) (page : Nat) : EndV := if page = c.told then c.ahead else c.last
def endOf (e : EndV) (l : List (Int × Int)) : EndV :=
  match l.getLast? with
  | some h => ⟨true, h.1, h.2⟩
  | none => e
def CurV.tell (c : CurV) (page : Nat) (l : List (Int × Int)) : CurV := { c with ahead := c.behind page, last := endOf (c.behind page) l, told := page }
def CTab.at (s : CTab) (n : Nat) : Option CurV := s.cs.find? fun c => decide (c.n = n)
def CTab.own (s : CTab) (owner n : Nat) : Option CurV := s.cs.find? fun c => decide (c.n = n ∧ c.owner = owner)
def CTab.turn (s : CTab) (c' : CurV) : CTab := { s with cs := s.cs.map fun c => if c.n = c'.n then c' else c }
def CTab.cut (s : CTab) (n : Nat) : CTab := { s with cs := s.cs.filter fun c => decide (c.n ≠ n) }
def CTab.start (s : CTab) (owner : Nat) (pin : Int) (q : QryV) (now : Nat) : CTab := { s with cs := s.cs ++ [⟨s.last + 1, owner, pin, q, now, 0, EndV.nil, EndV.nil⟩], last := s.last + 1 }
def CTab.takeE (s : CTab) (owner n page : Nat) : Nat :=
  match s.own owner n with
  | none => 140
  | some c => if c.may page then 0 else 1
def CTab.take (s : CTab) (owner n page now : Nat) : CTab :=
  match s.own owner n with
  | none => s
  | some c => if c.may page then s.turn { c with used := now } else s
def CTab.told (s : CTab) (n page : Nat) (l : List (Int × Int)) : CTab :=
  match s.at n with
  | none => s
  | some c => if c.may page then s.turn (c.tell page l) else s
/-- Those for which q holds go. -/
def CTab.less (s : CTab) (q : CurV → Bool) : CTab := { s with cs := s.cs.filter fun c => !q c }
def CTab.pins (s : CTab) (q : CurV → Bool) : List Int := (s.cs.filter q).map (·.pin)
def isOwner (owner : Nat) (c : CurV) : Bool := decide (c.owner = owner)
def isLate (idle now : Nat) (c : CurV) : Bool := decide (c.used ≤ now ∧ idle < now - c.used)
/-- The one that was used at the least tick; of several the one of the least number. -/
def LeastC (l : List CurV) (c : CurV) : Prop := c ∈ l ∧ ∀ d ∈ l, d.n ≠ c.n → c.used < d.used ∨ (c.used = d.used ∧ c.n < d.n)
/-- What is so as long as no more than k things were done. -/
structure CTab.Few (k : Nat) (s : CTab) : Prop where
  last : s.last ≤ k
  low : ∀ c ∈ s.cs, 1 ≤ c.n ∧ c.n ≤ s.last
  told : ∀ c ∈ s.cs, c.told ≤ k
  eight : s.cs.length ≤ 8
  rising : s.cs.Pairwise fun c d => c.n < d.n

section
variable {k k' n page owner now : Nat} {s : CTab} {c : CurV} {l : List (Int × Int)} {pin : Int} {qq : QryV}
theorem CTab.Few.mono (h : s.Few k) (hk : k ≤ k') : s.Few k' := ⟨Nat.le_trans h.last hk, h.low, fun u hu => Nat.le_trans (h.told u hu) hk, h.eight, h.rising⟩
theorem CTab.few_new (k idle : Nat) : (⟨[], 0, idle⟩ : CTab).Few k := ⟨Nat.zero_le _, by simp, by simp, by simp, by simp⟩
theorem CTab.Few.start (h : s.Few k) (hl : s.cs.length < 8) : (s.start owner pin qq now).Few (k + 1) := by
  refine ⟨Nat.succ_le_succ h.last, fun u hu => ?_, fun u hu => ?_, by simp [CTab.start]; omega, ?_⟩
  · rcases List.mem_append.1 hu with hu | hu
    · have := h.low u hu
      exact ⟨this.1, Nat.le_succ_of_le this.2⟩
    · rw [List.mem_singleton.1 hu]
      exact ⟨Nat.succ_le_succ (Nat.zero_le _), Nat.le_refl _⟩
  · rcases List.mem_append.1 hu with hu | hu
    · exact Nat.le_succ_of_le (h.told u hu)
    · rw [List.mem_singleton.1 hu]
      exact Nat.zero_le _
  · refine List.pairwise_append.2 ⟨h.rising, by simp, fun u hu v hv => ?_⟩
    rw [List.mem_singleton.1 hv]
    exact Nat.lt_succ_of_le (h.low u hu).2
theorem CTab.Few.fewer {q : CurV → Bool} (h : s.Few k) : ({ s with cs := s.cs.filter q } : CTab).Few k :=
  ⟨h.last, fun u hu => h.low u (List.mem_filter.1 hu).1, fun u hu => h.told u (List.mem_filter.1 hu).1, Nat.le_trans (List.length_filter_le _ _) h.eight, h.rising.filter _⟩
theorem CTab.Few.cut (h : s.Few k) : (s.cut n).Few k := h.fewer
theorem CTab.Few.less {q : CurV → Bool} (h : s.Few k) : (s.less q).Few k := h.fewer
theorem CTab.turn_nums (s : CTab) (c' : CurV) : (s.turn c').cs.map (·.n) = s.cs.map (·.n) := by
  unfold CTab.turn
  simp only [List.map_map]
  refine List.map_congr_left fun d _ => ?_
  simp only [Function.comp]
  split
  · rename_i e
    exact e.symm
  · rfl
theorem CTab.Few.turn {c' : CurV} (h : s.Few k) (ht : c'.told ≤ k) : (s.turn c').Few k := by
  have hn := s.turn_nums c'
  have hl : (s.turn c').cs.length = s.cs.length := by simp [CTab.turn]
  refine ⟨h.last, fun u hu => ?_, fun u hu => ?_, by rw [hl]; exact h.eight, ?_⟩
  · have h1 : u.n ∈ (s.turn c').cs.map (·.n) := List.mem_map.2 ⟨u, hu, rfl⟩
    rw [hn] at h1
    obtain ⟨v, hv, e⟩ := List.mem_map.1 h1
    have := h.low v hv
    rw [e] at this
    exact this
  · obtain ⟨v, hv, rfl⟩ := List.mem_map.1 hu
    split
    · exact ht
    · exact h.told v hv
  · have h1 : (s.cs.map (·.n)).Pairwise (· < ·) := by
      rw [List.pairwise_map]
      exact h.rising
    rw [← hn, List.pairwise_map] at h1
    exact h1
theorem CTab.at_some (h : s.at n = some c) : c ∈ s.cs ∧ c.n = n := ⟨List.mem_of_find?_eq_some h, by have := List.find?_some h; simpa using this⟩
theorem CTab.at_none (h : s.at n = none) : ∀ c ∈ s.cs, c.n ≠ n := fun c hc e => List.find?_eq_none.1 h c hc (decide_eq_true e)
theorem CTab.own_some (h : s.own owner n = some c) : c ∈ s.cs ∧ c.n = n ∧ c.owner = owner := ⟨List.mem_of_find?_eq_some h, by have := List.find?_some h; simpa using this⟩
theorem CTab.own_none (h : s.own owner n = none) : ∀ c ∈ s.cs, ¬ (c.n = n ∧ c.owner = owner) := fun c hc e => List.find?_eq_none.1 h c hc (decide_eq_true e)
theorem CTab.Few.uniq (h : s.Few k) {a b : CurV} (ha : a ∈ s.cs) (hb : b ∈ s.cs) (e : a.n = b.n) : a = b := by
  have h1 := h.rising
  obtain ⟨i, hi, rfl⟩ := List.getElem_of_mem ha
  obtain ⟨j, hj, rfl⟩ := List.getElem_of_mem hb
  rcases Nat.lt_trichotomy i j with hh | hh | hh
  · have := List.pairwise_iff_getElem.1 h1 i j hi hj hh
    omega
  · subst hh
    rfl
  · have := List.pairwise_iff_getElem.1 h1 j i hj hi hh
    omega
theorem CTab.Few.at_of (h : s.Few k) (hc : c ∈ s.cs) : s.at c.n = some c := by
  cases e : s.at c.n with
  | none => exact absurd rfl (CTab.at_none e c hc)
  | some d =>
    obtain ⟨h1, h2⟩ := CTab.at_some e
    rw [h.uniq h1 hc h2]
theorem CTab.Few.own_of (h : s.Few k) (hc : c ∈ s.cs) : s.own c.owner c.n = some c := by
  cases e : s.own c.owner c.n with
  | none => exact absurd ⟨rfl, rfl⟩ (CTab.own_none e c hc)
  | some d =>
    obtain ⟨h1, h2, _⟩ := CTab.own_some e
    rw [h.uniq h1 hc h2]
theorem CTab.Few.take (h : s.Few k) : (s.take owner n page now).Few k := by
  unfold CTab.take
  cases e : s.own owner n with
  | none => exact h
  | some c =>
    simp only
    split
    · exact h.turn (by exact h.told c (CTab.own_some e).1)
    · exact h
theorem CTab.Few.tell (h : s.Few k) : (s.told n page l).Few (k + 1) := by
  unfold CTab.told
  cases e : s.at n with
  | none => exact h.mono (Nat.le_succ _)
  | some c =>
    simp only
    split
    · rename_i hm
      refine (h.mono (Nat.le_succ _)).turn ?_
      have h1 := h.told c (CTab.at_some e).1
      simp only [CurV.may, decide_eq_true_eq] at hm
      show page ≤ k + 1
      omega
    · exact h.mono (Nat.le_succ _)
theorem LeastC.uniq {l : List CurV} {a b : CurV} (h : LeastC l a) (h' : LeastC l b) (hl : ∀ c ∈ l, ∀ d ∈ l, c.n = d.n → c = d) : a = b := by
  by_cases e : a.n = b.n
  · exact hl a h.1 b h'.1 e
  · have h1 := h.2 b h'.1 (fun x => e x.symm)
    have h2 := h'.2 a h.1 e
    omega
end

/-- The document's cursor: it has the ends of all its pages, the first one being none's. -/
structure DCurV where
  n : Nat
  owner : Nat
  pin : Int
  q : QryV
  ends : List EndV
  used : Nat
def DCurV.toC (d : DCurV) : CurV := ⟨d.n, d.owner, d.pin, d.q, d.used, d.ends.length - 1, if d.ends.length ≤ 1 then EndV.nil else d.ends.getD (d.ends.length - 2) EndV.nil, d.ends.getD (d.ends.length - 1) EndV.nil⟩
/-- A page's hits are told. -/
def DCurV.tell (d : DCurV) (page : Nat) (l : List (Int × Int)) : DCurV := { d with ends := d.ends.take page ++ [endOf (d.ends.getD (page - 1) EndV.nil) l] }
theorem DCurV.behind {d : DCurV} {page : Nat} (h : d.toC.may page = true) : d.toC.behind page = d.ends.getD (page - 1) EndV.nil := by
  obtain ⟨h0, h1⟩ : 0 < page ∧ (page = d.ends.length - 1 ∨ page = d.ends.length - 1 + 1) := of_decide_eq_true h
  unfold CurV.behind
  rcases h1 with h1 | h1
  · rw [if_pos (show page = d.toC.told from h1)]
    show (if d.ends.length ≤ 1 then EndV.nil else d.ends.getD (d.ends.length - 2) EndV.nil) = _
    rw [if_neg (by omega), show d.ends.length - 2 = page - 1 by omega]
  · rw [if_neg (show ¬ page = d.toC.told from by show ¬ page = d.ends.length - 1; omega)]
    show d.ends.getD (d.ends.length - 1) EndV.nil = _
    rw [show d.ends.length - 1 = page - 1 by omega]
theorem DCurV.toC_of (d : DCurV) {page : Nat} {E : List EndV} {X Y : EndV} (hp : 0 < page) (hE : E.length = page + 1) (h1 : E.getD (page - 1) EndV.nil = X) (h2 : E.getD page EndV.nil = Y) : ({ d with ends := E } : DCurV).toC = ⟨d.n, d.owner, d.pin, d.q, d.used, page, X, Y⟩ := by
  simp only [DCurV.toC, hE]
  rw [if_neg (by omega), show page + 1 - 2 = page - 1 by omega, show page + 1 - 1 = page by omega, h1, h2]
theorem DCurV.tell_toC {d : DCurV} {page : Nat} {l : List (Int × Int)} (h0 : 0 < d.ends.length) (h : d.toC.may page = true) : (d.tell page l).toC = d.toC.tell page l := by
  have hb := DCurV.behind h
  obtain ⟨hp, h1⟩ : 0 < page ∧ (page = d.ends.length - 1 ∨ page = d.ends.length - 1 + 1) := of_decide_eq_true h
  have hle : page ≤ d.ends.length := by omega
  have ht : (d.ends.take page).length = page := by rw [List.length_take]; omega
  refine (d.toC_of hp (E := d.ends.take page ++ [endOf (d.ends.getD (page - 1) EndV.nil) l]) (X := d.ends.getD (page - 1) EndV.nil) (Y := endOf (d.ends.getD (page - 1) EndV.nil) l) (by rw [List.length_append, ht]; rfl) ?_ ?_).trans ?_
  · rw [List.getD_eq_getElem?_getD, List.getElem?_append_left (by omega), List.getElem?_take_of_lt (by omega), List.getD_eq_getElem?_getD]
  · rw [List.getD_eq_getElem?_getD, List.getElem?_append_right (by omega), ht]
    simp
  · unfold CurV.tell
    rw [hb]
    rfl
end Go.Proofs.Ytadkfedglkhgjaa
