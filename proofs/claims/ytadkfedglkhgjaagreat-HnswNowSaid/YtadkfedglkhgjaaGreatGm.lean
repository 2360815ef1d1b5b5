/-
  Plain words and lemmas on lists of strings: the order of bytes, lists that rise, sets as rising lists; no program stands here.
-/
import Derived.Test.YtadkfedglkhgjaaGreatGs
import Derived.Lib.SlicesCompact
namespace Go.Proofs.YtadkfedglkhgjaaGreat

/-- Byte by byte: is a ahead of b? -/
def ltB (a b : ByteArray) : Bool := Op.bytesLess a.toList b.toList

theorem bytes_less : ∀ (x y : List UInt8), Op.bytesLess x y = decide (x < y)
  | [], [] => by simp [Op.bytesLess]
  | _ :: _, [] => by simp [Op.bytesLess]
  | [], _ :: _ => by simp [Op.bytesLess]
  | a :: x, b :: y => by
    rw [Op.bytesLess, bytes_less x y]
    by_cases h : a < b
    · simp [List.cons_lt_cons_iff, h]
    · by_cases h' : a = b
      · simp [h']
      · simp [List.cons_lt_cons_iff, h, h']

theorem ltB_iff {a b : ByteArray} : ltB a b = true ↔ a.toList < b.toList := by rw [ltB, bytes_less, decide_eq_true_eq]
theorem toList_inj {a b : ByteArray} : a.toList = b.toList ↔ a = b := by rw [← Lib.bytes_beq_iff, beq_iff_eq]
theorem ltB_irrefl (a : ByteArray) : ltB a a = false := by
  rw [← Bool.not_eq_true, ltB_iff]
  exact List.lt_irrefl _
theorem ltB_trans {a b c : ByteArray} (h : ltB a b = true) (k : ltB b c = true) : ltB a c = true := by
  rw [ltB_iff] at *
  exact List.lt_trans h k
theorem ltB_ne {a b : ByteArray} (h : ltB a b = true) : a ≠ b := by
  rintro rfl
  rw [ltB_irrefl] at h
  cases h
theorem ltB_total {a b : ByteArray} (h : ltB a b = false) (k : a ≠ b) : ltB b a = true := by
  rw [ltB_iff]
  rw [← Bool.not_eq_true, ltB_iff] at h
  have h' : b.toList ≤ a.toList := List.not_lt.1 h
  rcases Classical.em (b.toList < a.toList) with h1 | h1
  · exact h1
  · exact absurd (toList_inj.1 (List.le_antisymm (List.not_lt.1 h1) h')) k
theorem ltB_asymm {a b : ByteArray} (h : ltB a b = true) : ltB b a = false := by
  rw [← Bool.not_eq_true]
  intro k
  have := ltB_trans h k
  rw [ltB_irrefl] at this
  cases this
/-- Go's '<=' on two strings. -/
theorem leq_eq (a b : ByteArray) : (Op.bytesLess a.toList b.toList || a.toList == b.toList) = !ltB b a := by
  show (ltB a b || _) = _
  by_cases h : ltB a b = true
  · rw [h, ltB_asymm h]; rfl
  · rw [Bool.not_eq_true] at h
    rw [h]
    by_cases k : a = b
    · subst k
      simp [ltB_irrefl]
    · have e : (a.toList == b.toList) = false := (Lib.bytes_beq_false_iff a b).2 k
      rw [e, ltB_total h k]; rfl

/-- A list in which each is greater than those ahead of it. -/
def Rising (l : List ByteArray) : Prop := l.Pairwise (fun a b => ltB a b = true)

theorem risingS_ext : ∀ {l m : List ByteArray}, Rising l → Rising m → (∀ x, x ∈ l ↔ x ∈ m) → l = m
  | [], [], _, _, _ => rfl
  | [], y :: m, _, _, h => by have := (h y).2 (by simp); simp at this
  | x :: l, [], _, _, h => by have := (h x).1 (by simp); simp at this
  | x :: l, y :: m, hl, hm, h => by
    have hl' := List.pairwise_cons.1 hl
    have hm' := List.pairwise_cons.1 hm
    have e : x = y := by
      rcases List.mem_cons.1 ((h x).1 (by simp)) with h1 | h1
      · exact h1
      · rcases List.mem_cons.1 ((h y).2 (by simp)) with h2 | h2
        · exact h2.symm
        · have a1 := hm'.1 x h1
          have a2 := hl'.1 y h2
          rw [ltB_asymm a1] at a2
          cases a2
    subst e
    congr 1
    refine risingS_ext hl'.2 hm'.2 fun z => ?_
    constructor
    · intro hz
      rcases List.mem_cons.1 ((h z).1 (by simp [hz])) with h1 | h1
      · subst h1; exact absurd rfl (ltB_ne (hl'.1 _ hz))
      · exact h1
    · intro hz
      rcases List.mem_cons.1 ((h z).2 (by simp [hz])) with h1 | h1
      · subst h1; exact absurd rfl (ltB_ne (hm'.1 _ hz))
      · exact h1

/-- One more, where it belongs; once. -/
def insU (x : ByteArray) : List ByteArray → List ByteArray
  | [] => [x]
  | y :: l => if ltB x y then x :: y :: l else if x = y then y :: l else y :: insU x l

theorem mem_insU {x z : ByteArray} {l : List ByteArray} : z ∈ insU x l ↔ z = x ∨ z ∈ l := by
  induction l with
  | nil => simp [insU]
  | cons y l ih =>
    rw [insU]
    split
    · simp
    · split
      · next h => subst h; simp
      · simp [ih]
        constructor
        · rintro (h | h | h) <;> simp [h]
        · rintro (h | h | h) <;> simp [h]

theorem rising_insU {x : ByteArray} {l : List ByteArray} (h : Rising l) : Rising (insU x l) := by
  induction l with
  | nil => exact List.pairwise_singleton _ _
  | cons y l ih =>
    have h' := List.pairwise_cons.1 h
    rw [insU]
    split
    · next hlt =>
      refine List.pairwise_cons.2 ⟨fun z hz => ?_, h⟩
      rcases List.mem_cons.1 hz with rfl | hz
      · exact hlt
      · exact ltB_trans hlt (h'.1 z hz)
    · next hlt =>
      split
      · exact h
      · next hne =>
        refine List.pairwise_cons.2 ⟨fun z hz => ?_, ih h'.2⟩
        rcases mem_insU.1 hz with rfl | hz
        · exact ltB_total (by simpa using hlt) hne
        · exact h'.1 z hz

/-- The strings of a list, each once, rising. -/
def sortU (l : List ByteArray) : List ByteArray := l.foldl (fun acc x => insU x acc) []

theorem foldl_insU (l acc : List ByteArray) (h : Rising acc) : Rising (l.foldl (fun acc x => insU x acc) acc) ∧ ∀ z, z ∈ l.foldl (fun acc x => insU x acc) acc ↔ z ∈ acc ∨ z ∈ l := by
  induction l generalizing acc with
  | nil => exact ⟨h, by simp⟩
  | cons x l ih =>
    obtain ⟨h1, h2⟩ := ih (insU x acc) (rising_insU h)
    refine ⟨h1, fun z => ?_⟩
    rw [List.foldl_cons, h2, mem_insU, List.mem_cons]
    constructor
    · rintro ((h | h) | h) <;> simp [h]
    · rintro (h | h | h) <;> simp [h]
theorem rising_sortU (l : List ByteArray) : Rising (sortU l) := (foldl_insU l [] List.Pairwise.nil).1
theorem mem_sortU {l : List ByteArray} {z : ByteArray} : z ∈ sortU l ↔ z ∈ l := by
  rw [sortU, (foldl_insU l [] List.Pairwise.nil).2]; simp
theorem sortU_same {l m : List ByteArray} (h : ∀ z, z ∈ l ↔ z ∈ m) : sortU l = sortU m := risingS_ext (rising_sortU l) (rising_sortU m) fun z => by rw [mem_sortU, mem_sortU, h]
theorem sortU_of {l m : List ByteArray} (hm : Rising m) (h : ∀ z, z ∈ m ↔ z ∈ l) : m = sortU l := risingS_ext hm (rising_sortU l) fun z => by rw [mem_sortU, h]
theorem sortU_rising {l : List ByteArray} (h : Rising l) : sortU l = l := (sortU_of h fun _ => Iff.rfl).symm
theorem sortU_snoc (l : List ByteArray) (x : ByteArray) : sortU (l ++ [x]) = insU x (sortU l) := by simp [sortU, List.foldl_append]
theorem insU_mem {x : ByteArray} {l : List ByteArray} (h : Rising l) (hx : x ∈ l) : insU x l = l := risingS_ext (rising_insU h) h fun z => by
  rw [mem_insU]
  exact ⟨fun hz => hz.elim (fun e => e ▸ hx) id, .inr⟩
theorem insU_len {x : ByteArray} {l : List ByteArray} : l.length ≤ (insU x l).length ∧ (insU x l).length ≤ l.length + 1 := by
  induction l with
  | nil => simp [insU]
  | cons y l ih =>
    rw [insU]
    split
    · simp
    · split
      · simp
      · simp; exact ih
theorem foldl_len (l acc : List ByteArray) : acc.length ≤ (l.foldl (fun acc x => insU x acc) acc).length ∧ (l.foldl (fun acc x => insU x acc) acc).length ≤ acc.length + l.length := by
  induction l generalizing acc with
  | nil => simp
  | cons x l ih =>
    have h1 := ih (insU x acc)
    have h2 := insU_len (x := x) (l := acc)
    rw [List.foldl_cons, List.length_cons]
    omega
theorem sortU_len (l : List ByteArray) : (sortU l).length ≤ l.length := by
  have := (foldl_len l []).2
  simpa [sortU] using this
theorem sortU_take (l : List ByteArray) (i : Nat) : (sortU (l.take i)).length ≤ (sortU l).length := by
  have h := (foldl_len (l.drop i) (sortU (l.take i))).1
  have e : sortU l = (l.drop i).foldl (fun acc x => insU x acc) (sortU (l.take i)) := by
    conv => lhs; rw [← List.take_append_drop i l, sortU, List.foldl_append]
    rfl
  rw [e]
  exact h

/-- What is done with a place of tags that may be. -/
def goodAt (l : List ByteArray) (i : Nat) : Bool := decide (1 ≤ (strAt l i).size) && decide ((strAt l i).size ≤ 16) && (decide (i = 0) || ltB (strAt l (i - 1)) (strAt l i))
/-- Tags that may be. -/
def fineB (l : List ByteArray) : Bool := decide (l.length ≤ 8) && (List.range l.length).all (goodAt l)

theorem fineB_iff {l : List ByteArray} : fineB l = true ↔ l.length ≤ 8 ∧ ∀ i, i < l.length → goodAt l i = true := by
  simp [fineB]
theorem fineB_not {l : List ByteArray} {i : Nat} (hi : i < l.length) (h : goodAt l i = false) : fineB l = false := by
  rw [← Bool.not_eq_true, fineB_iff]
  rintro ⟨_, h2⟩
  rw [h2 i hi] at h
  cases h
theorem fineB_long {l : List ByteArray} (h : 8 < l.length) : fineB l = false := by
  rw [← Bool.not_eq_true, fineB_iff]
  rintro ⟨h1, _⟩
  omega

theorem rising_of_good {l : List ByteArray} (h : ∀ i, i < l.length → goodAt l i = true) : Rising l := by
  have step : ∀ i, i + 1 < l.length → ltB (strAt l i) (strAt l (i + 1)) = true := fun i hi => by
    have := h (i + 1) hi
    simp [goodAt] at this
    exact this.2
  have far : ∀ d i, i + d + 1 < l.length → ltB (strAt l i) (strAt l (i + d + 1)) = true := by
    intro d
    induction d with
    | zero => intro i hi; exact step i hi
    | succ d ih => intro i hi; exact ltB_trans (ih i (by omega)) (step (i + d + 1) (by omega))
  refine List.pairwise_iff_getElem.2 fun i j hi hj hij => ?_
  have := far (j - i - 1) i (by omega)
  rw [show i + (j - i - 1) + 1 = j by omega] at this
  simpa [strAt, List.getD, hi, hj] using this

/-- What a filter matches. -/
structure Filt where
  all : List ByteArray
  any : List ByteArray
  none : List ByteArray
def matchB (f : Filt) (l : List ByteArray) : Bool := f.all.all (Lib.containsS l) && !f.none.any (Lib.containsS l) && (f.any.isEmpty || f.any.any (Lib.containsS l))

/-- A sorted list, its runs cut down to one each. -/
theorem compact_rising (zs : List (List UInt8)) (h : zs.Pairwise (· ≤ ·)) : (Lib.compact zs).Pairwise (· < ·) ∧ ∀ x, x ∈ Lib.compact zs ↔ x ∈ zs := by
  have hle : ∀ i j, i ≤ j → j < zs.length → zs.toArray[i]! ≤ zs.toArray[j]! := by
    intro i j hij hj
    rcases Nat.lt_or_eq_of_le hij with h1 | rfl
    · have := List.pairwise_iff_getElem.1 h i j (by omega) hj h1
      simpa [getElem!_pos, hj, Nat.lt_trans h1 hj] using this
    · exact List.le_refl _
  have key : ∀ m, m ≤ zs.length → (Lib.compactUpTo zs.toArray m).Pairwise (· < ·) ∧ (∀ x, x ∈ Lib.compactUpTo zs.toArray m → ∃ j, j < m ∧ x = zs.toArray[j]!) ∧ ∀ j, j < m → zs.toArray[j]! ∈ Lib.compactUpTo zs.toArray m := by
    intro m
    induction m with
    | zero => intro _; exact ⟨by simp [Lib.compactUpTo], by simp [Lib.compactUpTo], fun j hj => by omega⟩
    | succ m ih =>
      intro hm
      obtain ⟨h1, h2, h3⟩ := ih (by omega)
      rw [Lib.compactUpTo_succ]
      by_cases hk : Lib.keeps zs.toArray m = true
      · rw [if_pos hk]
        refine ⟨?_, ?_, ?_⟩
        · rw [List.pairwise_append]
          refine ⟨h1, List.pairwise_singleton _ _, fun a ha b hb => ?_⟩
          have hb := List.mem_singleton.1 hb
          subst hb
          obtain ⟨j, hj, rfl⟩ := h2 a ha
          have hk' := of_decide_eq_true hk
          rcases hk' with rfl | hk'
          · omega
          · have e1 := hle j (m - 1) (by omega) (by omega)
            have e2 := hle (m - 1) m (by omega) (by omega)
            have e3 : zs.toArray[m - 1]! < zs.toArray[m]! := by
              rcases Classical.em (zs.toArray[m - 1]! < zs.toArray[m]!) with h | h
              · exact h
              · exact absurd (List.le_antisymm (List.not_lt.1 h) e2) hk'
            rcases Classical.em (zs.toArray[j]! < zs.toArray[m]!) with h | h
            · exact h
            · exact absurd e3 (List.not_lt.2 (List.le_trans (List.not_lt.1 h) e1))
        · intro x hx
          rcases List.mem_append.1 hx with hx | hx
          · obtain ⟨j, hj, e⟩ := h2 x hx
            exact ⟨j, by omega, e⟩
          · exact ⟨m, by omega, List.mem_singleton.1 hx⟩
        · intro j hj
          rcases Nat.lt_or_eq_of_le (Nat.le_of_lt_succ hj) with h | rfl
          · exact List.mem_append_left _ (h3 j h)
          · simp
      · rw [if_neg hk, List.append_nil]
        refine ⟨h1, fun x hx => ?_, fun j hj => ?_⟩
        · obtain ⟨j, hj, e⟩ := h2 x hx
          exact ⟨j, by omega, e⟩
        · rcases Nat.lt_or_eq_of_le (Nat.le_of_lt_succ hj) with h | rfl
          · exact h3 j h
          · have hk' : ¬ (j = 0 ∨ zs.toArray[j]! ≠ zs.toArray[j - 1]!) := fun hh => hk (decide_eq_true hh)
            have e : zs.toArray[j]! = zs.toArray[j - 1]! := Classical.byContradiction fun hh => hk' (.inr hh)
            have e0 : j ≠ 0 := fun hh => hk' (.inl hh)
            rw [e]
            exact h3 (j - 1) (by omega)
  obtain ⟨h1, h2, h3⟩ := key zs.length (Nat.le_refl _)
  refine ⟨h1, fun x => ⟨fun hx => ?_, fun hx => ?_⟩⟩
  · obtain ⟨j, hj, rfl⟩ := h2 x hx
    simp [getElem!_pos, hj]
  · obtain ⟨j, hj, rfl⟩ := List.mem_iff_getElem.1 hx
    have := h3 j hj
    rw [Lib.compact]
    simpa [getElem!_pos, hj] using this

/-- Sorted and cut down: the set, rising. -/
theorem sorted_compact (l : List ByteArray) : (Lib.compact ((l.map (·.data.toList)).mergeSort fun x y => decide (x ≤ y))) = (sortU l).map (·.data.toList) := by
  have tr : ∀ a b c : List UInt8, decide (a ≤ b) = true → decide (b ≤ c) = true → decide (a ≤ c) = true := fun a b c h1 h2 => by simp only [decide_eq_true_eq] at *; exact List.le_trans h1 h2
  have to : ∀ a b : List UInt8, (decide (a ≤ b) || decide (b ≤ a)) = true := fun a b => by simp only [Bool.or_eq_true, decide_eq_true_eq]; exact List.le_total a b
  have hs : ((l.map (·.data.toList)).mergeSort fun x y => decide (x ≤ y)).Pairwise (· ≤ ·) := (List.pairwise_mergeSort tr to _).imp (fun h => by simpa using h)
  obtain ⟨h1, h2⟩ := compact_rising _ hs
  have hm : ∀ x, x ∈ Lib.compact ((l.map (·.data.toList)).mergeSort fun x y => decide (x ≤ y)) ↔ x ∈ l.map (·.data.toList) := fun x => by rw [h2, List.mem_mergeSort]
  generalize Lib.compact ((l.map (·.data.toList)).mergeSort fun x y => decide (x ≤ y)) = R at h1 hm
  have hR : R = (R.map (fun x => (⟨x.toArray⟩ : ByteArray))).map (·.data.toList) := by simp [Function.comp_def]
  have e : R.map (fun x => (⟨x.toArray⟩ : ByteArray)) = sortU l := by
    refine sortU_of ?_ ?_
    · unfold Rising
      rw [List.pairwise_map]
      refine h1.imp fun {a b} h => ?_
      rw [ltB_iff, ByteArray.toList_eq, ByteArray.toList_eq]
      simpa using h
    · intro z
      constructor
      · intro hz
        obtain ⟨x, hx, rfl⟩ := List.mem_map.1 hz
        obtain ⟨y, hy, rfl⟩ := List.mem_map.1 ((hm x).1 hx)
        simpa using hy
      · intro hz
        exact List.mem_map.2 ⟨z.data.toList, (hm _).2 (List.mem_map.2 ⟨z, hz, rfl⟩), by simp⟩
  rw [hR, e]
end Go.Proofs.YtadkfedglkhgjaaGreat
