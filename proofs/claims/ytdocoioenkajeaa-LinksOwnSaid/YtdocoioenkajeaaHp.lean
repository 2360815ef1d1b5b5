/-
  Plain mathematics: a heap of hits keeps a list that is in order; what is put, taken out and told of it. No program stands here.
-/
import Derived.Test.YtdocoioenkajeaaTo
namespace Go.Proofs.Ytdocoioenkajeaa

theorem ltH_irrefl (a : Hit) : ltH a a = false := by simp [ltH, lessV]
theorem ltH_asymm {a b : Hit} (h : ltH a b = true) : ltH b a = false := by
  simp only [ltH, lessV, Bool.or_eq_true, Bool.and_eq_true, decide_eq_true_eq, Bool.or_eq_false_iff, Bool.and_eq_false_iff, decide_eq_false_iff_not] at *
  omega
theorem ge_trans {a b c : Hit} (h : ltH a b = false) (k : ltH b c = false) : ltH a c = false := by
  simp only [ltH, lessV, Bool.or_eq_false_iff, Bool.and_eq_false_iff, decide_eq_false_iff_not] at *
  omega
theorem ge_antisymm {a b : Hit} (h : ltH a b = false) (k : ltH b a = false) : a = b := by
  simp only [ltH, lessV, Bool.or_eq_false_iff, Bool.and_eq_false_iff, decide_eq_false_iff_not] at *
  exact Prod.ext (by omega) (by omega)
theorem ltH_trans {a b c : Hit} (h : ltH a b = true) (k : ltH c b = false) : ltH a c = true := by
  simp only [ltH, lessV, Bool.or_eq_true, Bool.and_eq_true, decide_eq_true_eq, Bool.or_eq_false_iff, Bool.and_eq_false_iff, decide_eq_false_iff_not] at *
  omega

/-- The hit at i. -/
abbrev at0 (xs : List Hit) (i : Nat) : Hit := xs.getD i (0, 0)

theorem swapL_at (xs : List Hit) (i j k : Nat) (hi : i < xs.length) (hj : j < xs.length) : at0 (swapL xs i j) k = if k = j then at0 xs i else if k = i then at0 xs j else at0 xs k := by
  unfold at0 swapL
  simp only [List.getD_eq_getElem?_getD, List.getElem?_set, List.length_set]
  by_cases h1 : k = j
  · subst h1
    simp [hj]
  · by_cases h2 : k = i
    · subst h2
      have h1' : ¬ j = k := fun e => h1 e.symm
      simp [h1, h1', hi]
    · have h1' : ¬ j = k := fun e => h1 e.symm
      have h2' : ¬ i = k := fun e => h2 e.symm
      simp [h1, h2, h1', h2']
theorem swapL_perm (xs : List Hit) (i j : Nat) (hi : i < xs.length) (hj : j < xs.length) : (swapL xs i j).Perm xs := by
  have := @List.set_set_perm _ xs i j hi hj
  simpa [swapL, List.getD_eq_getElem?_getD, hi, hj] using this

/-- No hit is below one that is less. -/
def HeapP (xs : List Hit) : Prop := ∀ i, 0 < i → i < xs.length → ltH (at0 xs ((i - 1) / 2)) (at0 xs i) = false

theorem riseL_perm (xs : List Hit) (i : Nat) (hi : i < xs.length) : (riseL xs i).Perm xs := by
  fun_induction riseL xs i with
  | case1 xs i h1 h2 ih => exact (ih (by rw [swapL_len]; omega)).trans (swapL_perm xs i _ hi (by omega))
  | case2 => exact .refl _
  | case3 => exact .refl _
theorem riseL_heap (xs : List Hit) (i : Nat) (hi : i < xs.length) (h : ∀ j, 0 < j → j < xs.length → j ≠ i → ltH (at0 xs ((j - 1) / 2)) (at0 xs j) = false)
    (hg : 0 < i → ∀ j, 0 < j → j < xs.length → (j - 1) / 2 = i → ltH (at0 xs ((i - 1) / 2)) (at0 xs j) = false) : HeapP (riseL xs i) := by
  fun_induction riseL xs i with
  | case1 xs i h1 h2 ih =>
    have hp : (i - 1) / 2 < xs.length := by omega
    refine ih (by rw [swapL_len]; exact hp) ?_ ?_
    · intro j hj hjl hne
      rw [swapL_len] at hjl
      rw [swapL_at _ _ _ _ hi hp, swapL_at _ _ _ _ hi hp]
      by_cases hji : j = i
      · subst hji
        rw [if_pos rfl, if_neg hne, if_pos rfl]
        exact ltH_asymm h2
      · rw [if_neg hne, if_neg hji]
        by_cases hpj : (j - 1) / 2 = (i - 1) / 2
        · rw [if_pos hpj]
          have := h j hj hjl hji
          rw [hpj] at this
          exact ge_trans (ltH_asymm h2) this
        · rw [if_neg hpj]
          by_cases hpi : (j - 1) / 2 = i
          · rw [if_pos hpi]
            exact hg h1 j hj hjl hpi
          · rw [if_neg hpi]
            exact h j hj hjl hji
    · intro hi0 j hj hjl hpj
      rw [swapL_len] at hjl
      rw [swapL_at _ _ _ _ hi hp, swapL_at _ _ _ _ hi hp]
      have e1 : ¬ ((i - 1) / 2 - 1) / 2 = (i - 1) / 2 := by omega
      have e2 : ¬ ((i - 1) / 2 - 1) / 2 = i := by omega
      rw [if_neg e1, if_neg e2]
      have hq := h ((i - 1) / 2) hi0 hp (by omega)
      by_cases hji : j = i
      · subst hji
        rw [if_neg (by omega), if_pos rfl]
        exact hq
      · rw [if_neg (by omega), if_neg hji]
        have := h j hj hjl hji
        rw [hpj] at this
        exact ge_trans hq this
  | case2 xs i h1 h2 =>
    intro j hj hjl
    by_cases hji : j = i
    · subst hji
      simpa using h2
    · exact h j hj hjl hji
  | case3 xs i h1 =>
    intro j hj hjl
    exact h j hj hjl (by omega)

theorem childL_ge (xs : List Hit) (i j : Nat) (hj : 0 < j) (hjl : j < xs.length) (hp : (j - 1) / 2 = i) : ltH (at0 xs (childL xs i)) (at0 xs j) = false := by
  unfold childL
  have : j = 2 * i + 1 ∨ j = 2 * i + 2 := by omega
  rcases this with rfl | rfl
  · split
    · next h => exact ltH_asymm h.2
    · exact ltH_irrefl _
  · split
    · exact ltH_irrefl _
    · next h =>
      cases e : ltH (at0 xs (2 * i + 1)) (at0 xs (2 * i + 2)) with
      | false => rfl
      | true => exact absurd ⟨hjl, e⟩ h
theorem sinkL_perm (xs : List Hit) (i : Nat) (hi : i < xs.length ∨ xs = []) : (sinkL xs i).Perm xs := by
  fun_induction sinkL xs i with
  | case1 xs i h1 h2 ih =>
    have hi' : i < xs.length := by rcases hi with h | h; exact h; subst h; simp at h1
    exact (ih (.inl (by rw [swapL_len]; exact h1))).trans (swapL_perm xs i _ hi' h1)
  | case2 => exact .refl _
  | case3 => exact .refl _
theorem sinkL_heap (xs : List Hit) (i : Nat) (hi : i < xs.length ∨ xs = []) (h : ∀ j, 0 < j → j < xs.length → (j - 1) / 2 ≠ i → ltH (at0 xs ((j - 1) / 2)) (at0 xs j) = false)
    (hg : 0 < i → ∀ j, 0 < j → j < xs.length → (j - 1) / 2 = i → ltH (at0 xs ((i - 1) / 2)) (at0 xs j) = false) : HeapP (sinkL xs i) := by
  fun_induction sinkL xs i with
  | case1 xs i h1 h2 ih =>
    have hi' : i < xs.length := by rcases hi with h | h; exact h; subst h; simp at h1
    have hc := childL_or xs i
    have hge := childL_ge xs i
    generalize childL xs i = m at *
    have hpm : (m - 1) / 2 = i := by omega
    refine ih (.inl (by rw [swapL_len]; exact h1)) ?_ ?_
    · intro j hj hjl hne
      rw [swapL_len] at hjl
      rw [swapL_at _ _ _ _ hi' h1, swapL_at _ _ _ _ hi' h1, if_neg hne]
      by_cases hpi : (j - 1) / 2 = i
      · rw [if_pos hpi, if_neg (show ¬ j = i by omega)]
        by_cases hjm : j = m
        · rw [if_pos hjm]
          exact ltH_asymm h2
        · rw [if_neg hjm]
          exact hge j hj hjl hpi
      · rw [if_neg hpi, if_neg (show ¬ j = m by omega)]
        by_cases hji : j = i
        · rw [if_pos hji]
          subst hji
          exact hg hj m (by omega) h1 hpm
        · rw [if_neg hji]
          exact h j hj hjl hpi
    · intro hm0 j hj hjl hpj
      rw [swapL_len] at hjl
      rw [swapL_at _ _ _ _ hi' h1, swapL_at _ _ _ _ hi' h1, hpm, if_neg (show ¬ i = m by omega), if_pos rfl, if_neg (show ¬ j = m by omega), if_neg (show ¬ j = i by omega)]
      have := h j hj hjl (by omega)
      rwa [hpj] at this
  | case2 xs i h1 h2 =>
    intro j hj hjl
    by_cases hpi : (j - 1) / 2 = i
    · rw [hpi]
      exact ge_trans (by simpa using h2) (childL_ge xs i j hj hjl hpi)
    · exact h j hj hjl hpi
  | case3 xs i h1 =>
    intro j hj hjl
    have hc := childL_or xs i
    refine h j hj hjl (fun hpi => ?_)
    have : j = 2 * i + 1 ∨ j = 2 * i + 2 := by omega
    rcases hc with hc | hc
    · rw [hc] at h1; omega
    · rw [hc] at h1
      unfold childL at hc
      split at hc
      · next hh => omega
      · omega

theorem heap_root (xs : List Hit) (h : HeapP xs) (i : Nat) (hi : i < xs.length) : ltH (at0 xs 0) (at0 xs i) = false := by
  induction i using Nat.strongRecOn with
  | ind i ih =>
    by_cases h0 : i = 0
    · subst h0; exact ltH_irrefl _
    · exact ge_trans (ih ((i - 1) / 2) (by omega) (by omega)) (h i (by omega) hi)
end Go.Proofs.Ytdocoioenkajeaa
