/-
  The mathematics of things written as bytes and read strictly: one thing behind the other, lists, and what follows: read back, nothing else, cut off. No program stands here.
-/
import Derived.Test.YtdocoioenkajeaaVm
namespace Go.Proofs.Ytdocoioenkajeaa

/-- How a thing is written, which things can be, and how it is read: the thing and what is left, or an error's number. -/
structure Cod (α : Type) where
  enc : α → List Nat
  fits : α → Prop
  dec : List Nat → (α × List Nat) ⊕ Nat
  back : ∀ a r, fits a → dec (enc a ++ r) = .inl (a, r)
  only : ∀ l a r, (∀ b ∈ l, b < 256) → dec l = .inl (a, r) → fits a ∧ l = enc a ++ r
  cut : ∀ a k, fits a → k < (enc a).length → dec ((enc a).take k) = .inr 40
  bytes : ∀ a, fits a → ∀ b ∈ enc a, b < 256
  err : ∀ l e, dec l = .inr e → e ≠ 0

/-- What a number's bytes are read from are just these. -/
theorem vget_only : ∀ (l : List Nat) (i A N u : Nat), i ≤ 9 → (∀ b ∈ l, b < 256) → vget i A l = (N, u, 0) → ∃ m, N = A + m * 128 ^ i ∧ u = i + (vput m).length ∧ l = vput m ++ l.drop (vput m).length ∧ (0 < m ∨ i = 0)
  | [], i, A, N, u, _, _, h => by simp [vget] at h
  | p :: r, i, A, N, u, hi, hb, h => by
    have hp : p < 256 := hb p (by simp)
    simp only [vget] at h
    by_cases h9 : i = 9 ∧ 1 < p
    · rw [if_pos h9] at h
      simp at h
    · rw [if_neg h9] at h
      by_cases h128 : 128 ≤ p
      · rw [if_pos h128] at h
        obtain ⟨m, h1, h2, h3, h4⟩ := vget_only r (i + 1) _ N u (by omega) (fun b hb' => hb b (by simp [hb'])) h
        have hm : 0 < m := by omega
        have hv : vput (p % 128 + 128 * m) = p :: vput m := by
          rw [vput_big (by omega)]
          have e1 : (p % 128 + 128 * m) % 128 + 128 = p := by omega
          have e2 : (p % 128 + 128 * m) / 128 = m := by omega
          rw [e1, e2]
        refine ⟨p % 128 + 128 * m, ?_, ?_, ?_, .inl (by omega)⟩
        · rw [h1, Nat.pow_succ, Nat.add_mul, Nat.add_assoc, Nat.mul_comm (128 ^ i) 128, ← Nat.mul_assoc, Nat.mul_comm m 128]
        · rw [h2, hv, List.length_cons]; omega
        · rw [hv]
          simp only [List.cons_append, List.length_cons, List.drop_succ_cons]
          rw [← h3]
      · rw [if_neg h128] at h
        by_cases hz : p = 0 ∧ 0 < i
        · rw [if_pos hz] at h
          simp at h
        · rw [if_neg hz] at h
          simp only [Prod.mk.injEq, and_true] at h
          refine ⟨p, h.1.symm, ?_, ?_, by omega⟩
          · rw [vput_small (by omega)]; simp; omega
          · rw [vput_small (by omega)]; simp

theorem vget_errs : ∀ (l : List Nat) (i A : Nat), (vget i A l).2.2 = 0 ∨ (vget i A l).2.2 = 40 ∨ (vget i A l).2.2 = 41
  | [], i, A => by simp [vget]
  | p :: r, i, A => by
    simp only [vget]
    split
    · simp
    · split
      · exact vget_errs r _ _
      · split
        · simp
        · simp

/-- A number, at most so much. -/
def cNum (most : Nat) (hm : most < 18446744073709551616) : Cod Nat where
  enc := vput
  fits n := n ≤ most
  dec l := if (vget 0 0 l).2.2 ≠ 0 then .inr (vget 0 0 l).2.2 else if most < (vget 0 0 l).1 then .inr 62 else .inl ((vget 0 0 l).1, l.drop (vget 0 0 l).2.1)
  back := by
    intro n r hn
    rw [vget_put0 n r (by omega)]
    simp
    omega
  only := by
    intro l n r hb h
    have herr := vget_errs l 0 0
    obtain ⟨N, u, e, hv⟩ : ∃ N u e, vget 0 0 l = (N, u, e) := ⟨_, _, _, rfl⟩
    rw [hv] at h herr
    simp only at h herr
    by_cases he : e = 0
    · subst he
      simp only [ne_eq, not_true_eq_false, if_false] at h
      by_cases hN : most < N
      · rw [if_pos hN] at h
        cases h
      · rw [if_neg hN] at h
        simp only [Sum.inl.injEq, Prod.mk.injEq] at h
        obtain ⟨rfl, rfl⟩ := h
        obtain ⟨m, h1, h2, h3, _⟩ := vget_only l 0 0 N u (by omega) hb hv
        have hm : m = N := by simpa using h1.symm
        subst hm
        refine ⟨by omega, ?_⟩
        rw [h2, Nat.zero_add]
        exact h3
    · rw [if_pos (by simpa using he)] at h
      cases h
  cut := by
    intro n k hn hk
    rw [vget_cut0 n k (by omega) hk]
    simp
  bytes := fun n _ => vput_byte n
  err := by
    intro l e h
    split at h
    · simp only [Sum.inr.injEq] at h
      omega
    · split at h
      · simp only [Sum.inr.injEq] at h
        omega
      · cases h

/-- One thing behind the other; how the second is written may hang on the first. -/
def cDep {α β : Type} (A : Cod α) (B : α → Cod β) : Cod (α × β) where
  enc x := A.enc x.1 ++ (B x.1).enc x.2
  fits x := A.fits x.1 ∧ (B x.1).fits x.2
  dec l := match A.dec l with
    | .inr e => .inr e
    | .inl (a, r) => match (B a).dec r with
      | .inr e => .inr e
      | .inl (b, r') => .inl ((a, b), r')
  back := by
    rintro ⟨a, b⟩ r ⟨ha, hb⟩
    simp only [List.append_assoc]
    rw [A.back a _ ha]
    simp only
    rw [(B a).back b r hb]
  only := by
    rintro l ⟨a, b⟩ r hl h
    cases hA : A.dec l with
    | inr e => rw [hA] at h; cases h
    | inl x =>
      obtain ⟨a', r'⟩ := x
      rw [hA] at h
      simp only at h
      obtain ⟨h1, h2⟩ := A.only l a' r' hl hA
      cases hB : (B a').dec r' with
      | inr e => rw [hB] at h; cases h
      | inl y =>
        obtain ⟨b', r''⟩ := y
        rw [hB] at h
        simp only [Sum.inl.injEq, Prod.mk.injEq] at h
        obtain ⟨⟨rfl, rfl⟩, rfl⟩ := h
        obtain ⟨h3, h4⟩ := (B a').only r' b' r'' (fun x hx => hl x (by rw [h2]; simp [hx])) hB
        refine ⟨⟨h1, h3⟩, ?_⟩
        rw [h2, h4, List.append_assoc]
  cut := by
    rintro ⟨a, b⟩ k ⟨ha, hb⟩ hk
    simp only at hk ⊢
    by_cases h : k < (A.enc a).length
    · rw [List.take_append_of_le_length (by omega), A.cut a k ha h]
    · have e : (A.enc a ++ (B a).enc b).take k = A.enc a ++ ((B a).enc b).take (k - (A.enc a).length) := by
        rw [List.take_append, List.take_of_length_le (by omega)]
      rw [e, A.back a _ ha]
      simp only
      rw [(B a).cut b _ hb (by rw [List.length_append] at hk; omega)]
  bytes := by
    rintro ⟨a, b⟩ ⟨ha, hb⟩ x hx
    rcases List.mem_append.1 hx with hx | hx
    · exact A.bytes a ha x hx
    · exact (B a).bytes b hb x hx
  err := by
    intro l e h
    cases hA : A.dec l with
    | inr e' =>
      rw [hA] at h
      simp only [Sum.inr.injEq] at h
      subst h
      exact A.err l _ hA
    | inl x =>
      obtain ⟨a', r'⟩ := x
      rw [hA] at h
      simp only at h
      cases hB : (B a').dec r' with
      | inr e' =>
        rw [hB] at h
        simp only [Sum.inr.injEq] at h
        subst h
        exact (B a').err r' _ hB
      | inl y => rw [hB] at h; cases h
/-- Two things. -/
def cPair {α β : Type} (A : Cod α) (B : Cod β) : Cod (α × β) := cDep A fun _ => B

/-- So many things of one kind. -/
def decN {α : Type} (A : Cod α) : Nat → List Nat → (List α × List Nat) ⊕ Nat
  | 0, l => .inl ([], l)
  | n + 1, l => match A.dec l with
    | .inr e => .inr e
    | .inl (a, r) => match decN A n r with
      | .inr e => .inr e
      | .inl (as, r') => .inl (a :: as, r')
def encN {α : Type} (A : Cod α) (l : List α) : List Nat := (l.map A.enc).flatten
def cTimes {α : Type} (A : Cod α) (n : Nat) : Cod (List α) where
  enc := encN A
  fits l := l.length = n ∧ ∀ a ∈ l, A.fits a
  dec := decN A n
  back := by
    intro l
    induction l generalizing n with
    | nil =>
      rintro r ⟨h, _⟩
      simp at h
      subst h
      simp [decN, encN]
    | cons a l ih =>
      rintro r ⟨h, hf⟩
      obtain ⟨m, rfl⟩ : ∃ m, n = m + 1 := ⟨n - 1, by simp at h; omega⟩
      have e : encN A (a :: l) ++ r = A.enc a ++ (encN A l ++ r) := by simp [encN]
      rw [e, decN, A.back a _ (hf a (by simp))]
      simp only
      rw [ih m r ⟨by simpa using h, fun b hb => hf b (by simp [hb])⟩]
  only := by
    induction n with
    | zero =>
      intro l as r _ h
      simp only [decN, Sum.inl.injEq, Prod.mk.injEq] at h
      obtain ⟨rfl, rfl⟩ := h
      exact ⟨⟨rfl, by simp⟩, by simp [encN]⟩
    | succ n ih =>
      intro l as r hl h
      simp only [decN] at h
      cases hA : A.dec l with
      | inr e => rw [hA] at h; cases h
      | inl x =>
        obtain ⟨a, r1⟩ := x
        rw [hA] at h
        simp only at h
        obtain ⟨h1, h2⟩ := A.only l a r1 hl hA
        cases hN : decN A n r1 with
        | inr e => rw [hN] at h; cases h
        | inl y =>
          obtain ⟨as', r2⟩ := y
          rw [hN] at h
          simp only [Sum.inl.injEq, Prod.mk.injEq] at h
          obtain ⟨rfl, rfl⟩ := h
          obtain ⟨⟨h3, h4⟩, h5⟩ := ih r1 as' r2 (fun x hx => hl x (by rw [h2]; simp [hx])) hN
          refine ⟨⟨by simp [h3], fun b hb => ?_⟩, ?_⟩
          · rcases List.mem_cons.1 hb with rfl | hb
            · exact h1
            · exact h4 b hb
          · rw [h2, h5]
            simp [encN]
  cut := by
    intro l
    induction l generalizing n with
    | nil =>
      rintro k ⟨h, _⟩ hk
      simp [encN] at hk
    | cons a l ih =>
      rintro k ⟨h, hf⟩ hk
      obtain ⟨m, rfl⟩ : ∃ m, n = m + 1 := ⟨n - 1, by simp at h; omega⟩
      have e : encN A (a :: l) = A.enc a ++ encN A l := by simp [encN]
      rw [e] at hk ⊢
      rw [decN]
      by_cases hka : k < (A.enc a).length
      · rw [List.take_append_of_le_length (by omega), A.cut a k (hf a (by simp)) hka]
      · have e2 : (A.enc a ++ encN A l).take k = A.enc a ++ (encN A l).take (k - (A.enc a).length) := by
          rw [List.take_append, List.take_of_length_le (by omega)]
        rw [e2, A.back a _ (hf a (by simp))]
        simp only
        rw [ih m (k - (A.enc a).length) ⟨by simpa using h, fun b hb => hf b (by simp [hb])⟩ (by rw [List.length_append] at hk; omega)]
  bytes := by
    rintro l ⟨_, hf⟩ b hb
    obtain ⟨x, hx, hb⟩ := List.mem_flatten.1 hb
    obtain ⟨a, ha, rfl⟩ := List.mem_map.1 hx
    exact A.bytes a (hf a ha) b hb
  err := by
    induction n with
    | zero => intro l e h; cases h
    | succ n ih =>
      intro l e h
      simp only [decN] at h
      cases hA : A.dec l with
      | inr e' =>
        rw [hA] at h
        simp only [Sum.inr.injEq] at h
        subst h
        exact A.err l _ hA
      | inl x =>
        obtain ⟨a, r1⟩ := x
        rw [hA] at h
        simp only at h
        cases hN : decN A n r1 with
        | inr e' =>
          rw [hN] at h
          simp only [Sum.inr.injEq] at h
          subst h
          exact ih r1 _ hN
        | inl y => rw [hN] at h; cases h
end Go.Proofs.Ytdocoioenkajeaa
