/-
  The mathematics of numbers in bytes: seven bits a byte, the lowest first; read strictly. No program stands here.
-/
import Derived.Test.YtdgiellnklcioaaSl
import Derived.Lib.EndianBits
namespace Go.Proofs.Ytdgiellnklcioaa

/-- A number's bytes. -/
def vput (n : Nat) : List Nat := if n < 128 then [n] else (n % 128 + 128) :: vput (n / 128)
termination_by n
decreasing_by omega

theorem vput_small {n : Nat} (h : n < 128) : vput n = [n] := by rw [vput, if_pos h]
theorem vput_big {n : Nat} (h : 128 ≤ n) : vput n = (n % 128 + 128) :: vput (n / 128) := by rw [vput, if_neg (by omega)]
theorem vput_byte (n : Nat) : ∀ b ∈ vput n, b < 256 := by
  induction n using Nat.strongRecOn with
  | ind n ih =>
    intro b hb
    by_cases h : n < 128
    · rw [vput_small h] at hb
      simp at hb
      omega
    · rw [vput_big (by omega)] at hb
      rcases List.mem_cons.1 hb with rfl | hb
      · omega
      · exact ih (n / 128) (by omega) b hb
theorem vput_pos (n : Nat) : 1 ≤ (vput n).length := by
  by_cases h : n < 128
  · rw [vput_small h]; simp
  · rw [vput_big (by omega)]; simp
theorem vput_len : ∀ (k n : Nat), n < 128 ^ (k + 1) → (vput n).length ≤ k + 1
  | 0, n, h => by rw [vput_small (by simpa using h)]; simp
  | k + 1, n, h => by
    by_cases hx : n < 128
    · rw [vput_small hx]; simp
    · rw [vput_big (by omega), List.length_cons]
      have := vput_len k (n / 128) (by rw [Nat.pow_succ] at h; exact Nat.div_lt_of_lt_mul (by rw [Nat.mul_comm]; exact h))
      omega
theorem vput_len10 {n : Nat} (h : n < 18446744073709551616) : (vput n).length ≤ 10 := vput_len 9 n (Nat.lt_of_lt_of_le h (by decide))

theorem vput_inj : ∀ (a b : Nat), vput a = vput b → a = b := by
  intro a
  induction a using Nat.strongRecOn with
  | ind a ih =>
    intro b h
    by_cases ha : a < 128 <;> by_cases hb : b < 128
    · rw [vput_small ha, vput_small hb] at h
      simpa using h
    · rw [vput_small ha, vput_big (by omega)] at h
      have := vput_pos (b / 128)
      injection h with h1 h2
      rw [← h2] at this
      simp at this
    · rw [vput_small hb, vput_big (by omega)] at h
      have := vput_pos (a / 128)
      injection h with h1 h2
      rw [h2] at this
      simp at this
    · rw [vput_big (n := a) (by omega), vput_big (n := b) (by omega)] at h
      injection h with h1 h2
      have := ih (a / 128) (by omega) (b / 128) h2
      omega

theorem vput_mono : ∀ (a b : Nat), a ≤ b → (vput a).length ≤ (vput b).length := by
  intro a
  induction a using Nat.strongRecOn with
  | ind a ih =>
    intro b h
    by_cases ha : a < 128
    · rw [vput_small ha]
      exact vput_pos b
    · rw [vput_big (by omega), vput_big (show 128 ≤ b by omega)]
      have := ih (a / 128) (by omega) (b / 128) (by omega)
      simpa using this

/-- What is told of bytes of which i are gone by: the number, how many bytes, the error. -/
def vget (i A : Nat) : List Nat → Nat × Nat × Nat
  | [] => (0, 0, 40)
  | p :: r =>
    if i = 9 ∧ 1 < p then (0, 0, 41)
    else if 128 ≤ p then vget (i + 1) (A + p % 128 * 128 ^ i) r
    else if p = 0 ∧ 0 < i then (0, 0, 41)
    else (A + p * 128 ^ i, i + 1, 0)

/-- What is put is read back, whatever stands behind it. -/
theorem vget_put (rest : List Nat) : ∀ (m i A : Nat), i ≤ 9 → (0 < m ∨ i = 0) → A + m * 128 ^ i < 18446744073709551616 → vget i A (vput m ++ rest) = (A + m * 128 ^ i, i + (vput m).length, 0) := by
  intro m
  induction m using Nat.strongRecOn with
  | ind m ih =>
    intro i A hi hm hA
    have h9 : i = 9 → m ≤ 1 := by
      rintro rfl
      rw [show (128 : Nat) ^ 9 = 9223372036854775808 by decide] at hA
      omega
    by_cases h : m < 128
    · rw [vput_small h]
      simp only [List.singleton_append, vget]
      rw [if_neg (by omega), if_neg (by omega), if_neg (by omega)]
      rfl
    · rw [vput_big (by omega)]
      simp only [List.cons_append, vget]
      rw [if_neg (by omega), if_pos (by omega)]
      have e1 : (m % 128 + 128) % 128 = m % 128 := by omega
      have e2 : A + m % 128 * 128 ^ i + m / 128 * 128 ^ (i + 1) = A + m * 128 ^ i := by
        rw [Nat.pow_succ, Nat.add_assoc, Nat.mul_comm (128 ^ i) 128, ← Nat.mul_assoc, ← Nat.add_mul]
        congr 2
        omega
      rw [e1, ih (m / 128) (by omega) (i + 1) _ (by omega) (.inl (by omega)) (by rw [e2]; exact hA), e2, List.length_cons]
      simp only [Prod.mk.injEq, true_and, and_true]
      omega
theorem vget_put0 (m : Nat) (rest : List Nat) (h : m < 18446744073709551616) : vget 0 0 (vput m ++ rest) = (m, (vput m).length, 0) := by
  have := vget_put rest m 0 0 (by omega) (.inr rfl) (by simpa using h)
  simpa using this

/-- What is cut off is not read. -/
theorem vget_cut : ∀ (m i A k : Nat), i ≤ 9 → A + m * 128 ^ i < 18446744073709551616 → k < (vput m).length → vget i A ((vput m).take k) = (0, 0, 40) := by
  intro m
  induction m using Nat.strongRecOn with
  | ind m ih =>
    intro i A k hi hA hk
    have h9 : i = 9 → m ≤ 1 := by
      rintro rfl
      rw [show (128 : Nat) ^ 9 = 9223372036854775808 by decide] at hA
      omega
    cases k with
    | zero => simp [vget]
    | succ k =>
      by_cases h : m < 128
      · rw [vput_small h] at hk
        simp at hk
      · rw [vput_big (by omega)] at hk ⊢
        simp only [List.take_succ_cons, vget]
        rw [if_neg (by omega), if_pos (by omega)]
        have e1 : (m % 128 + 128) % 128 = m % 128 := by omega
        have e2 : A + m % 128 * 128 ^ i + m / 128 * 128 ^ (i + 1) = A + m * 128 ^ i := by
          rw [Nat.pow_succ, Nat.add_assoc, Nat.mul_comm (128 ^ i) 128, ← Nat.mul_assoc, ← Nat.add_mul]
          congr 2
          omega
        rw [e1]
        exact ih (m / 128) (by omega) (i + 1) _ k (by omega) (by rw [e2]; exact hA) (by simpa using hk)
theorem vget_cut0 (m k : Nat) (h : m < 18446744073709551616) (hk : k < (vput m).length) : vget 0 0 ((vput m).take k) = (0, 0, 40) :=
  vget_cut m 0 0 k (by omega) (by simpa using h) hk

/-- The number that bytes spell, seven bits each. -/
def vval : List Nat → Nat
  | [] => 0
  | p :: r => p % 128 + 128 * vval r

/-- All bytes go on but the last. -/
def Ends (l : List Nat) (q : Nat) : List Nat := l ++ [q]

theorem vval_snoc (l : List Nat) (q : Nat) : vval (l ++ [q]) = vval l + q % 128 * 128 ^ l.length := by
  induction l with
  | nil => simp [vval]
  | cons p l ih =>
    simp only [List.cons_append, vval, ih, List.length_cons, Nat.pow_succ]
    rw [Nat.mul_add, Nat.mul_comm (128 ^ l.length) 128, ← Nat.mul_assoc, ← Nat.mul_assoc, Nat.mul_comm 128 (q % 128)]
    omega
theorem vval_lt (l : List Nat) : vval l < 128 ^ l.length := by
  induction l with
  | nil => simp [vval]
  | cons p l ih =>
    simp only [vval, List.length_cons, Nat.pow_succ]
    have := Nat.mod_lt p (show 0 < 128 by decide)
    omega

/-- Bytes that go on, and one that doesn't: they are the number's own if the last isn't 0 or is alone. -/
theorem vput_val : ∀ (l : List Nat) (q : Nat), (∀ b ∈ l, 128 ≤ b ∧ b < 256) → q < 128 → (vput (vval (l ++ [q])) = l ++ [q] ↔ (0 < q ∨ l = []))
  | [], q, _, hq => by
    have e : vval ([] ++ [q]) = q := by simp [vval]; omega
    rw [e, vput_small hq]
    simp
  | p :: l, q, hl, hq => by
    have hp := hl p (by simp)
    have ih := vput_val l q (fun b hb => hl b (by simp [hb])) hq
    have hrest : l ++ [q] ≠ [] := by simp
    simp only [List.cons_append, vval]
    by_cases h0 : vval (l ++ [q]) = 0
    · -- the number is small: one byte
      have hs : vput (p % 128 + 128 * vval (l ++ [q])) = [p % 128] := by
        rw [h0, Nat.mul_zero, Nat.add_zero, vput_small (by omega)]
      rw [hs]
      constructor
      · intro h
        injection h with h1 h2
        exact absurd h2.symm hrest
      · rintro (h | h)
        · have := vval_snoc l q
          have h1 : 0 < 128 ^ l.length := Nat.pow_pos (by decide)
          have h2 : q % 128 = q := by omega
          rw [h0, h2] at this
          have h3 : 0 < q * 128 ^ l.length := Nat.mul_pos h h1
          omega
        · cases h
    · have hb : vput (p % 128 + 128 * vval (l ++ [q])) = p :: vput (vval (l ++ [q])) := by
        rw [vput_big (by omega)]
        have e1 : (p % 128 + 128 * vval (l ++ [q])) % 128 + 128 = p := by omega
        have e2 : (p % 128 + 128 * vval (l ++ [q])) / 128 = vval (l ++ [q]) := by omega
        rw [e1, e2]
      rw [hb]
      simp only [List.cons.injEq, true_and, reduceCtorEq, or_false]
      rw [ih]
      constructor
      · rintro (h | h)
        · exact h
        · subst h
          rcases Nat.eq_zero_or_pos q with h1 | h1
          · subst h1
            simp [vval] at h0
          · exact h1
      · exact fun h => .inl h

/-- What is told, bytes that go on being gone by. -/
theorem vget_on : ∀ (l r : List Nat) (i A : Nat), (∀ b ∈ l, 128 ≤ b) → i + l.length ≤ 9 → vget i A (l ++ r) = vget (i + l.length) (A + vval l * 128 ^ i) r
  | [], r, i, A, _, _ => by simp [vval]
  | p :: l, r, i, A, hl, hi => by
    have hp := hl p (by simp)
    simp only [List.length_cons] at hi
    simp only [List.cons_append, vget]
    rw [if_neg (by omega), if_pos hp, vget_on l r (i + 1) _ (fun b hb => hl b (by simp [hb])) (by omega)]
    simp only [vval, List.length_cons]
    congr 1
    · omega
    · rw [Nat.pow_succ, Nat.add_mul, Nat.add_assoc, Nat.mul_comm (128 ^ i) 128, ← Nat.mul_assoc, Nat.mul_comm (vval l) 128]

/-- 2 n, or -2 n - 1 below 0; and back. -/
def vfold (n : Int) : Nat := if 0 ≤ n then (2 * n).toNat else (-2 * n - 1).toNat
def vopen (u : Nat) : Int := if u % 2 = 0 then ((u / 2 : Nat) : Int) else -((u / 2 : Nat) : Int) - 1
theorem vopen_fold (n : Int) : vopen (vfold n) = n := by
  unfold vopen vfold
  split
  · rw [if_pos (by omega)]; omega
  · rw [if_neg (by omega)]; omega
theorem vfold_lt {n : Int} (h0 : -9223372036854775808 ≤ n) (h1 : n ≤ 9223372036854775807) : vfold n < 18446744073709551616 := by
  unfold vfold
  split <;> omega
theorem vopen_in {u : Nat} (h : u < 18446744073709551616) : -9223372036854775808 ≤ vopen u ∧ vopen u ≤ 9223372036854775807 := by
  unfold vopen
  split <;> omega

theorem vget_lt (l : List Nat) : (vget 0 0 l).1 < 18446744073709551616 := by
  have : ∀ (l : List Nat) (i A : Nat), i ≤ 9 → A < 128 ^ i → (vget i A l).1 < 18446744073709551616 := by
    intro l
    induction l with
    | nil => intro i A _ _; simp [vget]
    | cons p l ih =>
      intro i A hi hA
      have hle : (128 : Nat) ^ (i + 1) ≤ 128 ^ 9 ∨ i = 9 := by
        rcases Nat.lt_or_ge i 9 with h | h
        · exact .inl (Nat.pow_le_pow_right (by decide) (by omega))
        · exact .inr (by omega)
      have hmod := Nat.mod_lt p (show 0 < 128 by decide)
      have hmul : p % 128 * 128 ^ i ≤ 127 * 128 ^ i := Nat.mul_le_mul_right _ (by omega)
      simp only [vget]
      split
      · simp
      · rename_i h9
        split
        · rename_i h
          have hi9 : i ≠ 9 := by omega
          refine ih (i + 1) _ (by omega) ?_
          rw [Nat.pow_succ]
          omega
        · rename_i h
          split
          · simp
          · show A + p * 128 ^ i < 18446744073709551616
            rcases hle with h1 | h1
            · rw [Nat.pow_succ, show (128 : Nat) ^ 9 = 9223372036854775808 by decide] at h1
              have : p * 128 ^ i ≤ 127 * 128 ^ i := Nat.mul_le_mul_right _ (by omega)
              omega
            · subst h1
              have hp : p ≤ 1 := by omega
              rw [show (128 : Nat) ^ 9 = 9223372036854775808 by decide] at hA ⊢
              omega
  exact this l 0 0 (by omega) (by simp)
end Go.Proofs.Ytdgiellnklcioaa
