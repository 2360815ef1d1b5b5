/-
  The document's Get of a number, by a walk over its text.
-/
import Derived.Test.YtdlpifcfgfhagaaVp
import Derived.WalkSpells
import Derived.Deep.RegionHeld3
import Derived.BigRegion
namespace Go.Proofs.Ytdlpifcfgfhagaa
open Go.RowKit

/-- Of how many bytes, ten at most, all go on. -/
def goesOn (bs : List Nat) (k : Nat) : Prop := ∀ i, i < k → 128 ≤ byteAt bs i

theorem take_at (bs : List Nat) (k : Nat) (h : k < bs.length) : bs.take (k + 1) = bs.take k ++ [byteAt bs k] := by
  rw [List.take_succ_eq_append_getElem h]
  simp [byteAt, List.getD, h]
theorem goesOn_mem {bs : List Nat} {k : Nat} (hg : goesOn bs k) (hk : k ≤ bs.length) : ∀ b ∈ bs.take k, 128 ≤ b := by
  intro b hb
  obtain ⟨i, hi, e⟩ := List.getElem_of_mem hb
  have hi' : i < k := by simp at hi; omega
  have := hg i hi'
  rw [← e, List.getElem_take]
  simpa [byteAt, List.getD, show i < bs.length by omega] using this

/-- What is told behind bytes that go on. -/
theorem vget_at {bs : List Nat} {k : Nat} (hg : goesOn bs k) (hk : k ≤ bs.length) (h9 : k ≤ 9) : vget 0 0 bs = vget k (vval (bs.take k)) (bs.drop k) := by
  have h := vget_on (bs.take k) (bs.drop k) 0 0 (goesOn_mem hg hk) (by simp; omega)
  rw [List.take_append_drop] at h
  rw [h]
  have : (bs.take k).length = k := by simp; omega
  rw [this]
  simp
theorem vget_all {bs : List Nat} {k : Nat} (hg : goesOn bs k) (hk : k = bs.length) (h9 : k ≤ 9) : vget 0 0 bs = (0, 0, 40) := by
  rw [vget_at hg (by omega) h9, List.drop_eq_nil_of_le (by omega), vget]
theorem vget_nine {bs : List Nat} (hg : goesOn bs 9) (hk : 9 < bs.length) (hp : 1 < byteAt bs 9) : vget 0 0 bs = (0, 0, 41) := by
  rw [vget_at hg (by omega) (by omega), drop_at bs 9 hk, vget, if_pos ⟨rfl, hp⟩]
theorem vget_ten {bs : List Nat} (hg : goesOn bs 10) (hk : 10 ≤ bs.length) : vget 0 0 bs = (0, 0, 41) :=
  vget_nine (fun i hi => hg i (by omega)) (by omega) (by have := hg 9 (by omega); omega)
/-- The bytes that end, and what they spell. -/
theorem vval_end {bs : List Nat} {k : Nat} (hk : k < bs.length) (hq : byteAt bs k < 128) : vval (bs.take (k + 1)) = vval (bs.take k) + byteAt bs k * 128 ^ k := by
  rw [take_at bs k hk, vval_snoc]
  have h1 : (bs.take k).length = k := by simp; omega
  have h2 : byteAt bs k % 128 = byteAt bs k := by omega
  rw [h1, h2]
theorem vval_end_lt {bs : List Nat} {k : Nat} (hk : k < bs.length) (h9 : k ≤ 9) (hq : byteAt bs k < 128) (hp : k = 9 → byteAt bs k ≤ 1) : vval (bs.take (k + 1)) < 18446744073709551616 := by
  rcases Nat.lt_or_ge k 9 with h | h
  · have h1 := vval_lt (bs.take (k + 1))
    have h2 : (bs.take (k + 1)).length ≤ 9 := by simp; omega
    have h3 : (128 : Nat) ^ (bs.take (k + 1)).length ≤ 128 ^ 9 := Nat.pow_le_pow_right (by decide) h2
    rw [show (128 : Nat) ^ 9 = 9223372036854775808 by decide] at h3
    omega
  · have : k = 9 := by omega
    subst this
    have h1 := vval_lt (bs.take 9)
    have h2 : (bs.take 9).length = 9 := by simp; omega
    have h3 := hp rfl
    rw [vval_end hk hq]
    rw [h2, show (128 : Nat) ^ 9 = 9223372036854775808 by decide] at h1
    rw [show (128 : Nat) ^ 9 = 9223372036854775808 by decide]
    omega
theorem vget_end {bs : List Nat} {k : Nat} (hg : goesOn bs k) (hk : k < bs.length) (h9 : k ≤ 9) (hq : byteAt bs k < 128) (hp : k = 9 → byteAt bs k ≤ 1) (hb : ∀ b ∈ bs, b < 256) :
    vget 0 0 bs = if vput (vval (bs.take (k + 1))) = bs.take (k + 1) then (vval (bs.take (k + 1)), k + 1, 0) else (0, 0, 41) := by
  have hv := vput_val (bs.take k) (byteAt bs k) (fun b hb' => ⟨goesOn_mem hg (by omega) b hb', hb b (List.mem_of_mem_take hb')⟩) hq
  rw [← take_at bs k hk] at hv
  rw [vget_at hg (by omega) h9, drop_at bs k hk, vget, if_neg (by omega), if_neg (by omega), ← vval_end hk hq]
  have hnil : bs.take k = [] ↔ k = 0 := by
    rw [List.take_eq_nil_iff]
    constructor
    · rintro (h | h)
      · exact h
      · subst h; simp at hk
    · exact fun h => .inl h
  rw [hnil] at hv
  by_cases hz : byteAt bs k = 0 ∧ 0 < k
  · rw [if_pos hz, if_neg (fun h => by have := hv.1 h; omega)]
  · rw [if_neg hz, if_pos (hv.2 (by omega))]

theorem vval_drop_le (l : List Nat) (j : Nat) : vval (l.drop j) ≤ vval l := by
  induction l generalizing j with
  | nil => simp
  | cons p l ih =>
    cases j with
    | zero => simp
    | succ j =>
      have := ih j
      simp only [List.drop_succ_cons, vval]
      omega
theorem vval_drop_at (bs : List Nat) (k j : Nat) (hk : k < bs.length) (hj : j ≤ k) : vval ((bs.take (k + 1)).drop j) = byteAt bs j % 128 + 128 * vval ((bs.take (k + 1)).drop (j + 1)) := by
  rw [drop_at _ j (by simp; omega), vval]
  congr 2
  simp [byteAt, List.getD, show j < k + 1 by omega]
end Go.Proofs.Ytdlpifcfgfhagaa
