/-
  Mathematics of frames in which a byte was turned. No program stands here.
-/
import Derived.Test.YtemnmjfeljipjaaGreatRd
namespace Go.Proofs.YtemnmjfeljipjaaGreat
open Go.RowKit Go.ChangeShapes Go.WideShapes Go.ChangeAt

theorem firstF_got {l : List Nat} {x : MsgV} {n : Nat} (h : firstF l = .got x n) : PastF 6 l ∧ takeF l = .got x n := by
  have key : ∀ k p, p + k = 6 → PastF p l → goF k p l = .got x n → PastF 6 l ∧ takeF l = .got x n := by
    intro k
    induction k with
    | zero =>
      intro p hp hpast hgo
      have : p = 6 := by omega
      subst this
      exact ⟨hpast, hgo⟩
    | succ k ih =>
      intro p hp hpast hgo
      rw [goF] at hgo
      split at hgo
      · rename_i h0
        exact ih (p + 1) (by omega) (hpast.next h0) hgo
      · split at hgo <;> cases hgo
  exact key 6 0 rfl (PastF.zero l) h
theorem takeF_sum {l : List Nat} {x : MsgV} {n : Nat} (h : takeF l = .got x n) : (l.drop (endF l)).take 4 = sumL (l.take (endF l)) := by
  unfold takeF at h
  split at h
  · cases h
  · rename_i h1
    exact Decidable.of_not_not h1
theorem vput_short {n : Nat} (h : n ≤ 4096) : (vput n).length ≤ 2 := by
  by_cases h1 : n < 128
  · rw [vput_small h1]
    simp
  · rw [vput_big (by omega), vput_small (by omega)]
    simp
theorem xor_ne {a d : Nat} (h : d ≠ 0) : a ^^^ d ≠ a := by
  intro e
  have : a ^^^ (a ^^^ d) = a ^^^ a := by rw [e]
  rw [← Nat.xor_assoc, Nat.xor_self, Nat.zero_xor] at this
  exact h this
/-- A frame with one byte turned is never read, but where its length is. -/
theorem frame_turned0 {k : Nat} {m : List Nat} (hm : m.length ≤ 4096) (j d : Nat) (hj : j < (frameF k m).length) (hd : d < 256) (h0 : d ≠ 0) (y : MsgV) (n : Nat)
    (hg : firstF ((frameF k m).set j ((frameF k m)[j] ^^^ d)) = .got y n) : j = 4 ∨ j = 5 := by
  obtain ⟨P, hP⟩ : ∃ P, (vput m.length).length = P := ⟨_, rfl⟩
  have hP2 : P ≤ 2 := by rw [← hP]; exact vput_short hm
  have hE : (openF k m).length = 4 + P + m.length := by
    simp [openF, hP]
    omega
  by_cases hj45 : j = 4 ∨ j = 5
  · exact hj45
  exfalso
  obtain ⟨v, hv⟩ : ∃ v, (frameF k m)[j] ^^^ d = v := ⟨_, rfl⟩
  have hvne : v ≠ (frameF k m)[j] := by rw [← hv]; exact xor_ne h0
  rw [hv] at hg
  obtain ⟨hpast, htake⟩ := firstF_got hg
  have hsum := takeF_sum htake
  have hget : vget 0 0 (((frameF k m).set j v).drop 4) = (m.length, P, 0) := by
    by_cases h4 : j < 4
    · rw [List.drop_set_of_lt h4]
      unfold frameF
      rw [openF_drop, vget_put0 _ _ (by omega), hP]
    · have e1 : ((frameF k m).set j v).drop 4 = vput m.length ++ (m ++ sumL (openF k m)).set (j - 4 - P) v := by
        rw [List.drop_set, if_neg (by omega)]
        unfold frameF
        rw [openF_drop, List.set_append_right _ _ (by rw [hP]; omega), hP]
      rw [e1, vget_put0 _ _ (by omega), hP]
  have hend : endF ((frameF k m).set j v) = (openF k m).length := by
    unfold endF beginF
    rw [hget, hE]
  rw [hend] at hsum
  have hsl : (sumL (openF k m)).length = 4 := sumL_len _
  by_cases hjE : j < (openF k m).length
  · have e1 : (((frameF k m).set j v).drop (openF k m).length).take 4 = sumL (openF k m) := by
      rw [List.drop_set_of_lt hjE]
      unfold frameF
      rw [List.drop_left, List.take_of_length_le (by omega)]
    have e2 : ((frameF k m).set j v).take (openF k m).length = (openF k m).set j ((openF k m)[j] ^^^ d) := by
      have : (frameF k m)[j] = (openF k m)[j] := by
        unfold frameF
        exact List.getElem_append_left hjE
      rw [← hv, this]
      unfold frameF
      rw [List.set_append_left _ _ hjE, List.take_left' (by simp)]
    rw [e1, e2] at hsum
    exact crc_byte (openF k m) j d hjE hd h0 (sumL_inj hsum.symm)
  · have hjF : j - (openF k m).length < (sumL (openF k m)).length := by
      unfold frameF at hj
      rw [List.length_append] at hj
      omega
    have e2 : ((frameF k m).set j v).take (openF k m).length = openF k m := by
      rw [List.take_set_of_le (by omega)]
      unfold frameF
      rw [List.take_left]
    have e1 : (((frameF k m).set j v).drop (openF k m).length).take 4 = (sumL (openF k m)).set (j - (openF k m).length) v := by
      unfold frameF
      rw [List.set_append_right _ _ (by omega), List.drop_left, List.take_of_length_le (by simp [sumL_len])]
    rw [e1, e2] at hsum
    have e3 : ((sumL (openF k m)).set (j - (openF k m).length) v)[j - (openF k m).length]? = (sumL (openF k m))[j - (openF k m).length]? := by rw [hsum]
    rw [List.getElem?_set_self hjF, List.getElem?_eq_getElem hjF] at e3
    have e4 : (frameF k m)[j] = (sumL (openF k m))[j - (openF k m).length] := by
      unfold frameF
      exact List.getElem_append_right (by omega)
    exact hvne (by rw [e4]; exact Option.some.inj e3)
theorem frame_turned {x : MsgV} (hm : (bytesM x).length ≤ 4096) (j d : Nat) (hj : j < (frameF x.kind (bytesM x)).length) (hd : d < 256) (h0 : d ≠ 0) (y : MsgV) (n : Nat)
    (hg : firstF ((frameF x.kind (bytesM x)).set j ((frameF x.kind (bytesM x))[j] ^^^ d)) = .got y n) : j = 4 ∨ j = 5 := frame_turned0 hm j d hj hd h0 y n hg
/-- The error of what bytes begin with; 0: none. -/
def whyF (l : List Nat) : Nat := match firstF l with
  | .more => 40
  | .bad e => e
  | .got _ _ => 0
end Go.Proofs.YtemnmjfeljipjaaGreat
