/-
  How far two vectors are apart is the same the other way round.
-/
import Derived.Test.YtadkfedglkhgjaaGreatRf
namespace Go.Proofs.YtadkfedglkhgjaaGreat
open Go.ChangeShapes Go.WideShapes Go.ChangeAt Go.RowKit

theorem sqSum_comm (xs ys : List Int) : sqSum xs ys = sqSum ys xs := by
  induction xs generalizing ys with
  | nil => cases ys <;> rfl
  | cons x xs ih =>
    cases ys with
    | nil => rfl
    | cons y ys =>
      simp only [sqSum]
      rw [ih ys]
      have : (x - y) * (x - y) = (y - x) * (y - x) := by
        rw [show x - y = -(y - x) from by omega, Int.neg_mul_neg]
      omega

theorem mulSum_comm (xs ys : List Int) : mulSum xs ys = mulSum ys xs := by
  induction xs generalizing ys with
  | nil => cases ys <;> rfl
  | cons x xs ih =>
    cases ys with
    | nil => rfl
    | cons y ys =>
      simp only [mulSum]
      rw [ih ys, Int.mul_comm]

theorem distV_flip {m : Int} {n n' : Nat} {xs ys : List Int} {r : Int} (hm : 0 ≤ m) (h : distV m n n' xs ys = some r) : distV m n' n ys xs = some r := by
  obtain ⟨h1, h2, _, _, rfl, _, _, h3⟩ := distV_some hm h
  rw [distV, if_neg (by rw [h1, h2]; omega)]
  rcases h3 with ⟨rfl, rfl⟩ | ⟨rfl, rfl⟩
  · simp [sqSum_comm]
  · simp [mulSum_comm]

theorem distV_comm (m : Int) (n n' : Nat) (xs ys : List Int) (hm : 0 ≤ m) : distV m n n' xs ys = distV m n' n ys xs := by
  cases h : distV m n n' xs ys with
  | some r => exact (distV_flip hm h).symm
  | none =>
    cases h' : distV m n' n ys xs with
    | none => rfl
    | some r => rw [distV_flip hm h'] at h; exact absurd h (by simp)

end Go.Proofs.YtadkfedglkhgjaaGreat
