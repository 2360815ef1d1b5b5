/-
  Plain mathematics of heaps of hits and of lists that are in order: no program stands here.
-/
import Derived.Test.YtadkfedglkhgjaaGreatSl
namespace Go.Proofs.YtadkfedglkhgjaaGreat

abbrev Hit := Int × Int
/-- Which of two hits is less. -/
def lessV (a i b j : Int) : Bool := decide (a < b) || (decide (a = b) && decide (i < j))
def ltH (x y : Hit) : Bool := lessV x.1 x.2 y.1 y.2

def swapL (xs : List Hit) (i j : Nat) : List Hit := (xs.set i (xs.getD j (0, 0))).set j (xs.getD i (0, 0))
theorem swapL_len (xs : List Hit) (i j : Nat) : (swapL xs i j).length = xs.length := by simp [swapL]

/-- The hit at i is brought up. -/
def riseL (xs : List Hit) (i : Nat) : List Hit :=
  if _h : 0 < i then if ltH (xs.getD ((i - 1) / 2) (0, 0)) (xs.getD i (0, 0)) then riseL (swapL xs i ((i - 1) / 2)) ((i - 1) / 2) else xs else xs
termination_by i
decreasing_by omega

/-- Where the greater one of the two below i stands. -/
def childL (xs : List Hit) (i : Nat) : Nat :=
  if 2 * i + 2 < xs.length ∧ ltH (xs.getD (2 * i + 1) (0, 0)) (xs.getD (2 * i + 2) (0, 0)) = true then 2 * i + 2 else 2 * i + 1
theorem childL_or (xs : List Hit) (i : Nat) : childL xs i = 2 * i + 1 ∨ childL xs i = 2 * i + 2 := by
  unfold childL; split <;> simp

/-- The hit at i is brought down. -/
def sinkL (xs : List Hit) (i : Nat) : List Hit :=
  if _h : childL xs i < xs.length then if ltH (xs.getD i (0, 0)) (xs.getD (childL xs i) (0, 0)) then sinkL (swapL xs i (childL xs i)) (childL xs i) else xs else xs
termination_by xs.length - i
decreasing_by
  rw [swapL_len]
  have := childL_or xs i
  omega
end Go.Proofs.YtadkfedglkhgjaaGreat
