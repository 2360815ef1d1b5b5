/-
  What the orders of two hits return: fixvec.Less, the document's Less, and the closure that turns the order round; each by a walk over its text.
-/
import Derived.Test.YtadkfedglkhgjaaGreatProg
import Derived.Test.YtadkfedglkhgjaaGreatHm
import Derived.BigQuiet
import Derived.Deep.QuietTactic
import Derived.Handy
import Derived.Outline
namespace Go.Proofs.YtadkfedglkhgjaaGreat
open Go.RowKit

theorem less_any (a i b j : Int) (w : World) :
    Calls Tryz.prog 77 #[.agg #[.int .i64 a, .int .u32 i], .agg #[.int .i64 b, .int .u32 j]] w fun e w' => e = .returned (.bool (lessV a i b j)) ∧ Below w.heap.size w w' := by
  by_cases h1 : a = b
  · subst h1
    have hn : (a != a) = false := by simp
    by_cases h2 : i < j
    · go_enter Tryz.func77, Tryz.ntmps77
      go_wp2
      go_ret
      exact ⟨ret_bool (by simp [lessV, h2]), by go_grown⟩
    · go_enter Tryz.func77, Tryz.ntmps77
      go_wp2
      go_ret
      exact ⟨ret_bool (by simp [lessV, h2]), by go_grown⟩
  · have hn : (a != b) = true := by simpa using h1
    by_cases h2 : a < b
    · go_enter Tryz.func77, Tryz.ntmps77
      go_wp2
      go_ret
      exact ⟨ret_bool (by simp [lessV, h2]), by go_grown⟩
    · go_enter Tryz.func77, Tryz.ntmps77
      go_wp2
      go_ret
      exact ⟨ret_bool (by simp [lessV, h2, h1]), by go_grown⟩

theorem rless_any (a i b j : Int) (w : World) :
    Calls Tryz.prog 19 #[.agg #[.int .i64 a, .int .u32 i], .agg #[.int .i64 b, .int .u32 j]] w fun e w' => e = .returned (.bool (lessV a i b j)) ∧ Below w.heap.size w w' := by
  by_cases h1 : a = b
  · subst h1
    have hn : (a != a) = false := by simp
    by_cases h2 : i < j
    · go_enter Tryz.func19, Tryz.ntmps19
      go_wp2
      go_ret
      exact ⟨ret_bool (by simp [lessV, h2]), by go_grown⟩
    · go_enter Tryz.func19, Tryz.ntmps19
      go_wp2
      go_ret
      exact ⟨ret_bool (by simp [lessV, h2]), by go_grown⟩
  · have hn : (a != b) = true := by simpa using h1
    by_cases h2 : a < b
    · go_enter Tryz.func19, Tryz.ntmps19
      go_wp2
      go_ret
      exact ⟨ret_bool (by simp [lessV, h2]), by go_grown⟩
    · go_enter Tryz.func19, Tryz.ntmps19
      go_wp2
      go_ret
      exact ⟨ret_bool (by simp [lessV, h2, h1]), by go_grown⟩

theorem above_any (a i b j : Int) (c : Nat) (w : World) (hc : w.cell? ⟨c, 0, none⟩ = some (.func (.func 77) #[] #[])) (hlt : c < w.heap.size) :
    Calls Tryz.prog 131 #[.agg #[.int .i64 a, .int .u32 i], .agg #[.int .i64 b, .int .u32 j], .pointer (some ⟨c, 0, none⟩)] w fun e w' => e = .returned (.bool (lessV b j a i)) ∧ Below w.heap.size w w' := by
  go_enter Tryz.func131, Tryz.ntmps131
  go_wp2_with (fail)
  refine (less_any b j a i _).mono ?_
  rintro e w1 ⟨rfl, hb⟩
  go_wp2
  go_ret
  exact ⟨rfl, (((Below.refl _ _).alloc (Nat.le_refl _) _).alloc (by simp) _).trans (hb.mono (by simp; omega))⟩
end Go.Proofs.YtadkfedglkhgjaaGreat
