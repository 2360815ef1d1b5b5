/-
  What the orders of two hits return: fixvec.Less, the document's Less, and the closure that turns the order round; each by a walk over its text.
-/
import Derived.Test.YteaomjabanhblaaProg
import Derived.Test.YteaomjabanhblaaHm
import Derived.BigQuiet
import Derived.Deep.QuietTactic
import Derived.Handy
import Derived.Outline
namespace Go.Proofs.Yteaomjabanhblaa
open Go.RowKit

theorem less_any (a i b j : Int) (w : World) :
    Calls Try.prog 42 #[.agg #[.int .i64 a, .int .u32 i], .agg #[.int .i64 b, .int .u32 j]] w fun e w' => e = .returned (.bool (lessV a i b j)) ∧ Below w.heap.size w w' := by
  by_cases h1 : a = b
  · subst h1
    have hn : (a != a) = false := by simp
    by_cases h2 : i < j
    · go_enter Try.func42, Try.ntmps42
      go_wp2
      go_ret
      exact ⟨ret_bool (by simp [lessV, h2]), by go_grown⟩
    · go_enter Try.func42, Try.ntmps42
      go_wp2
      go_ret
      exact ⟨ret_bool (by simp [lessV, h2]), by go_grown⟩
  · have hn : (a != b) = true := by simpa using h1
    by_cases h2 : a < b
    · go_enter Try.func42, Try.ntmps42
      go_wp2
      go_ret
      exact ⟨ret_bool (by simp [lessV, h2]), by go_grown⟩
    · go_enter Try.func42, Try.ntmps42
      go_wp2
      go_ret
      exact ⟨ret_bool (by simp [lessV, h2, h1]), by go_grown⟩

theorem rless_any (a i b j : Int) (w : World) :
    Calls Try.prog 29 #[.agg #[.int .i64 a, .int .u32 i], .agg #[.int .i64 b, .int .u32 j]] w fun e w' => e = .returned (.bool (lessV a i b j)) ∧ Below w.heap.size w w' := by
  by_cases h1 : a = b
  · subst h1
    have hn : (a != a) = false := by simp
    by_cases h2 : i < j
    · go_enter Try.func29, Try.ntmps29
      go_wp2
      go_ret
      exact ⟨ret_bool (by simp [lessV, h2]), by go_grown⟩
    · go_enter Try.func29, Try.ntmps29
      go_wp2
      go_ret
      exact ⟨ret_bool (by simp [lessV, h2]), by go_grown⟩
  · have hn : (a != b) = true := by simpa using h1
    by_cases h2 : a < b
    · go_enter Try.func29, Try.ntmps29
      go_wp2
      go_ret
      exact ⟨ret_bool (by simp [lessV, h2]), by go_grown⟩
    · go_enter Try.func29, Try.ntmps29
      go_wp2
      go_ret
      exact ⟨ret_bool (by simp [lessV, h2, h1]), by go_grown⟩

theorem above_any (a i b j : Int) (c : Nat) (w : World) (hc : w.cell? ⟨c, 0, none⟩ = some (.func (.func 42) #[] #[])) (hlt : c < w.heap.size) :
    Calls Try.prog 62 #[.agg #[.int .i64 a, .int .u32 i], .agg #[.int .i64 b, .int .u32 j], .pointer (some ⟨c, 0, none⟩)] w fun e w' => e = .returned (.bool (lessV b j a i)) ∧ Below w.heap.size w w' := by
  go_enter Try.func62, Try.ntmps62
  go_wp2_with (fail)
  refine (less_any b j a i _).mono ?_
  rintro e w1 ⟨rfl, hb⟩
  go_wp2
  go_ret
  exact ⟨rfl, (((Below.refl _ _).alloc (Nat.le_refl _) _).alloc (by simp) _).trans (hb.mono (by simp; omega))⟩
end Go.Proofs.Yteaomjabanhblaa
