/-
  The document's examples, by which each statement of layer 1 begins: they come out true in whatever world.
-/
import Derived.Test.YtoaccegmeflpnaaFd
namespace Go.Proofs.Ytoaccegmeflpnaa
open Go.RowKit

theorem built2 (w : World) (x y : Int) (hx : (Lit.int .i32 x).wf = true) (hy : (Lit.int .i32 y).wf = true) :
    Reads .i32 (w.alloc (.cells #[.int .i32 x, .int .i32 y] 21)) (some ⟨w.heap.size, 0, none⟩) 2 [x, y] :=
  Reads.built w [x, y] 21 (by simp) (by intro z hz; simp at hz; rcases hz with rfl | rfl <;> assumption)

theorem built1 (w : World) (x : Int) (hx : (Lit.int .i32 x).wf = true) :
    Reads .i32 (w.alloc (.cells #[.int .i32 x] 21)) (some ⟨w.heap.size, 0, none⟩) 1 [x] :=
  Reads.built w [x] 21 (by simp) (by intro z hz; simp at hz; subst hz; assumption)

theorem built2b (w : World) (o : Obj) (x y : Int) (hx : (Lit.int .i32 x).wf = true) (hy : (Lit.int .i32 y).wf = true) :
    Reads .i32 ((w.alloc o).alloc (.cells #[.int .i32 x, .int .i32 y] 21)) (some ⟨w.heap.size + 1, 0, none⟩) 2 [x, y] := by
  have h := built2 (w.alloc o) x y hx hy
  rw [World.size_alloc] at h
  exact h

theorem below_two {w w1 : World} {o1 o2 : Obj} (h : Below ((w.alloc o1).alloc o2).heap.size ((w.alloc o1).alloc o2) w1) : Below w.heap.size w w1 :=
  (((Below.refl _ _).alloc (Nat.le_refl _) o1).alloc (by simp) o2).trans (h.mono (by simp; omega))

set_option maxHeartbeats 800000 in
theorem alive1 (w : World) : Calls Try.prog 10 #[] w fun e w' => e = .returned (.bool true) ∧ Below w.heap.size w w' := by
  go_enter Try.func10, Try.ntmps10
  go_wp2_with (fail)
  refine (dist_some 0 _ _ 2 2 2 2 [1, 2] [4, 6] 25 _ (by omega) (by omega) ?_ ?_ (by decide)).mono ?_
  · exact (built2 w 1 2 (by decide) (by decide)).alloc _
  · exact built2b _ _ 4 6 (by decide) (by decide)
  rintro e w1 ⟨rfl, hb1⟩
  have B1 := below_two hb1
  clear hb1
  go_wp2_with (fail)
  refine (dist_some 1 _ _ 2 2 2 2 [1, 2] [4, 6] (-16) _ (by omega) (by omega) ?_ ?_ (by decide)).mono ?_
  · exact (built2 w1 1 2 (by decide) (by decide)).alloc _
  · exact built2b _ _ 4 6 (by decide) (by decide)
  rintro e w2 ⟨rfl, hb2⟩
  have B2 := B1.trans ((below_two hb2).mono B1.size)
  clear hb2 B1
  go_wp2_with (fail)
  refine (check_any _ 1 1 [1] 1 _ (built1 w2 1 (by decide))).mono ?_
  rintro e w' ⟨rfl, rfl⟩
  rw [show checkV 1 1 [1] = 0 from by decide]
  go_wp2
  go_ret
  exact ⟨rfl, B2.alloc B2.size _⟩
end Go.Proofs.Ytoaccegmeflpnaa
