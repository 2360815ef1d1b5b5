/-
  The document's example of layer 2 holds: what the laws' alive tells.
-/
import Derived.Test.YtmdodfipkmmmkaaTr
namespace Go.Proofs.Ytmdodfipkmmmkaa
open Go.RowKit

theorem HReads.built (w : World) (xs : List Hit) (h1 : xs.length ≤ 1000000) : HReads (w.alloc (.cells (flat xs).toArray 29)) (some ⟨w.heap.size, 0, none⟩) xs.length xs := by
  have hb := Blk.new w 29 (flat xs).toArray
  refine ⟨rfl, by omega, .inr ⟨_, _, rfl, by simp, fun i hi => ?_⟩⟩
  have hf := flat_len xs
  rw [Nat.zero_add, hb.cell, hb.cell]
  exact ⟨by simpa using flat_fst xs i hi, by simpa using flat_snd xs i hi⟩

set_option maxHeartbeats 1600000 in
theorem alive2 (w : World) : Calls Try.prog 10 #[] w fun e w' => e = .returned (.bool true) ∧ Below w.heap.size w w' := by
  go_enter Try.func10, Try.ntmps10
  go_wp2_with (fail)
  refine (sel_new 2 w 2 rfl).mono ?_
  rintro e w1 ⟨rfl, h1, hb1⟩
  have H1 := Lib.hid h1
  have B1 := Lib.hid hb1
  have G1 := Lib.hid (show ∀ x ∈ [w.heap.size, w.heap.size + 1], w.heap.size ≤ x from fun x hx => by simp at hx; omega)
  clear h1 hb1
  go_wp2_with (fail)
  refine (sel_put _ _ 2 [] (5, 1) _ H1.out (by simp)).mono ?_
  rintro e w2 ⟨rfl, F2, h2, k2, g2⟩
  have e2 : (ins (5, 1) []).take 2 = [((5 : Int), (1 : Int))] := by decide
  rw [e2] at h2
  have H2 := Lib.hid h2
  have B2 := Lib.hid (B1.out.trans (k2.below G1.out B1.out.size))
  have G2 := Lib.hid (show ∀ x ∈ F2, w.heap.size ≤ x from fun x hx => by rcases g2 x hx with h | h; exact G1.out x h; exact Nat.le_trans B1.out.size h)
  clear h2 k2 g2 e2 H1 B1 G1
  go_wp2_with (fail)
  refine (sel_put _ _ 2 _ (3, 2) _ H2.out (by simp)).mono ?_
  rintro e w3 ⟨rfl, F3, h3, k3, g3⟩
  have e3 : (ins (3, 2) [((5 : Int), (1 : Int))]).take 2 = [((3 : Int), (2 : Int)), (5, 1)] := by decide
  rw [e3] at h3
  have H3 := Lib.hid h3
  have B3 := Lib.hid (B2.out.trans (k3.below G2.out B2.out.size))
  have G3 := Lib.hid (show ∀ x ∈ F3, w.heap.size ≤ x from fun x hx => by rcases g3 x hx with h | h; exact G2.out x h; exact Nat.le_trans B2.out.size h)
  clear h3 k3 g3 e3 H2 B2 G2
  go_wp2_with (fail)
  refine (sel_put _ _ 2 _ (3, 1) _ H3.out (by simp)).mono ?_
  rintro e w4 ⟨rfl, F4, h4, k4, g4⟩
  have e4 : (ins (3, 1) [((3 : Int), (2 : Int)), (5, 1)]).take 2 = [((3 : Int), (1 : Int)), (3, 2)] := by decide
  rw [e4] at h4
  have H4 := Lib.hid h4
  have B4 := Lib.hid (B3.out.trans (k4.below G3.out B3.out.size))
  clear h4 k4 g4 e4 H3 B3 G3
  go_wp2_with (fail)
  refine (sel_worst _ _ 2 _ _ H4.out true rfl (3, 2) rfl).mono ?_
  rintro e w5 ⟨rfl, hb5⟩
  have H5 := Lib.hid (H4.out.grow hb5)
  have B5 := Lib.hid (B4.out.trans (hb5.mono B4.out.size))
  clear hb5 H4 B4
  go_wp2_with (fail)
  refine (sel_len _ _ 2 _ _ (H5.out.kept ((Kept.refl [] _).alloc _) (by intro x _ hx; simp at hx))).mono ?_
  rintro e w6 ⟨rfl, rfl⟩
  go_wp2_with (fail)
  refine (sel_list _ _ 2 _ _ (H5.out.kept ((Kept.refl [] _).alloc _) (by intro x _ hx; simp at hx)) (by simp)).mono ?_
  rintro e w6 ⟨g, rfl, ho, hb6, hg⟩
  have B6 := Lib.hid ((B5.out.alloc B5.out.size _).trans (hb6.mono (by have := B5.out.size; simp; omega)))
  have O6 := Lib.hid (HReads.of_own ho (by simp))
  clear ho hb6 hg H5 B5
  go_wp2_with (fail)
  refine (same_any _ _ _ _ _ _ [((3 : Int), (1 : Int)), (3, 2)] [(3, 1), (3, 2)] _ (O6.out.below (Nat.le_refl _) ((Below.refl _ _).alloc (Nat.le_refl _) _)) (HReads.built w6 [((3 : Int), (1 : Int)), (3, 2)] (by simp))).mono ?_
  rintro e w7 ⟨rfl, hb7⟩
  have B7 := Lib.hid ((B6.out.alloc B6.out.size _).trans (hb7.mono (by have := B6.out.size; simp; omega)))
  clear hb7 B6 O6
  go_wp2
  go_ret
  exact ⟨rfl, B7.out⟩
end Go.Proofs.Ytmdodfipkmmmkaa
