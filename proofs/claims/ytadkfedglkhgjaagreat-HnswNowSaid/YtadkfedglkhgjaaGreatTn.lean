/-
  Worst of a selector, by a walk over its text.
-/
import Derived.Test.YtadkfedglkhgjaaGreatTn1
import Derived.Deep.DeepCutAuto
namespace Go.Proofs.YtadkfedglkhgjaaGreat
open Go.RowKit

set_option maxHeartbeats 1600000 in
theorem worst_any (b c room : Nat) (v : Value) (xs : List Hit) (w : World) (h : BestAt w b c room v xs) (f : Bool) (hf : Hid (decide (xs.length = room) = f)) (y : Hit) (hy : Hid (xs.getD 0 (0, 0) = y)) :
    Calls Tryz.prog 76 #[.pointer (some ⟨b, 0, none⟩)] w fun e w' => e = .returned (.tuple #[.agg #[.int .i64 y.1, .int .u32 y.2], .bool f]) ∧ Below w.heap.size w w' := by
  have H1 := Lib.hid (h.kept ((Kept.refl [] _).alloc (.cells #[.int .i64 0, .int .u32 0] 51)) (by simp) (by simp) (by simp))
  have c0 := h.room
  have l0 := h.self.lt
  have hd : ((xs.length : Int) == (room : Int)) = f := by
    have := hf.out
    rw [← this, Bool.eq_iff_iff]
    simp
    omega
  cases xs with
  | nil =>
    obtain rfl : y = (0, 0) := by rw [← hy.out]; rfl
    have H := Lib.hid h
    have hd1 : ((0 : Int) == (room : Int)) = f := by simpa using hd
    have HD := Lib.hid hd1
    clear h hf hy hd hd1
    go_enter Tryz.func76, Tryz.ntmps76
    go_wp2_with (fail)
    go_quiet ((go_at_call 87; exact len_q b c room v [] _ H1.out _))
    go_wp2_with (fail)
    rw [HD.out]
    have H2 := Lib.hid (H1.out.kept ((Kept.refl [] _).drewN nq) (by simp) (by simp) (by simp))
    have K2 := Lib.hid (below_draws ((Below.refl w.heap.size w).alloc (Nat.le_refl _) (.cells #[.int .i64 0, .int .u32 0] 51)) nq)
    have B2 := Lib.hid ((Kept.refl [] _).drewN nq |>.blk (Blk.new w 51 #[.int .i64 0, .int .u32 0]) (by simp))
    clear H1 H c0 l0
    generalize (w.alloc (.cells #[.int .i64 0, .int .u32 0] 51)).drewN nq = w1 at *
    refine (len_any b c room v [] _ H2.out).mono ?_
    rintro e w2 ⟨rfl, rfl⟩
    have d0 := B2.out.cell 0
    have d1 := B2.out.cell 1
    have f0 := B2.out.frozen 0
    have f1 := B2.out.frozen 1
    have l2 := B2.out.lt
    simp only [List.getElem?_cons_zero, List.getElem?_cons_succ] at d0 d1
    have K3 := Lib.hid ((K2.out.setCell (p := ⟨w.heap.size, 0, none⟩) (Nat.le_refl _) (.int .i64 0)).setCell (p := ⟨w.heap.size, 1, none⟩) (Nat.le_refl _) (.int .u32 0))
    clear K2 B2 H2
    go_wp2
    refine bodyPost_ret (v := .tuple #[.agg #[.int .i64 0, .int .u32 0], .bool f]) (by simp [results, Tryz.results76, go_sem, d0, d1]) rfl ?_
    exact ⟨rfl, K3.out⟩
  | cons x xs =>
    obtain rfl : y = x := by rw [← hy.out]; rfl
    have H := Lib.hid h
    have hd1 : ((xs.length : Int) + 1 == (room : Int)) = f := by simpa using hd
    have HD := Lib.hid hd1
    have hz : ((xs.length : Int) + 1 == 0) = false := by simp; omega
    clear h hf hy hd hd1
    go_enter Tryz.func76, Tryz.ntmps76
    go_wp2_with (fail)
    go_quiet ((go_at_call 87; exact len_q b c room v (y :: xs) _ H1.out _))
    go_wp2_with (fail)
    rw [HD.out]
    have H2 := Lib.hid (H1.out.kept ((Kept.refl [] _).drewN nq) (by simp) (by simp) (by simp))
    have K2 := Lib.hid (below_draws ((Below.refl w.heap.size w).alloc (Nat.le_refl _) (.cells #[.int .i64 0, .int .u32 0] 51)) nq)
    have B2 := Lib.hid ((Kept.refl [] _).drewN nq |>.blk (Blk.new w 51 #[.int .i64 0, .int .u32 0]) (by simp))
    clear H1 H c0 l0
    generalize (w.alloc (.cells #[.int .i64 0, .int .u32 0] 51)).drewN nq = w1 at *
    refine (len_any b c room v (y :: xs) _ H2.out).mono ?_
    rintro e w2 ⟨rfl, rfl⟩
    go_wp2_with (fail)
    refine (top_any b 1 c 145 _ v y xs _ H2.out).mono ?_
    rintro e w2 ⟨rfl, hb2⟩
    have B3 := Lib.hid ((Kept.of_below (F := []) hb2 (Nat.le_refl _)).blk B2.out (by simp))
    have K3 := Lib.hid (K2.out.trans (hb2.mono K2.out.size))
    clear H2 B2 K2 hb2
    have d0 := B3.out.cell 0
    have d1 := B3.out.cell 1
    have f0 := B3.out.frozen 0
    have f1 := B3.out.frozen 1
    have l2 := B3.out.lt
    simp only [List.getElem?_cons_zero, List.getElem?_cons_succ] at d0 d1
    have K4 := Lib.hid ((K3.out.setCell (p := ⟨w.heap.size, 0, none⟩) (Nat.le_refl _) (.int .i64 y.1)).setCell (p := ⟨w.heap.size, 1, none⟩) (Nat.le_refl _) (.int .u32 y.2))
    clear K3 B3
    go_wp2
    refine bodyPost_ret (v := .tuple #[.agg #[.int .i64 y.1, .int .u32 y.2], .bool f]) (by simp [results, Tryz.results76, go_sem, d0, d1]) rfl ?_
    exact ⟨rfl, K4.out⟩

end Go.Proofs.YtadkfedglkhgjaaGreat
