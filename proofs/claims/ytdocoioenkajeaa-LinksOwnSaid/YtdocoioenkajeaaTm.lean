/-
  Put of a selector that has no room left; each case by a walk over its text.
-/
import Derived.Test.YtdocoioenkajeaaTk
namespace Go.Proofs.Ytdocoioenkajeaa
open Go.RowKit

theorem less_eq (x y : Hit) (z : Bool) (hz : Hid (ltH x y = z)) (w : World) :
    Calls Try.prog 38 #[.agg #[.int .i64 x.1, .int .u32 x.2], .agg #[.int .i64 y.1, .int .u32 y.2]] w fun e w' => e = .returned (.bool z) ∧ Below w.heap.size w w' := by
  rw [← hz.out]
  exact less_any x.1 x.2 y.1 y.2 w

set_option maxHeartbeats 3200000 in
theorem put_full (b c room : Nat) (v : Value) (y : Hit) (ys : List Hit) (x : Hit) (w : World) (h : BestAt w b c room v (y :: ys)) (hs : (y :: ys).length < 1000000) (hr : (y :: ys).length = room) :
    Calls Try.prog 59 #[.pointer (some ⟨b, 0, none⟩), .agg #[.int .i64 x.1, .int .u32 x.2]] w fun e w' => e = .returned (.tuple #[]) ∧ PutPost b c room v (y :: ys) x w w' := by
  obtain ⟨g, cap, rfl⟩ : ∃ g cap, v = .slice (some ⟨g, 0, none⟩) (y :: ys).length cap := by
    rcases h.own.form with ⟨_, e⟩ | ⟨g, cap, _, e, _⟩
    · cases e
    · exact ⟨g, cap, e⟩
  obtain ⟨z, hz⟩ : ∃ z, ltH x y = z := ⟨_, rfl⟩
  have hp : putH room (y :: ys) x = if z = true then sinkL ((y :: ys).set 0 x) 0 else y :: ys := by
    have h0 : 0 < room := by rw [← hr]; simp
    rw [putH, if_neg (by omega), show (y :: ys).getD 0 (0, 0) = y from rfl, hz]
    simp [h0]
  have HZ := Lib.hid hz
  have HP := Lib.hid hp
  have H1 := Lib.hid (h.kept ((Kept.refl [] _).alloc (.cells #[.int .i64 x.1, .int .u32 x.2] 58)) (by simp) (by simp) (by simp))
  have K1 := Lib.hid ((Kept.refl (b :: (.slice (some ⟨g, 0, none⟩) (y :: ys).length cap : Value).ownBlock.toList) w).alloc (.cells #[.int .i64 x.1, .int .u32 x.2] 58))
  have B1 := Lib.hid (Blk.new w 58 #[.int .i64 x.1, .int .u32 x.2])
  have c0 := h.room
  have l0 := h.self.lt
  have hd : decide (ys.length + 1 < room) = false := by simp at hr ⊢; omega
  have hdi : decide ((ys.length : Int) + 1 < (room : Int)) = false := by simp at hr ⊢; omega
  have hd0 : decide ((0 : Int) < (room : Int)) = true := by simp at hr ⊢; omega
  have hd2 : decide (0 < room) = true := by simp at hr ⊢; omega
  have HR := Lib.hid hr
  clear h hp hz hr
  go_enter Try.func59, Try.ntmps59
  go_wp2_with (fail)
  go_quiet ((go_at_call 61; exact len_q b c room _ (y :: ys) _ H1.out _))
  go_wp2_with (fail)
  have H2 := Lib.hid (H1.out.kept ((Kept.refl [] _).drewN nq) (by simp) (by simp) (by simp))
  have K2 := Lib.hid (K1.out.drewN nq)
  have B2 := Lib.hid ((Kept.refl [] _).drewN nq |>.blk B1.out (by simp))
  clear H1 K1 B1 c0 l0
  generalize (w.alloc (.cells #[.int .i64 x.1, .int .u32 x.2] 58)).drewN nq = w1 at *
  obtain ⟨R, hR⟩ : ∃ R, w.heap.size = R := ⟨_, rfl⟩
  have HS := Lib.hid (show ∀ w', Below w1.heap.size w1 w' → w'.cell? ⟨b, 0, none⟩ = some (.int .i64 room) ∧ w'.cell? ⟨w.heap.size, 0, none⟩ = some (.int .i64 x.1) ∧ w'.cell? ⟨w.heap.size, 1, none⟩ = some (.int .u32 x.2) ∧ b < w'.heap.size ∧ w.heap.size < w'.heap.size ∧ Below w1.heap.size w1 w' from fun w' hb => by
    have hk := Kept.of_below (F := []) hb (Nat.le_refl _)
    have h3 := hk.blk B2.out (by simp)
    have h4 := BestAt.grow H2.out hb
    exact ⟨h4.room, by rw [h3.cell]; rfl, by rw [h3.cell]; rfl, h4.self.lt, h3.lt, hb⟩)
  have S0 := HS.out w1 (Below.refl _ _)
  clear hR
  obtain ⟨s1, s2, s3, s4, s5, s6⟩ := S0
  go_region_held3 (fun w' => w'.cell? ⟨b, 0, none⟩ = some (.int .i64 room) ∧ w'.cell? ⟨w.heap.size, 0, none⟩ = some (.int .i64 x.1) ∧ w'.cell? ⟨w.heap.size, 1, none⟩ = some (.int .u32 x.2) ∧ b < w'.heap.size ∧ w.heap.size < w'.heap.size ∧ Below w1.heap.size w1 w')
    (first
      | (go_keep; done)
      | exact HS.out _ (Below.refl _ _)
      | exact HS.out _ (Below.refl _ _).drew
      | (go_split_ands; exact HS.out _ (below_on (by assumption) hbel)))
    (first
      | (go_at_call 62; (try go_split_ands); refine (top_any b 1 c 110 _ _ y ys _ (BestAt.grow H2.out (by first | assumption | exact s6.drew))).mono ?_; rintro e w' ⟨rfl, hbel⟩)
      | (go_at_call 38; refine (less_eq x y z HZ _).mono ?_; rintro e w' ⟨rfl, hbel⟩))
  rename_i l4 l3 l2 l1 l0 rr wA hA hH
  have hB := hH.2.2.2.2.2
  have H3 := Lib.hid (BestAt.grow H2.out hB)
  have K3 := Lib.hid (K2.out.trans (Kept.of_below (F := []) hB (Nat.le_refl _)) (by intro q hq; simp at hq))
  have B3 := Lib.hid ((Kept.of_below (F := []) hB (Nat.le_refl _)).blk B2.out (by simp))
  clear l4 l3 l2 l1 l0 rr hA hH hB hbel s1 s2 s3 s4 s5 s6 HS H2 K2 B2
  cases z
  · go_wp2
    go_end0
    exact ⟨rfl, _, by rw [HP.out]; exact H3.out, K3.out, fun k hk => .inl hk⟩
  · have c1 := B3.out.cell 0
    have c2 := B3.out.cell 1
    have l1 := B3.out.lt
    have l2 := H3.out.self.lt
    simp only [List.getElem?_cons_zero, List.getElem?_cons_succ] at c1 c2
    go_wp2_with (fail)
    go_region_with (go_at_call 76; refine (replace_any b 1 c g (y :: ys).length cap 110 _ (y :: ys) x _ (HeapAt.drew H3.out) (by simp) (by omega)).mono ?_; rintro e w2 ⟨rfl, hq, hk⟩)
    all_goals
      have Q1 := Lib.hid hq
      have Q2 := Lib.hid hk
      clear hq hk
      go_wp2
      go_end0
      refine ⟨rfl, _, by rw [HP.out, if_pos (by trivial)]; exact Q1.out, K3.out.drew.trans Q2.out ?_, fun k hk => .inl hk⟩
      intro q hq
      simp at hq
      subst hq
      left
      simp [Value.ownBlock]

set_option maxHeartbeats 1600000 in
theorem put_none (b c : Nat) (v : Value) (x : Hit) (w : World) (h : BestAt w b c 0 v []) :
    Calls Try.prog 59 #[.pointer (some ⟨b, 0, none⟩), .agg #[.int .i64 x.1, .int .u32 x.2]] w fun e w' => e = .returned (.tuple #[]) ∧ PutPost b c 0 v [] x w w' := by
  have hp : putH 0 [] x = [] := by simp [putH]
  have HP := Lib.hid hp
  have H1 := Lib.hid (h.kept ((Kept.refl [] _).alloc (.cells #[.int .i64 x.1, .int .u32 x.2] 58)) (by simp) (by simp) (by simp))
  have K1 := Lib.hid ((Kept.refl (b :: v.ownBlock.toList) w).alloc (.cells #[.int .i64 x.1, .int .u32 x.2] 58))
  have c0 := h.room
  have l0 := h.self.lt
  have hd : decide ((0 : Int) < ((0 : Nat) : Int)) = false := by simp
  clear h hp
  go_enter Try.func59, Try.ntmps59
  go_wp2_with (fail)
  go_quiet ((go_at_call 61; exact len_q b c 0 v [] _ H1.out _))
  go_wp2_with (fail)
  go_quiet (fail)
  go_wp2
  go_end0
  exact ⟨rfl, v, by rw [HP.out]; exact BestAt.kept H1.out ((((Kept.refl [] _).drewN _).drewN _)) (by simp) (by simp) (by simp), (K1.out.drewN _).drewN _, fun k hk => .inl hk⟩

theorem put_any (b c room : Nat) (v : Value) (xs : List Hit) (x : Hit) (w : World) (h : BestAt w b c room v xs) (hs : xs.length < 1000000) (hr : xs.length ≤ room) :
    Calls Try.prog 59 #[.pointer (some ⟨b, 0, none⟩), .agg #[.int .i64 x.1, .int .u32 x.2]] w fun e w' => e = .returned (.tuple #[]) ∧ PutPost b c room v xs x w w' := by
  by_cases h1 : xs.length < room
  · exact put_room b c room v xs x w h hs h1
  · cases xs with
    | nil =>
      obtain rfl : room = 0 := by simp at h1; exact h1
      exact put_none b c v x w h
    | cons y ys => exact put_full b c room v y ys x w h hs (by omega)
end Go.Proofs.Ytdocoioenkajeaa
