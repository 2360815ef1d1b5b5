/-
  Of XNx what a seat holds that lacks some functions (made by tools/autopick.py).
-/
import Derived.Test.YtdlpifcfgfhagaaQaC
import Derived.Test.YtdlpifcfgfhagaaQbC
namespace Go.Proofs.Ytdlpifcfgfhagaa
open Go.RowKit Go.ChangeShapes Go.WideShapes Go.ChangeAt

/-- What PutChanges leaves. -/
def PCPost (l : List ChangeV) (w : World) (e : Ending) (w' : World) : Prop := Below w.heap.size w w' ∧
  (((cMany cChange).fits l ∧ ∃ v, e = .returned (.tuple #[v, .bool true]) ∧ OwnV w' w.heap.size 5 v ((cMany cChange).enc l)) ∨ (¬ (cMany cChange).fits l ∧ e = .returned (.tuple #[.slice none 0 0, .bool false])))
set_option maxRecDepth 100000 in
set_option maxHeartbeats 3200000 in
theorem mputc_any (a : Option Addr) (n c : Nat) (xs : List shChange.T) (w : World) (hx : Rd (· < w.heap.size) w shChanges [.slice a n c] xs) :
    Calls Try.prog 26 #[.slice a n c] w fun e w' => PCPost (xs.map toChange) w e w' := by
  have HX := Lib.hid hx
  clear hx
  obtain ⟨w1, hw1⟩ : ∃ w1, w.alloc (.cells #[.slice none 0 0, .bool false] 87) = w1 := ⟨_, rfl⟩
  have k01 : Kept [] w w1 := by rw [← hw1]; exact (Kept.refl _ _).alloc _
  have A1 := Lib.hid (show WAt w1 w.heap.size w.heap.size [w.heap.size] ([], false) from ⟨Nat.le_refl _, .slice none 0 0, by rw [← hw1]; exact Blk.new w _ _, OwnV.nil _ _ _, rfl⟩)
  have B1 := Lib.hid (show Below w.heap.size w w1 from by rw [← hw1]; exact (Below.refl _ _).alloc (Nat.le_refl _) _)
  have X1 := Lib.hid (show Rd (· < w.heap.size) w1 shChanges [.slice a n c] xs from HX.out.kept k01 (by simp))
  clear k01
  go_enter Try.func26, Try.ntmps26
  go_wp2_with (fail)
  try rw [hw1]
  clear hw1
  refine (wchanges_any a n c xs w.heap.size w.heap.size [w.heap.size] ([], false) w1 A1.out (by decide) X1.out).mono ?_
  rintro e w2 ⟨rfl, F2, ⟨bs, bad⟩, h2, ⟨_, t2, t3⟩, k2, _⟩
  have A2 := Lib.hid h2
  have B2 := Lib.hid (B1.out.trans (A1.out.below k2 A1.out.le))
  simp only [true_and, List.nil_append] at t2 t3
  cases bad
  · have YES := Lib.hid (show (cMany cChange).fits (xs.map toChange) from t2.1 rfl)
    have EQ := Lib.hid (show bs = (cMany cChange).enc (xs.map toChange) from t3 rfl)
    clear h2 t2 t3 k2
    go_wp2_with (fail)
    refine (wend_good w.heap.size w.heap.size F2 bs w2 A2.out).mono ?_
    rintro e w3 ⟨rfl, v, rfl, ho⟩
    have O3 := Lib.hid ho
    clear ho
    go_wp2
    go_ret2
    exact ⟨B2.out, .inl ⟨YES.out, v, rfl, by rw [← EQ.out]; exact O3.out⟩⟩
  · have NO := Lib.hid (show ¬ (cMany cChange).fits (xs.map toChange) from fun hh => nomatch t2.2 hh)
    clear h2 t2 t3 k2
    go_wp2_with (fail)
    refine (wend_bad w.heap.size w.heap.size F2 bs w2 A2.out).mono ?_
    rintro e w3 ⟨rfl, rfl⟩
    go_wp2
    go_ret2
    exact ⟨B2.out, .inr ⟨NO.out, rfl⟩⟩

/-- What bytes say as changes. -/
def readC (l : List Nat) : List ChangeV ⊕ Nat :=
  match (cMany cChange).dec l with
  | .inr e => .inr e
  | .inl (x, r) => if r = [] then .inl x else .inr 60
/-- What the end tells of changes. -/
def endC (x : List ChangeV) : List Nat ⊕ Nat → List ChangeV ⊕ Nat
  | .inl r => if r = [] then .inl x else .inr 60
  | .inr e => .inr e
/-- What GetChanges leaves. -/
def GCPost (l : List Nat) (w : World) (e : Ending) (w' : World) : Prop := Below w.heap.size w w' ∧
  ((∃ (p : SlL) (xs : List shChange.T), readC l = .inl (xs.map toChange) ∧ e = .returned (.tuple #[.slice p.a p.n p.c, .int .i64 0]) ∧ Rd (w.heap.size ≤ ·) w' shChanges [.slice p.a p.n p.c] xs) ∨
    (∃ er : Nat, readC l = .inr er ∧ er ≠ 0 ∧ e = .returned (.tuple #[.slice none 0 0, .int .i64 (er : Int)])))
set_option maxRecDepth 100000 in
set_option maxHeartbeats 3200000 in
theorem mgetc_any (a : Option Addr) (n c : Nat) (l : List Nat) (w : World) (h : BReads w a n c l) :
    Calls Try.prog 28 #[.slice a n c] w fun e w' => GCPost l w e w' := by
  have HR := Lib.hid h
  clear h
  obtain ⟨w1, hw1⟩ : ∃ w1, w.alloc (.cells #[.slice a n c, .int .i64 0] 91) = w1 := ⟨_, rfl⟩
  have k01 : Kept [] w w1 := by rw [← hw1]; exact (Kept.refl _ _).alloc _
  have B1 := Lib.hid (show Below w.heap.size w w1 from by rw [← hw1]; exact (Below.refl _ _).alloc (Nat.le_refl _) _)
  have S1 := Lib.hid (show CState w1 w.heap.size w.heap.size (.inl l) from by
    refine ⟨a, n, c, by rw [← hw1]; exact Blk.new w _ _, HR.out.on B1.out, fun h0 ad had => ?_⟩
    rcases HR.out.cells with h | ⟨b, off, e, hlt, _⟩
    · omega
    · rw [had] at e
      cases e
      exact ⟨hlt, Nat.le_refl _⟩)
  have HW1 := Lib.hid hw1
  clear k01 hw1
  go_enter Try.func28, Try.ntmps28
  go_wp2_with (fail)
  rw [HW1.out]
  clear HW1
  refine (cchanges_any w.heap.size w.heap.size (.inl l) w1 S1.out).mono ?_
  rintro e w2 ⟨hk, v, x, st, rfl, hV, hs, ht⟩
  obtain ⟨p, xs, rfl, hr, rfl⟩ := hV.sl
  have S2 := Lib.hid hs
  have R2 := Lib.hid hr
  have B2 := Lib.hid (B1.out.trans (hk.below (B := w.heap.size) (by simp) B1.out.size))
  have T2 := Lib.hid (show readC l = endC (xs.map toChange) st from by
    unfold readC
    rcases st with r | e
    · have h1 : (cMany cChange).dec l = .inl (xs.map toChange, r) := ht
      rw [h1]
      rfl
    · have h1 : (cMany cChange).dec l = .inr e := ht
      rw [h1]
      rfl)
  have NZ := Lib.hid (show ∀ e, st = .inr e → e ≠ 0 from fun e he => by
    rw [he] at hs
    exact hs.1)
  have hs1 := B1.out.size
  clear hk hV hr hs ht
  go_wp2_with (fail)
  refine (cend_any w.heap.size w.heap.size st w2 S2.out).mono ?_
  rintro e w3 ⟨hend, hk3⟩
  have B3 := Lib.hid (B2.out.trans (hk3.below (B := w.heap.size) (by simp) B2.out.size))
  have R3 := Lib.hid (show Rd (w.heap.size ≤ ·) w3 shChanges [.slice p.a p.n p.c] xs from (R2.out.kept hk3 (fun k hk ho => by
    simp at hk
    have := S1.out.lt
    omega)).mono (fun k hk _ => by omega))
  obtain ⟨er, her, herr⟩ : ∃ er : Nat, e = .returned (.int .i64 (er : Int)) ∧ ((er = 0 ∧ readC l = .inl (xs.map toChange)) ∨ (er ≠ 0 ∧ readC l = .inr er)) := by
    have h1 := T2.out
    have h2 := NZ.out
    rcases st with r | e
    · refine ⟨_, hend, ?_⟩
      by_cases hr : r = []
      · rw [if_pos hr]
        exact .inl ⟨rfl, by rw [h1]; simp only [endC, if_pos hr]⟩
      · rw [if_neg hr]
        exact .inr ⟨by decide, by rw [h1]; simp only [endC, if_neg hr]⟩
    · exact ⟨e, hend, .inr ⟨h2 e rfl, h1⟩⟩
  subst her
  have HER := Lib.hid herr
  clear hend hk3 herr S2 R2 T2 NZ
  by_cases he0 : er = 0
  · subst he0
    have OK := Lib.hid (show readC l = .inl (xs.map toChange) from by
      rcases HER.out with ⟨_, h⟩ | ⟨h, _⟩
      · exact h
      · exact absurd rfl h)
    go_wp2
    go_ret2
    exact ⟨B3.out, .inl ⟨p, xs, OK.out, rfl, R3.out⟩⟩
  · have he0b : ((er : Int) != 0) = true := by simp; omega
    have BAD := Lib.hid (show readC l = .inr er from by
      rcases HER.out with ⟨h, _⟩ | ⟨_, h⟩
      · exact absurd h he0
      · exact h)
    go_wp2
    go_ret2
    exact ⟨B3.out, .inr ⟨er, BAD.out, he0, rfl⟩⟩
end Go.Proofs.Ytdlpifcfgfhagaa
