/-
  Layer 14: Take with what is known of the cursor; the document's example.
-/
import Derived.Test.YtadkfedglkhgjaaQrl
namespace Go.Proofs.Ytadkfedglkhgjaa
open Go.RowKit Go.ChangeShapes Go.WideShapes Go.ChangeAt Go.Maps

theorem takeE_ok {s : CTab} {owner n page : Nat} {c : CurV} (ho : s.own owner n = some c) (hm : c.may page = true) : s.takeE owner n page = 0 := by
  unfold CTab.takeE
  rw [ho]
  simp only [hm]
  rfl
theorem take_ok {s : CTab} {owner n page now : Nat} {c : CurV} (ho : s.own owner n = some c) (hm : c.may page = true) : s.take owner n page now = s.turn { c with used := now } := by
  unfold CTab.take
  rw [ho]
  simp only [hm]
  rfl
def TookC (w0 : World) (k x : Nat) (s : CTab) (c : CurV) (page now : Nat) (w : World) (e : Ending) (w' : World) : Prop := ∃ y : QryL, y.q = c.q ∧ e = .returned (.tuple #[askA c.pin y (c.behind page), .int .i64 0]) ∧ y.Own w.heap.size w' ∧ CAt w0 k x (s.turn { c with used := now }) w' ∧ Stays w w'
theorem c_take_ok {w0 w : World} {k x : Nat} {s : CTab} (h : CAt w0 k x s w) (owner n page now : Nat) (hn : n < 4294967296) (hp : page < 4294967296) (hnw : now < 4294967296) (c : CurV) (ho : s.own owner n = some c) (hm : c.may page = true) :
    Calls Try.prog 11 #[.pointer (some ⟨x, 0, none⟩), .int .u64 (owner : Int), .int .u32 (n : Int), .int .u32 (page : Int), .int .u32 (now : Int)] w (TookC w0 k x s c page now w) := by
  refine (c_take h owner n page now hn hp hnw).mono ?_
  rintro e w' (⟨he, -, -⟩ | ⟨-, c', y, ho', hm', hq, rfl, hy, hc, hs⟩)
  · exact absurd (takeE_ok ho hm) he
  · rw [ho] at ho'
    obtain rfl := Option.some.inj ho'
    rw [take_ok ho hm] at hc
    exact ⟨y, hq, rfl, hy, hc, hs⟩
theorem c_take_err {w0 w : World} {k x : Nat} {s : CTab} (h : CAt w0 k x s w) (owner n page now : Nat) (hn : n < 4294967296) (hp : page < 4294967296) (hnw : now < 4294967296) (er : Nat) (he : s.takeE owner n page = er) (h0 : er ≠ 0) :
    Calls Try.prog 11 #[.pointer (some ⟨x, 0, none⟩), .int .u64 (owner : Int), .int .u32 (n : Int), .int .u32 (page : Int), .int .u32 (now : Int)] w fun e w' => e = .returned (.tuple #[.agg #[.int .i64 0, .slice none 0 0, .slice none 0 0, .slice none 0 0, .slice none 0 0, .bool false, .int .i64 0, .int .u32 0], .int .i64 (er : Int)]) ∧ CAt w0 k x s w' ∧ Stays w w' := by
  refine (c_take h owner n page now hn hp hnw).mono ?_
  rintro e w' (⟨_, rfl, hc, hs, -⟩ | ⟨he', -⟩)
  · rw [he]
    exact ⟨rfl, hc, hs⟩
  · rw [he] at he'
    exact absurd he' h0
/-- Where it fails Take only makes memory. -/
theorem c_take_quiet {w0 w : World} {k x : Nat} {s : CTab} (h : CAt w0 k x s w) (owner n page now : Nat) (hn : n < 4294967296) (hp : page < 4294967296) (hnw : now < 4294967296) (er : Nat) (he : s.takeE owner n page = er) (h0 : er ≠ 0) :
    Calls Try.prog 11 #[.pointer (some ⟨x, 0, none⟩), .int .u64 (owner : Int), .int .u32 (n : Int), .int .u32 (page : Int), .int .u32 (now : Int)] w fun e w' => e = .returned (.tuple #[.agg #[.int .i64 0, .slice none 0 0, .slice none 0 0, .slice none 0 0, .slice none 0 0, .bool false, .int .i64 0, .int .u32 0], .int .i64 (er : Int)]) ∧ Below w.heap.size w w' := by
  refine (c_take h owner n page now hn hp hnw).mono ?_
  rintro e w' (⟨_, rfl, -, -, hbw⟩ | ⟨he', -⟩)
  · rw [he]
    exact ⟨rfl, hbw⟩
  · rw [he] at he'
    exact absurd he' h0
/-- An ask as it lies in a cell of a law. -/
def askC (pin : Int) (y : QryL) (e : EndV) : List Value := [.int .i64 pin, .slice y.pv.1 y.pv.2.1 y.pv.2.2, .slice y.p0.1 y.p0.2.1 y.p0.2.2, .slice y.p1.1 y.p1.2.1 y.p1.2.2, .slice y.p2.1 y.p2.2.1 y.p2.2.2, .bool e.has, .int .i64 e.dist, .int .u32 e.id]
/-- A cell of an ask is laid, and an ask stored there. -/
theorem ask_cell (w : World) (pin : Int) (y : QryL) (eh : Bool) (ed ei : Int) : ∃ wz w', w.alloc (.cells #[.int .i64 0, .slice none 0 0, .slice none 0 0, .slice none 0 0, .slice none 0 0, .bool false, .int .i64 0, .int .u32 0] 49) = wz ∧ ((((((((wz.setCell ⟨w.heap.size, 0, none⟩ (.int .i64 pin)).setCell ⟨w.heap.size, 1, none⟩ (.slice y.pv.1 y.pv.2.1 y.pv.2.2)).setCell ⟨w.heap.size, 2, none⟩ (.slice y.p0.1 y.p0.2.1 y.p0.2.2)).setCell ⟨w.heap.size, 3, none⟩ (.slice y.p1.1 y.p1.2.1 y.p1.2.2)).setCell ⟨w.heap.size, 4, none⟩ (.slice y.p2.1 y.p2.2.1 y.p2.2.2)).setCell ⟨w.heap.size, 5, none⟩ (.bool eh)).setCell ⟨w.heap.size, 6, none⟩ (.int .i64 ed)).setCell ⟨w.heap.size, 7, none⟩ (.int .u32 ei)) = w' ∧ (wz.cell? ⟨w.heap.size, 0, none⟩ = some (.int .i64 0) ∧ wz.cell? ⟨w.heap.size, 1, none⟩ = some (.slice none 0 0) ∧ wz.cell? ⟨w.heap.size, 2, none⟩ = some (.slice none 0 0) ∧ wz.cell? ⟨w.heap.size, 3, none⟩ = some (.slice none 0 0) ∧ wz.cell? ⟨w.heap.size, 4, none⟩ = some (.slice none 0 0) ∧ wz.cell? ⟨w.heap.size, 5, none⟩ = some (.bool false) ∧ wz.cell? ⟨w.heap.size, 6, none⟩ = some (.int .i64 0) ∧ wz.cell? ⟨w.heap.size, 7, none⟩ = some (.int .u32 0) ∧ wz.frozen? ⟨w.heap.size, 0, none⟩ = false ∧ wz.frozen? ⟨w.heap.size, 1, none⟩ = false ∧ wz.frozen? ⟨w.heap.size, 2, none⟩ = false ∧ wz.frozen? ⟨w.heap.size, 3, none⟩ = false ∧ wz.frozen? ⟨w.heap.size, 4, none⟩ = false ∧ wz.frozen? ⟨w.heap.size, 5, none⟩ = false ∧ wz.frozen? ⟨w.heap.size, 6, none⟩ = false ∧ wz.frozen? ⟨w.heap.size, 7, none⟩ = false) ∧ Below w.heap.size w w' ∧ Blk w' w.heap.size 49 (askC pin y ⟨eh, ed, ei⟩) := by
  obtain ⟨wz, hwz⟩ : ∃ wz, w.alloc (.cells #[.int .i64 0, .slice none 0 0, .slice none 0 0, .slice none 0 0, .slice none 0 0, .bool false, .int .i64 0, .int .u32 0] 49) = wz := ⟨_, rfl⟩
  have N : Blk wz w.heap.size 49 [.int .i64 0, .slice none 0 0, .slice none 0 0, .slice none 0 0, .slice none 0 0, .bool false, .int .i64 0, .int .u32 0] := by rw [← hwz]; exact Blk.new _ _ _
  have hb : Below w.heap.size w wz := by rw [← hwz]; exact (Below.refl _ _).alloc (Nat.le_refl _) _
  have k9 : Kept [w.heap.size] wz ((((((((wz.setCell ⟨w.heap.size, 0, none⟩ (.int .i64 pin)).setCell ⟨w.heap.size, 1, none⟩ (.slice y.pv.1 y.pv.2.1 y.pv.2.2)).setCell ⟨w.heap.size, 2, none⟩ (.slice y.p0.1 y.p0.2.1 y.p0.2.2)).setCell ⟨w.heap.size, 3, none⟩ (.slice y.p1.1 y.p1.2.1 y.p1.2.2)).setCell ⟨w.heap.size, 4, none⟩ (.slice y.p2.1 y.p2.2.1 y.p2.2.2)).setCell ⟨w.heap.size, 5, none⟩ (.bool eh)).setCell ⟨w.heap.size, 6, none⟩ (.int .i64 ed)).setCell ⟨w.heap.size, 7, none⟩ (.int .u32 ei)) := (((((((((Kept.refl [w.heap.size] wz).setCell ⟨w.heap.size, 0, none⟩ (.int .i64 pin) (.inl (by simp))).setCell ⟨w.heap.size, 1, none⟩ (.slice y.pv.1 y.pv.2.1 y.pv.2.2) (.inl (by simp))).setCell ⟨w.heap.size, 2, none⟩ (.slice y.p0.1 y.p0.2.1 y.p0.2.2) (.inl (by simp))).setCell ⟨w.heap.size, 3, none⟩ (.slice y.p1.1 y.p1.2.1 y.p1.2.2) (.inl (by simp))).setCell ⟨w.heap.size, 4, none⟩ (.slice y.p2.1 y.p2.2.1 y.p2.2.2) (.inl (by simp))).setCell ⟨w.heap.size, 5, none⟩ (.bool eh) (.inl (by simp))).setCell ⟨w.heap.size, 6, none⟩ (.int .i64 ed) (.inl (by simp))).setCell ⟨w.heap.size, 7, none⟩ (.int .u32 ei) (.inl (by simp)))
  exact ⟨wz, _, hwz, rfl, ⟨N.cell 0, N.cell 1, N.cell 2, N.cell 3, N.cell 4, N.cell 5, N.cell 6, N.cell 7, N.frozen 0, N.frozen 1, N.frozen 2, N.frozen 3, N.frozen 4, N.frozen 5, N.frozen 6, N.frozen 7⟩, hb.trans (k9.below (fun b hb => by rw [List.mem_singleton] at hb; omega) hb.size), ((((((((N.set 0 (.int .i64 pin)).set 1 (.slice y.pv.1 y.pv.2.1 y.pv.2.2)).set 2 (.slice y.p0.1 y.p0.2.1 y.p0.2.2)).set 3 (.slice y.p1.1 y.p1.2.1 y.p1.2.2)).set 4 (.slice y.p2.1 y.p2.2.1 y.p2.2.2)).set 5 (.bool eh)).set 6 (.int .i64 ed)).set 7 (.int .u32 ei))⟩
theorem hits_two (w : World) (d1 i1 d2 i2 : Int) : HitsQ (w.alloc (.cells #[.int .i64 d1, .int .u32 i1, .int .i64 d2, .int .u32 i2] 47)) (some ⟨w.heap.size, 0, none⟩) 2 [(d1, i1), (d2, i2)] := by
  refine ⟨rfl, by decide, .inr ⟨_, _, rfl, by simp, fun i x hx => ?_⟩⟩
  have hb := Blk.new w 47 #[.int .i64 d1, .int .u32 i1, .int .i64 d2, .int .u32 i2]
  match i, hx with
  | 0, hx =>
    simp only [List.getElem?_cons_zero, Option.some.injEq] at hx
    subst hx
    exact ⟨hb.cell 0, hb.cell 1⟩
  | 1, hx =>
    simp only [List.getElem?_cons_succ, List.getElem?_cons_zero, Option.some.injEq] at hx
    subst hx
    exact ⟨hb.cell 2, hb.cell 3⟩
  | i + 2, hx => simp at hx
def cuA : CurV := ⟨1, 7, 5, ⟨[1], [], [], []⟩, 0, 0, EndV.nil, EndV.nil⟩
def cuB : CurV := ⟨1, 7, 5, ⟨[1], [], [], []⟩, 0, 1, EndV.nil, ⟨true, 2, 6⟩⟩
def tbA : CTab := ⟨[cuA], 1, 9⟩
def tbB : CTab := ⟨[cuB], 1, 9⟩
set_option maxRecDepth 100000 in
set_option maxHeartbeats 6400000 in
theorem alive14 (w : World) : Calls Try.prog 5 #[] w fun e w' => e = .returned (.bool true) ∧ Below w.heap.size w w' := by
  go_enter Try.func5, Try.ntmps5
  go_wp2_with (fail)
  refine (c_new w w (Below.refl _ _) 9 (by decide)).mono ?_
  rintro e w1 ⟨x, rfl, h1⟩
  have H1 := Lib.hid h1
  clear h1
  go_wp2_with (fail)
  refine (c_open H1.out ((Below.refl _ w1).alloc (Nat.le_refl _) _) (by decide) 7 0 5 (by decide) (by decide) (oneQ w1.heap.size 1) (oneQ_in w.heap.size w1 1 rfl)).mono ?_
  rintro e w2 ⟨s0, gone, hs, rfl, h2, -⟩
  rcases hs with ⟨-, rfl, rfl⟩ | ⟨hl, -⟩
  rotate_left
  · exact absurd hl (by decide)
  have H2 := Lib.hid (show CAt w 1 x tbA w2 from h2)
  clear h2 H1
  rw [show (({ cs := [], last := 0, idle := 9 } : CTab).last + 1) = 1 from rfl]
  go_wp2_with (fail)
  refine (c_take_ok H2.out 7 1 1 0 (by decide) (by decide) (by decide) cuA rfl rfl).mono ?_
  rintro e w3 ⟨y1, -, rfl, -, h3, -⟩
  have H3 := Lib.hid (show CAt w 1 x tbA w3 from h3)
  clear h3 H2
  unfold askA
  rw [show cuA.behind 1 = ⟨false, 0, 0⟩ from rfl, show cuA.pin = 5 from rfl]
  obtain ⟨wz, w4, hwz, hwn, ⟨qz0, qz1, qz2, qz3, qz4, qz5, qz6, qz7, qf0, qf1, qf2, qf3, qf4, qf5, qf6, qf7⟩, b, a⟩ := ask_cell w3 5 y1 false 0 0
  have B4 := Lib.hid b
  have A4 := Lib.hid a
  clear a b
  go_wp2_with (first | (rw [hwz]) | (rw [hwn]) | fail)
  try rw [hwz]
  try rw [hwn]
  clear hwz hwn qz0 qz1 qz2 qz3 qz4 qz5 qz6 qz7 qf0 qf1 qf2 qf3 qf4 qf5 qf6 qf7
  have H4 := Lib.hid (H3.out.on B4.out)
  clear H3
  refine (c_told H4.out ((Below.refl _ w4).alloc (Nat.le_refl _) _) 1 1 (by decide) (by decide) _ 2 2 _ (hits_two w4 1 5 2 6) (fun _ b off e => by cases e; exact .inr (Nat.le_refl _))).mono ?_
  rintro e w5 ⟨rfl, h5, st5⟩
  have H5 := Lib.hid (show CAt w 2 x tbB w5 from h5)
  have A4 := Lib.hid (st5 _ (by decide) (by decide) (by decide) (by decide) _ _ (A4.out.alloc (.cells #[.int .i64 1, .int .u32 5, .int .i64 2, .int .u32 6] 47)))
  clear h5 st5 H4 B4
  go_wp2_with (fail)
  refine (c_take_ok H5.out 7 1 2 0 (by decide) (by decide) (by decide) cuB rfl rfl).mono ?_
  rintro e w6 ⟨y2, -, rfl, -, h6, st⟩
  have H6 := Lib.hid (show CAt w 2 x tbB w6 from h6)
  have A4 := Lib.hid (st _ (by decide) (by decide) (by decide) (by decide) _ _ A4.out)
  clear h6 st H5
  unfold askA
  rw [show cuB.behind 2 = ⟨true, 2, 6⟩ from rfl, show cuB.pin = 5 from rfl]
  obtain ⟨wz, w7, hwz, hwn, ⟨qz0, qz1, qz2, qz3, qz4, qz5, qz6, qz7, qf0, qf1, qf2, qf3, qf4, qf5, qf6, qf7⟩, b, a⟩ := ask_cell w6 5 y2 true 2 6
  have B7 := Lib.hid b
  have A7 := Lib.hid a
  clear a b
  go_wp2_with (first | (rw [hwz]) | (rw [hwn]) | fail)
  try rw [hwz]
  try rw [hwn]
  clear hwz hwn qz0 qz1 qz2 qz3 qz4 qz5 qz6 qz7 qf0 qf1 qf2 qf3 qf4 qf5 qf6 qf7
  have A4 := Lib.hid (Stays.below B7.out _ (by decide) (by decide) (by decide) (by decide) _ _ A4.out)
  have H7 := Lib.hid (H6.out.on B7.out)
  clear H6 B7
  go_wp2_with (fail)
  refine (c_take_ok H7.out 7 1 1 0 (by decide) (by decide) (by decide) cuB rfl rfl).mono ?_
  rintro e w8 ⟨y3, -, rfl, -, h8, st⟩
  have H8 := Lib.hid (show CAt w 2 x tbB w8 from h8)
  have A4 := Lib.hid (st _ (by decide) (by decide) (by decide) (by decide) _ _ A4.out)
  have A7 := Lib.hid (st _ (by decide) (by decide) (by decide) (by decide) _ _ A7.out)
  clear h8 st H7
  unfold askA
  rw [show cuB.behind 1 = ⟨false, 0, 0⟩ from rfl, show cuB.pin = 5 from rfl]
  obtain ⟨wz, w9, hwz, hwn, ⟨qz0, qz1, qz2, qz3, qz4, qz5, qz6, qz7, qf0, qf1, qf2, qf3, qf4, qf5, qf6, qf7⟩, b, a⟩ := ask_cell w8 5 y3 false 0 0
  have B9 := Lib.hid b
  have A9 := Lib.hid a
  clear a b
  go_wp2_with (first | (rw [hwz]) | (rw [hwn]) | fail)
  try rw [hwz]
  try rw [hwn]
  clear hwz hwn qz0 qz1 qz2 qz3 qz4 qz5 qz6 qz7 qf0 qf1 qf2 qf3 qf4 qf5 qf6 qf7
  have A4 := Lib.hid (Stays.below B9.out _ (by decide) (by decide) (by decide) (by decide) _ _ A4.out)
  have A7 := Lib.hid (Stays.below B9.out _ (by decide) (by decide) (by decide) (by decide) _ _ A7.out)
  have H9 := Lib.hid (H8.out.on B9.out)
  clear H8 B9
  go_wp2_with (fail)
  refine (c_take_err H9.out 7 1 3 0 (by decide) (by decide) (by decide) 1 rfl (by decide)).mono ?_
  rintro e w10 ⟨rfl, h10, st⟩
  have B10 := Lib.hid h10.below
  have A4 := Lib.hid (st _ (by decide) (by decide) (by decide) (by decide) _ _ A4.out)
  have A7 := Lib.hid (st _ (by decide) (by decide) (by decide) (by decide) _ _ A7.out)
  have A9 := Lib.hid (st _ (by decide) (by decide) (by decide) (by decide) _ _ A9.out)
  clear h10 st H9
  obtain ⟨wz, w11, hwz, hwn, ⟨qz0, qz1, qz2, qz3, qz4, qz5, qz6, qz7, qf0, qf1, qf2, qf3, qf4, qf5, qf6, qf7⟩, b, -⟩ := ask_cell w10 0 ⟨(none, 0, 0), (none, 0, 0), (none, 0, 0), (none, 0, 0), ⟨[], [], [], []⟩⟩ false 0 0
  have A4 := Lib.hid (Stays.below b _ (by decide) (by decide) (by decide) (by decide) _ _ A4.out)
  have A7 := Lib.hid (Stays.below b _ (by decide) (by decide) (by decide) (by decide) _ _ A7.out)
  have A9 := Lib.hid (Stays.below b _ (by decide) (by decide) (by decide) (by decide) _ _ A9.out)
  have B11 := Lib.hid (B10.out.trans (b.mono B10.out.size))
  clear b B10
  have a3 : w11.cell? ⟨w3.heap.size, 5, none⟩ = some (.bool false) := A4.out.cell 5
  have a0 : w11.cell? ⟨w3.heap.size, 0, none⟩ = some (.int .i64 5) := A4.out.cell 0
  have b3 : w11.cell? ⟨w6.heap.size, 5, none⟩ = some (.bool true) := A7.out.cell 5
  have b4 : w11.cell? ⟨w6.heap.size, 6, none⟩ = some (.int .i64 2) := A7.out.cell 6
  have b5 : w11.cell? ⟨w6.heap.size, 7, none⟩ = some (.int .u32 6) := A7.out.cell 7
  have d3 : w11.cell? ⟨w8.heap.size, 5, none⟩ = some (.bool false) := A9.out.cell 5
  go_wp2_with (first | (rw [hwz]) | (rw [hwn]) | fail)
  try rw [hwz]
  try rw [hwn]
  go_wp2
  go_ret
  exact ⟨rfl, B11.out⟩
end Go.Proofs.Ytadkfedglkhgjaa
