/-
  FixvecLess holds: of any three hits the program's Less tells what the document tells, of two unlike ones just one is less, and of three it goes on; what came in reads as before.
-/
import Derived.Test.YtoaccegmeflpnaaOne
import Derived.Deep.RegionHeld3
import Derived.Lib.SmallJoins
namespace Go.Proofs.Ytoaccegmeflpnaa
open Go.ChangeShapes Go.WideShapes Go.ChangeAt Go.RowKit Go.Joins

/-- Which of two hits is less. -/
def lessV (a i b j : Int) : Bool := decide (a < b) || (decide (a = b) && decide (i < j))

theorem less_any (a i b j : Int) (w : World) :
    Calls Try.prog 15 #[.agg #[.int .i64 a, .int .u32 i], .agg #[.int .i64 b, .int .u32 j]] w fun e w' => e = .returned (.bool (lessV a i b j)) ∧ Below w.heap.size w w' := by
  by_cases h1 : a = b
  · subst h1
    have hn : (a != a) = false := by simp
    by_cases h2 : i < j
    · go_enter Try.func15, Try.ntmps15
      go_wp2
      go_ret
      exact ⟨ret_bool (by simp [lessV, h2]), by go_grown⟩
    · go_enter Try.func15, Try.ntmps15
      go_wp2
      go_ret
      exact ⟨ret_bool (by simp [lessV, h2]), by go_grown⟩
  · have hn : (a != b) = true := by simpa using h1
    by_cases h2 : a < b
    · go_enter Try.func15, Try.ntmps15
      go_wp2
      go_ret
      exact ⟨ret_bool (by simp [lessV, h2]), by go_grown⟩
    · go_enter Try.func15, Try.ntmps15
      go_wp2
      go_ret
      exact ⟨ret_bool (by simp [lessV, h2, h1]), by go_grown⟩

theorem less_eq (a i b j : Int) (z : Bool) (hz : Hid (lessV a i b j = z)) (w : World) :
    Calls Try.prog 15 #[.agg #[.int .i64 a, .int .u32 i], .agg #[.int .i64 b, .int .u32 j]] w fun e w' => e = .returned (.bool z) ∧ Below w.heap.size w w' := by
  rw [← hz.out]
  exact less_any a i b j w

/-- Three hits lie in blocks B, B+1, B+2. -/
def HitsAt (B : Nat) (a i b j c k : Int) (w : World) : Prop :=
  B + 2 < w.heap.size ∧ w.cell? ⟨B, 0, none⟩ = some (.int .i64 a) ∧ w.cell? ⟨B, 1, none⟩ = some (.int .u32 i) ∧ w.cell? ⟨B + 1, 0, none⟩ = some (.int .i64 b) ∧ w.cell? ⟨B + 1, 1, none⟩ = some (.int .u32 j) ∧
  w.cell? ⟨B + 2, 0, none⟩ = some (.int .i64 c) ∧ w.cell? ⟨B + 2, 1, none⟩ = some (.int .u32 k)
theorem HitsAt.below {B : Nat} {a i b j c k : Int} {w w' : World} (h : HitsAt B a i b j c k w) (hb : Below w.heap.size w w') : HitsAt B a i b j c k w' := by
  obtain ⟨h0, h1, h2, h3, h4, h5, h6⟩ := h
  have := hb.size
  refine ⟨by omega, ?_, ?_, ?_, ?_, ?_, ?_⟩
  · rw [hb.cell (p := ⟨B, 0, none⟩) (by show B < _; omega)]; exact h1
  · rw [hb.cell (p := ⟨B, 1, none⟩) (by show B < _; omega)]; exact h2
  · rw [hb.cell (p := ⟨B + 1, 0, none⟩) (by show B + 1 < _; omega)]; exact h3
  · rw [hb.cell (p := ⟨B + 1, 1, none⟩) (by show B + 1 < _; omega)]; exact h4
  · rw [hb.cell (p := ⟨B + 2, 0, none⟩) (by show B + 2 < _; omega)]; exact h5
  · rw [hb.cell (p := ⟨B + 2, 1, none⟩) (by show B + 2 < _; omega)]; exact h6

theorem HitsAt.both {w w1 w2 : World} {a i b j c k : Int} (h : HitsAt w.heap.size a i b j c k w1) (h1 : Below w.heap.size w w1) (hb : Below w1.heap.size w1 w2) :
    w.heap.size + 2 < w2.heap.size ∧ w2.cell? ⟨w.heap.size, 0, none⟩ = some (.int .i64 a) ∧ w2.cell? ⟨w.heap.size, 1, none⟩ = some (.int .u32 i) ∧ w2.cell? ⟨w.heap.size + 1, 0, none⟩ = some (.int .i64 b) ∧ w2.cell? ⟨w.heap.size + 1, 1, none⟩ = some (.int .u32 j) ∧
    w2.cell? ⟨w.heap.size + 2, 0, none⟩ = some (.int .i64 c) ∧ w2.cell? ⟨w.heap.size + 2, 1, none⟩ = some (.int .u32 k) ∧ Below w.heap.size w w2 := by
  obtain ⟨k0, k1, k2, k3, k4, k5, k6⟩ := h.below hb
  exact ⟨k0, k1, k2, k3, k4, k5, k6, h1.trans (hb.mono h1.size)⟩

theorem less_chain (a i b j c k : Int) : lessV a i b j = true → lessV b j c k = true → lessV a i c k = true := by
  simp only [lessV, Bool.or_eq_true, Bool.and_eq_true, decide_eq_true_eq]
  omega

theorem hit_cells : Try.prog.cellsOf 35 = 2 := by kernel_rfl

theorem hit_at {H : Type} {enc : TypeId × Value → H} {W : World} {base : Nat} {ts : Array TypeId} {args : Array Value} {ds : List (DataW H)} {p : List MemPlace} (g : Given enc Try.prog W base ts args ds p) (n : Nat) (ht : ts[n]? = some 35) :
    ∃ a i, args[n]? = some (.agg #[.int .i64 a, .int .u32 i]) := by
  obtain ⟨v, d, q, e1, e2, h0, hq, hok⟩ := g.at n ht
  obtain ⟨c0, c1, y0, y1, m, rfl, rfl, rfl, hy0, hy1⟩ := open_agg2 Try.underlying35 (by kernel_rfl) hit_cells hok h0
  obtain ⟨a, x0, rfl, wa⟩ := DataW.trod_int Try.underlying2 hy0
  obtain ⟨b, x1, rfl, wb⟩ := DataW.trod_int Try.underlying33 hy1
  simp at x0 x1
  subst x0 x1
  exact ⟨a, b, e1⟩

set_option maxHeartbeats 3200000 in
theorem less_walk (a i b j c k : Int) (x y p q : Bool) (w : World) (hx : Hid (lessV a i b j = x)) (hy : Hid (lessV b j a i = y)) (hp : Hid (lessV b j c k = p)) (hq : Hid (lessV a i c k = q))
    (hc : a < b ∨ (a = b ∧ i < j) ∨ (a = b ∧ i = j) ∨ (a = b ∧ j < i) ∨ b < a) :
    Calls Try.prog 5 #[.agg #[.int .i64 a, .int .u32 i], .agg #[.int .i64 b, .int .u32 j], .agg #[.int .i64 c, .int .u32 k]] w fun e w' => e = .returned (.bool true) ∧ Below w.heap.size w w' := by
  have HX := Lib.hid hc
  clear hc
  go_enter Try.func5, Try.ntmps5
  go_wp2_with (fail)
  refine (alive1 _).mono ?_
  rintro e w1 ⟨rfl, hb1⟩
  have H0 : HitsAt w.heap.size a i b j c k (((w.alloc (.cells #[.int .i64 a, .int .u32 i] 35)).alloc (.cells #[.int .i64 b, .int .u32 j] 35)).alloc (.cells #[.int .i64 c, .int .u32 k] 35)) := by
    refine ⟨by simp, ?_, ?_, ?_, ?_, ?_, ?_⟩ <;> simp [go_sem]
  have H1 := H0.below hb1
  have B1 : Below w.heap.size w w1 := ((((Below.refl _ _).alloc (Nat.le_refl _) _).alloc (by simp) _).alloc (by simp; omega) _).trans (hb1.mono (by simp; omega))
  clear H0 hb1
  obtain ⟨s1, k1, k2, k3, k4, k5, k6⟩ := H1
  go_wp2_with (fail)
  go_region_held3 (fun w' => w.heap.size + 2 < w'.heap.size ∧ w'.cell? ⟨w.heap.size, 0, none⟩ = some (.int .i64 a) ∧ w'.cell? ⟨w.heap.size, 1, none⟩ = some (.int .u32 i) ∧ w'.cell? ⟨w.heap.size + 1, 0, none⟩ = some (.int .i64 b) ∧ w'.cell? ⟨w.heap.size + 1, 1, none⟩ = some (.int .u32 j) ∧
    w'.cell? ⟨w.heap.size + 2, 0, none⟩ = some (.int .i64 c) ∧ w'.cell? ⟨w.heap.size + 2, 1, none⟩ = some (.int .u32 k) ∧ Below w.heap.size w w')
    (first
      | (go_keep; done)
      | exact ⟨s1, k1, k2, k3, k4, k5, k6, B1.drew⟩
      | (refine ⟨?_, ?_, ?_, ?_, ?_, ?_, ?_, B1.drew⟩ <;> (go_keep; done))
      | (go_split_ands; exact HitsAt.both ⟨by assumption, by assumption, by assumption, by assumption, by assumption, by assumption, by assumption⟩ (by assumption) hbel))
    (first
      | (go_at_call_of 15 (#[Value.agg #[.int .i64 a, .int .u32 i], Value.agg #[.int .i64 b, .int .u32 j]] : Array Value); refine (less_eq a i b j x hx _).mono ?_; rintro e w' ⟨rfl, hbel⟩)
      | (go_at_call_of 15 (#[Value.agg #[.int .i64 b, .int .u32 j], Value.agg #[.int .i64 a, .int .u32 i]] : Array Value); refine (less_eq b j a i y hy _).mono ?_; rintro e w' ⟨rfl, hbel⟩))
  rename_i hH
  obtain ⟨t0, j1, j2, j3, j4, j5, j6, B2⟩ := hH
  clear k1 k2 k3 k4 k5 k6 s1 B1 hbel
  have HH := Lib.hid (show HitsAt w.heap.size a i b j c k w' from ⟨t0, j1, j2, j3, j4, j5, j6⟩)
  have HC := Lib.hid (less_chain a i b j c k)
  rcases HX.out with h1 | ⟨h1, h2⟩ | ⟨h1, h2⟩ | ⟨h1, h2⟩ | h1
  · obtain rfl : x = true := by rw [← hx.out]; simp [lessV, h1]
    obtain rfl : y = false := by rw [← hy.out]; simp [lessV]; omega
    have ht := HC.out
    rw [hx.out, hp.out, hq.out] at ht
    cases p
    · clear ht HC
      go_wp2_with (fail)
      refine (less_eq b j c k false hp _).mono ?_
      rintro e w3 ⟨rfl, hb3⟩
      go_wp2
      go_ret
      exact ⟨rfl, B2.trans (hb3.mono B2.size)⟩
    · obtain rfl : q = true := ht rfl rfl
      clear ht HC
      go_wp2_with (fail)
      refine (less_eq b j c k true hp _).mono ?_
      rintro e w3 ⟨rfl, hb3⟩
      obtain ⟨g0, g1, g2, g3, g4, g5, g6⟩ := HH.out.below hb3
      have B3 := B2.trans (hb3.mono B2.size)
      clear hb3 j1 j2 j3 j4 j5 j6
      go_wp2_with (fail)
      refine (less_eq a i c k true hq _).mono ?_
      rintro e w4 ⟨rfl, hb4⟩
      go_wp2
      go_ret
      exact ⟨rfl, B3.trans (hb4.mono B3.size)⟩
  · subst h1
    have e0 : (a == a) = true := by simp
    obtain rfl : x = true := by rw [← hx.out]; simp [lessV, h2]
    obtain rfl : y = false := by rw [← hy.out]; simp [lessV]; omega
    have ht := HC.out
    rw [hx.out, hp.out, hq.out] at ht
    cases p
    · clear ht HC
      go_wp2_with (fail)
      refine (less_eq a j c k false hp _).mono ?_
      rintro e w3 ⟨rfl, hb3⟩
      go_wp2
      go_ret
      exact ⟨rfl, B2.trans (hb3.mono B2.size)⟩
    · obtain rfl : q = true := ht rfl rfl
      clear ht HC
      go_wp2_with (fail)
      refine (less_eq a j c k true hp _).mono ?_
      rintro e w3 ⟨rfl, hb3⟩
      obtain ⟨g0, g1, g2, g3, g4, g5, g6⟩ := HH.out.below hb3
      have B3 := B2.trans (hb3.mono B2.size)
      clear hb3 j1 j2 j3 j4 j5 j6
      go_wp2_with (fail)
      refine (less_eq a i c k true hq _).mono ?_
      rintro e w4 ⟨rfl, hb4⟩
      go_wp2
      go_ret
      exact ⟨rfl, B3.trans (hb4.mono B3.size)⟩
  · subst h1 h2
    have e0 : (a == a) = true := by simp
    obtain rfl : x = false := by rw [← hx.out]; simp [lessV]
    obtain rfl : y = false := by rw [← hy.out]; simp [lessV]
    clear HC
    go_wp2
    go_ret
    exact ⟨rfl, B2⟩
  · subst h1
    have e0 : (a == a) = true := by simp
    have e1 : decide (i < j) = false := by simp; omega
    obtain rfl : x = false := by rw [← hx.out]; simp [lessV]; omega
    obtain rfl : y = true := by rw [← hy.out]; simp [lessV, h2]
    clear HC
    go_wp2
    go_ret
    exact ⟨rfl, B2⟩
  · have e0 : (a == b) = false := by simp; omega
    have e1 : decide (a < b) = false := by simp; omega
    obtain rfl : x = false := by rw [← hx.out]; simp [lessV]; omega
    obtain rfl : y = true := by rw [← hy.out]; simp [lessV, h1]
    clear HC
    go_wp2
    go_ret
    exact ⟨rfl, B2⟩

theorem less_row : Rows.FixvecLessSaid :=
  OpenClaim.holds_of_wide 5 Try.f5 rfl rfl rfl rfl rfl rfl rfl ⟨rfl, rfl, rfl, rfl, rfl⟩ rfl rfl rfl rfl rfl (by kernel_rfl) Try.func5 (by kernel_rfl)
    (of_decide_eq_true (by kernel_rfl)) (by unfold Func.isWrapper; rw [if_neg (of_decide_eq_false (by kernel_rfl))]; exact ⟨rfl, rfl⟩)
    (fun os started H enc _ => lift (C := Try.checked) (s := Rows.fixvecLessSpec) (conds := Rows.fixvecLessRow.domain) os started H enc prog_own (by kernel_rfl) Try.func5 prog_laid rfl Try.underlying4 rfl
      (fun ds hl => by
        have hl : ds.length = 3 := hl
        match ds, hl with
        | [_, _, _], _ => rfl)
      (of_decide_eq_true (by kernel_rfl))
      (ChangeSpec.witness6 (enc := enc) (C := Try.checked) false ⟨#[], #[.agg #[.int .i64 0, .int .u32 0], .agg #[.int .i64 0, .int .u32 0], .agg #[.int .i64 0, .int .u32 0]], []⟩ 8 (by kernel_rfl) (by kernel_rfl) (by kernel_rfl) (by kernel_rfl))
      (fun W base args ds p g => by
        rw [Try.params5] at g
        obtain ⟨a, i, e1⟩ := hit_at g 0 rfl
        obtain ⟨b, j, e2⟩ := hit_at g 1 rfl
        obtain ⟨c, k, e3⟩ := hit_at g 2 rfl
        rw [args3 g.count e1 e2 e3]
        exact less_walk a i b j c k _ _ _ _ W rfl rfl rfl rfl (by omega)))
end Go.Proofs.Ytoaccegmeflpnaa
