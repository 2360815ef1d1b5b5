/-
  The document's example (layer 8): alive.
-/
import Derived.Test.YtdmnflncgmnghaaCw
namespace Go.Proofs.Ytdmnflncgmnghaa
open Go.RowKit

theorem vec_one (w : World) (a : Int) (ha : (Lit.int .i32 a).wf = true) : (⟨7, (some ⟨w.heap.size, 0, none⟩, 1, 1), (none, 0, 0), [a], []⟩ : ItL).In (fun _ => True) (w.alloc (.cells #[.int .i32 a] 21)) := by
  have hb := Blk.new w 21 #[.int .i32 a]
  refine ItL.OwnI.in (lo := 0) ⟨show 7 < 4294967296 by decide, ⟨by simp, .inr ⟨w.heap.size, 1, #[.int .i32 a], rfl, Nat.zero_le _, hb, Nat.le_refl _, by decide, rfl, rfl⟩⟩, ⟨by simp, .inl ⟨rfl, rfl⟩⟩, ?_, by simp, by simp, by simp⟩
  intro b hb
  rw [List.mem_singleton.1 hb]
  exact ha
theorem vers_one (w : World) : VersIn (w.alloc (.cells #[.int .u64 1] 28)) (w.alloc (.cells #[.int .u64 1] 28)).heap.size (some ⟨w.heap.size, 0, none⟩) 1 1 [1] := by
  have hb := Blk.new w 28 #[.int .u64 1]
  refine ⟨rfl, Nat.le_refl _, by decide, fun i x hx => ?_⟩
  cases i with
  | zero =>
    cases hx
    exact ⟨by decide, _, 0, rfl, by simp, by simp, hb.cell 0⟩
  | succ i => cases hx
theorem vers_none (w : World) (B : Nat) : VersIn w B none 0 0 [] := ⟨rfl, Nat.le_refl _, by decide, fun i x hx => by cases hx⟩

/-- A call that turns nothing but the past's own blocks turns nothing of what lay below. -/
theorem PastIs.below {w w1 w2 : World} {lo g : Nat} {F : List Nat} {p : PastV} (h : PastIs w1 lo g F p) (hk : Kept F w1 w2) (hb : Below lo w w1) (hlo : lo ≤ w1.heap.size) : Below lo w w2 := hb.trans (hk.below (fun x hx => (h.lt x hx).1) hlo)
/-- An item of one number in its list, as it came from Get. -/
theorem one_num {lo : Nat} {w : World} {y : ItL} {a : Int} (h : y.OwnI lo w) (hy : y.toI = ⟨7, [a], []⟩) : ∃ (g c : Nat), y.pv = (some ⟨g, 0, none⟩, 1, c) ∧ w.cell? ⟨g, 0, none⟩ = some (.int .i32 a) := by
  have hv : y.vec = [a] := congrArg ItemV.vec hy
  have h1 := h.vec
  rw [hv] at h1
  rcases h1.2 with ⟨_, h2⟩ | ⟨g, cap, cur, e, _, hh, hc, _, hs, ht⟩
  · cases h2
  · simp only [Value.slice.injEq] at e
    refine ⟨g, cap, Prod.ext e.1 (Prod.ext e.2.1 e.2.2), ?_⟩
    rw [cell_of_row w g 0 cur _ (0, 0) hh]
    have : (cur.toList.take (1 * 1))[0]? = some (.int .i32 a) := by
      rw [show (1 * 1 : Nat) = [a].length * 1 from rfl, ht]
      rfl
    rw [List.getElem?_take_of_lt (by decide)] at this
    simpa using this
theorem cell_lt8 {w : World} {g i : Nat} {v : Value} (h : w.cell? ⟨g, i, none⟩ = some v) : g < w.heap.size := by
  unfold World.cell? at h
  by_cases hg : g < w.heap.size
  · exact hg
  · simp [Array.getElem?_eq_none (Nat.le_of_not_lt hg)] at h
def it8 (a : Int) : ItemV := ⟨7, [a], []⟩
def p1_8 : PastV := ⟨[⟨1, false, it8 1⟩], 1, 0, []⟩
def p2_8 : PastV := ⟨[⟨1, false, it8 1⟩, ⟨2, false, it8 2⟩], 2, 0, []⟩
def p3_8 : PastV := ⟨[⟨1, false, it8 1⟩, ⟨2, false, it8 2⟩, ⟨3, true, ⟨7, [], []⟩⟩], 3, 0, []⟩
def p4_8 : PastV := ⟨[⟨1, false, it8 1⟩, ⟨3, true, ⟨7, [], []⟩⟩], 3, 3, [1]⟩
theorem e1_8 : PastV.new.lay ⟨1, false, it8 1⟩ = (p1_8, 0) := by rfl
theorem e2_8 : p1_8.lay ⟨2, false, it8 2⟩ = (p2_8, 0) := by rfl
theorem e3_8 : p2_8.lay ⟨3, true, ⟨7, [], []⟩⟩ = (p3_8, 0) := by rfl
theorem e4_8 : p3_8.sweep [1] = (p4_8, 1) := by rfl
theorem e5_8 : (p4_8.sweep []).2 = 2 := by rfl
theorem e6_8 : p4_8.get 7 1 = (it8 1, 0) := by rfl
theorem e7_8 : (p4_8.get 7 2).2 = 80 := by rfl
theorem e8_8 : (p4_8.get 7 3).2 = 2 := by rfl

set_option maxRecDepth 100000 in
set_option maxHeartbeats 6400000 in
theorem alive8 (w : World) : Calls Try.prog 6 #[] w fun e w' => e = .returned (.bool true) ∧ Below w.heap.size w w' := by
  go_enter Try.func6, Try.ntmps6
  go_wp2_with (fail)
  refine (new_is w).mono ?_
  rintro e w1 ⟨F1, rfl, hb1, h1⟩
  have hs1 := hb1.size
  go_wp2_with (fail)
  have a1 : Below w1.heap.size w1 (w1.alloc (.cells #[.int .i32 1] 21)) := (Below.refl _ _).alloc (Nat.le_refl _) _
  refine (put_is _ _ _ F1 _ 1 ⟨7, (some ⟨w1.heap.size, 0, none⟩, 1, 1), (none, 0, 0), [1], []⟩ (h1.on a1) (by decide) (vec_one w1 1 (by decide))).mono ?_
  rintro e w2 ⟨F2, rfl, h2, k2, -⟩
  have b2 := (h1.on a1).below k2 (hb1.trans (a1.mono hs1)) (Nat.le_trans hs1 a1.size)
  have hs2 := b2.size
  rw [show (PastV.new.lay ⟨1, false, (⟨7, (some ⟨w1.heap.size, 0, none⟩, 1, 1), (none, 0, 0), [1], []⟩ : ItL).toI⟩) = (p1_8, 0) from e1_8] at h2 ⊢
  go_wp2_with (fail)
  have a2 : Below w2.heap.size w2 (w2.alloc (.cells #[.int .i32 2] 21)) := (Below.refl _ _).alloc (Nat.le_refl _) _
  refine (put_is _ _ _ F2 _ 2 ⟨7, (some ⟨w2.heap.size, 0, none⟩, 1, 1), (none, 0, 0), [2], []⟩ (h2.on a2) (by decide) (vec_one w2 2 (by decide))).mono ?_
  rintro e w3 ⟨F3, rfl, h3, k3, -⟩
  have b3 := (h2.on a2).below k3 (b2.trans (a2.mono hs2)) (Nat.le_trans hs2 a2.size)
  have hs3 := b3.size
  rw [show (p1_8.lay ⟨2, false, (⟨7, (some ⟨w2.heap.size, 0, none⟩, 1, 1), (none, 0, 0), [2], []⟩ : ItL).toI⟩) = (p2_8, 0) from e2_8] at h3 ⊢
  go_wp2_with (fail)
  refine (cut_is _ _ _ F3 _ 3 7 h3 (by decide) (by decide)).mono ?_
  rintro e w4 ⟨F4, rfl, h4, k4, -⟩
  have b4 := h3.below k4 b3 hs3
  have hs4 := b4.size
  rw [e3_8] at h4 ⊢
  go_wp2_with (fail)
  have a4 : Below w4.heap.size w4 (w4.alloc (.cells #[.int .u64 1] 28)) := (Below.refl _ _).alloc (Nat.le_refl _) _
  refine (sweep_is _ _ _ F4 _ _ 1 1 [1] sort_small (h4.on a4) (vers_one w4)).mono ?_
  rintro e w5 ⟨F5, rfl, h5, k5, -⟩
  have b5 := (h4.on a4).below k5 (b4.trans (a4.mono hs4)) (Nat.le_trans hs4 a4.size)
  have hs5 := b5.size
  rw [e4_8] at h5 ⊢
  clear h1 h2 h3 h4 a1 a2 a4 k2 k3 k4 k5 b2 b3 b4 hb1
  go_wp2_with (fail)
  refine (get_is _ _ _ F5 _ 7 1 h5 (by decide)).mono ?_
  rintro e w6 ⟨hb6, y6, rfl, ho6, hy6⟩
  rw [e6_8] at hy6 ⊢
  obtain ⟨gy, cy, hyv, hyc⟩ := one_num ho6 hy6
  have h6 := h5.on hb6
  have b6 := b5.trans (hb6.mono hs5)
  have hs6 := b6.size
  have hgy : gy < w6.heap.size := cell_lt8 hyc
  obtain ⟨id6, a6, n6, c6, hp6⟩ : ∃ (id6 : Nat) (a6 : Option Addr) (n6 c6 : Nat), (#[.int .u32 (y6.id : Int), .slice y6.pv.1 y6.pv.2.1 y6.pv.2.2, .slice y6.pt.1 y6.pt.2.1 y6.pt.2.2] : Array Value) = #[.int .u32 (id6 : Int), .slice (some ⟨gy, 0, none⟩) 1 cy, .slice a6 n6 c6] := ⟨y6.id, y6.pt.1, y6.pt.2.1, y6.pt.2.2, by rw [hyv]⟩
  rw [hp6]
  clear hp6 hyv ho6 hy6 hb6 h5 b5
  obtain ⟨w6b, hw6b⟩ : ∃ w6b, w6.alloc (.cells #[.int .u32 (id6 : Int), .slice (some ⟨gy, 0, none⟩) 1 cy, .slice a6 n6 c6] 37) = w6b := ⟨_, rfl⟩
  have a6b : Below w6.heap.size w6 w6b := by rw [← hw6b]; exact (Below.refl _ _).alloc (Nat.le_refl _) _
  have x6 : Blk w6b w6.heap.size 37 [.int .u32 (id6 : Int), .slice (some ⟨gy, 0, none⟩) 1 cy, .slice a6 n6 c6] := by rw [← hw6b]; exact Blk.new _ _ _
  have y6c : w6b.cell? ⟨gy, 0, none⟩ = some (.int .i32 1) := (a6b.cell (p := ⟨gy, 0, none⟩) hgy).trans hyc
  have hg6 := Nat.lt_of_lt_of_le hgy a6b.size
  have h6b := h6.on a6b
  have b6b := b6.trans (a6b.mono hs6)
  have hs6b := b6b.size
  go_wp2_with (fail)
  try rw [hw6b]
  clear hw6b a6b h6 b6 hyc hgy
  refine (get_is _ _ _ F5 _ 7 2 h6b (by decide)).mono ?_
  rintro e w7 ⟨hb7, y7, rfl, -, -⟩
  have hx7 : (((p4_8.get 7 2).2 : Nat) : Int) = 80 := by rw [e7_8]; rfl
  rw [hx7]
  have h7 := h6b.on hb7
  have b7 := b6b.trans (hb7.mono hs6b)
  have hs7 := b7.size
  have x7 := (Kept.of_below (F := []) hb7 (Nat.le_refl _)).blk x6 (by simp)
  have y7c : w7.cell? ⟨gy, 0, none⟩ = some (.int .i32 1) := (hb7.cell (p := ⟨gy, 0, none⟩) hg6).trans y6c
  have hg7 := Nat.lt_of_lt_of_le hg6 hb7.size
  obtain ⟨M7, hM7⟩ : ∃ M7, (.cells #[.int .u32 (y7.id : Int), .slice y7.pv.1 y7.pv.2.1 y7.pv.2.2, .slice y7.pt.1 y7.pt.2.1 y7.pt.2.2] 37 : Obj) = M7 := ⟨_, rfl⟩
  obtain ⟨w7b, hw7b⟩ : ∃ w7b, w7.alloc M7 = w7b := ⟨_, rfl⟩
  have a7b : Below w7.heap.size w7 w7b := by rw [← hw7b]; exact (Below.refl _ _).alloc (Nat.le_refl _) _
  have x7b := (Kept.of_below (F := []) a7b (Nat.le_refl _)).blk x7 (by simp)
  have y7b : w7b.cell? ⟨gy, 0, none⟩ = some (.int .i32 1) := (a7b.cell (p := ⟨gy, 0, none⟩) hg7).trans y7c
  have hg7b := Nat.lt_of_lt_of_le hg7 a7b.size
  have h7b := h7.on a7b
  have b7b := b7.trans (a7b.mono hs7)
  have hs7b := b7b.size
  clear hx7
  go_wp2_with (fail)
  try rw [hM7, hw7b]
  clear hw7b a7b h7 b7 y7c hg7 x6 x7 h6b b6b y6c hb7 hM7
  refine (get_is _ _ _ F5 _ 7 3 h7b (by decide)).mono ?_
  rintro e w8 ⟨hb8, y8, rfl, -, -⟩
  have hx8 : (((p4_8.get 7 3).2 : Nat) : Int) = 2 := by rw [e8_8]; rfl
  rw [hx8]
  have h8 := h7b.on hb8
  have b8 := b7b.trans (hb8.mono hs7b)
  have hs8 := b8.size
  have x8 := (Kept.of_below (F := []) hb8 (Nat.le_refl _)).blk x7b (by simp)
  have y8c : w8.cell? ⟨gy, 0, none⟩ = some (.int .i32 1) := (hb8.cell (p := ⟨gy, 0, none⟩) hg7b).trans y7b
  have hg8 := Nat.lt_of_lt_of_le hg7b hb8.size
  obtain ⟨M8, hM8⟩ : ∃ M8, (.cells #[.int .u32 (y8.id : Int), .slice y8.pv.1 y8.pv.2.1 y8.pv.2.2, .slice y8.pt.1 y8.pt.2.1 y8.pt.2.2] 37 : Obj) = M8 := ⟨_, rfl⟩
  obtain ⟨w8b, hw8b⟩ : ∃ w8b, w8.alloc M8 = w8b := ⟨_, rfl⟩
  have a8b : Below w8.heap.size w8 w8b := by rw [← hw8b]; exact (Below.refl _ _).alloc (Nat.le_refl _) _
  have x8b := (Kept.of_below (F := []) a8b (Nat.le_refl _)).blk x8 (by simp)
  have y8b : w8b.cell? ⟨gy, 0, none⟩ = some (.int .i32 1) := (a8b.cell (p := ⟨gy, 0, none⟩) hg8).trans y8c
  have h8b := h8.on a8b
  have b8b := b8.trans (a8b.mono hs8)
  have hs8b := b8b.size
  have z8b : w8b.cell? ⟨w6.heap.size, 1, none⟩ = some (.slice (some ⟨gy, 0, none⟩) 1 cy) := x8b.cell 1
  clear hx8
  go_upto_region 11 with fail
  try rw [hM8, hw8b]
  clear hw8b hM8 a8b h8 b8 y8c hg8 x8 x7b y7b h7b b7b hb8
  go_wp2_with (fail)
  refine (sweep_is _ _ _ F5 _ none 0 0 [] (fun lo w v xs h hl => sort_small lo w v xs h (Nat.le_trans hl (by decide))) h8b (vers_none _ _)).mono ?_
  rintro e w9 ⟨F9, rfl, h9, k9, -⟩
  have hx9 : (((p4_8.sweep []).2 : Nat) : Int) = 2 := by rw [e5_8]; rfl
  rw [hx9]
  have b9 := h8b.below k9 b8b hs8b
  clear hx9 h9 k9
  go_wp2
  go_ret
  exact ⟨rfl, b9⟩
end Go.Proofs.Ytdmnflncgmnghaa
