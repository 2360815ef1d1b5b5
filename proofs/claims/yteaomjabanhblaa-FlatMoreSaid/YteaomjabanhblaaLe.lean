/-
  Layer 10's example; its statements' arguments.
-/
import Derived.Test.YteaomjabanhblaaLd
import Derived.Test.YteaomjabanhblaaPr
namespace Go.Proofs.Yteaomjabanhblaa
open Go.RowKit Go.ChangeShapes Go.WideShapes Go.ChangeAt

theorem fit_items10 : (shItems.fit Try.prog).1 22 = true := by kernel_rfl
theorem fit_vec10 : (shVec.fit Try.prog).1 23 = true := by kernel_rfl
theorem fit_filter10 : (shFilter.fit Try.prog).1 26 = true := by kernel_rfl
section
variable {H : Type} {enc : TypeId × Value → H} {W : World} {base : Nat} {ts : Array TypeId} {args : Array Value} {ds : List (DataW H)} {p : List MemPlace}
/-- A list of items that comes in. -/
theorem Given.items10 (g : Given enc Try.prog W base ts args ds p) (j : Nat) (ht : ts[j]? = some 22) : ∃ (a : Option Addr) (n c : Nat) (xs : List shItem.T), args[j]? = some (.slice a n c) ∧ Rd (fun _ => True) W shItems [.slice a n c] xs := by
  obtain ⟨v, x, e1, hx⟩ := g.sh1 j ht shItems fit_items10 (.inl ⟨_, Try.underlying22⟩)
  obtain ⟨a, n, c, hcs, _, _, h⟩ := Rd.slice_is (e := shItem) hx
  simp only [List.cons.injEq, and_true] at hcs
  subst hcs
  exact ⟨a, n, c, x, e1, h⟩
/-- A vector that comes in. -/
theorem Given.vec10 (g : Given enc Try.prog W base ts args ds p) (j : Nat) (ht : ts[j]? = some 23) : ∃ (a : Option Addr) (n c : Nat) (xs : List Int), args[j]? = some (.slice a n c) ∧ Reads .i32 W a n xs := by
  obtain ⟨v, x, e1, hx⟩ := g.sh1 j ht shVec fit_vec10 (.inl ⟨_, Try.underlying23⟩)
  obtain ⟨a, n, c, hcs, _, _, h⟩ := Rd.slice_is (e := .int .i32) hx
  simp only [List.cons.injEq, and_true] at hcs
  subst hcs
  exact ⟨a, n, c, x, e1, Rd.ints h rfl⟩
/-- A filter that comes in. -/
theorem Given.filter10 (g : Given enc Try.prog W base ts args ds p) (j : Nat) (ht : ts[j]? = some 26) : ∃ fl : FltL, args[j]? = some (.agg fl.cells) ∧ fl.Rds (fun _ => True) W := by
  obtain ⟨cs, x, e1, hx⟩ := g.shs j ht shFilter fit_filter10 Try.underlying26
  obtain ⟨s0, s1, s2, u⟩ := x
  obtain ⟨c1, c2, hc, h1, h2⟩ := Rd.pair_is hx
  obtain ⟨c3, c4, rfl, h3, h4⟩ := Rd.pair_is h2
  obtain ⟨c5, c6, rfl, h5, h6⟩ := Rd.pair_is h4
  obtain ⟨a0, n0, k0, rfl, _, _, r0⟩ := Rd.slice_is (e := .str) (xs := s0) h1
  obtain ⟨a1, n1, k1, rfl, _, _, r1⟩ := Rd.slice_is (e := .str) (xs := s1) h3
  obtain ⟨a2, n2, k2, rfl, _, _, r2⟩ := Rd.slice_is (e := .str) (xs := s2) h5
  obtain rfl := Rd.unit_is h6
  refine ⟨⟨(a0, n0, k0), (a1, n1, k1), (a2, n2, k2), ⟨s0, s1, s2⟩⟩, ?_, r0, r1, r2⟩
  rw [e1]
  have : cs = (cs.toList).toArray := by simp
  rw [this, hc]
  rfl
/-- A hit that comes in. -/
theorem Given.hit10 (g : Given enc Try.prog W base ts args ds p) (j : Nat) (ht : ts[j]? = some 29) : ∃ x : Hit, args[j]? = some (.agg #[.int .i64 x.1, .int .u32 x.2]) := by
  obtain ⟨cs, x, e1, hx⟩ := g.shs j ht shHit (by kernel_rfl) Try.underlying29
  obtain ⟨d, id, _, hc, _⟩ := rd_hit hx
  refine ⟨(d, (id : Int)), ?_⟩
  rw [e1]
  have : cs = (cs.toList).toArray := by simp
  rw [this, hc]
end
/-- The filter that matches everything. -/
def flt0 : FltL := ⟨(none, 0, 0), (none, 0, 0), (none, 0, 0), ⟨[], [], []⟩⟩
theorem flt0_in (w : World) : flt0.In w := ⟨SReads.nil w, SReads.nil w, SReads.nil w⟩
theorem OwnB.parts10 {w : World} {B : Nat} {v : Value} {xs : List Hit} (h : OwnB w B v xs) (hs : xs.length ≤ 1000000) : ∃ a n c, v = .slice a n c ∧ HReads w a n xs := by
  obtain ⟨a, c, rfl⟩ := h.own.size
  exact ⟨a, _, c, rfl, HReads.of_own h.own hs⟩
theorem HitsPost.read {l : List Hit} {w w' : World} {e : Ending} (h : HitsPost l w e w') (hs : l.length ≤ 1000000) : ∃ a n c, e = .returned (.slice a n c) ∧ HReads w' a n l ∧ Below w.heap.size w w' := by
  obtain ⟨g, n, rfl, ho, hb, _⟩ := h
  obtain ⟨rest, hn, _⟩ := ho.blk
  subst hn
  exact ⟨_, _, _, rfl, HReads.of_own ho hs, hb⟩

theorem vec_rd10 (w : World) (g : Nat) (a : Int) (ha : (Lit.int .i32 a).wf = true) (h : Blk w g 21 [.int .i32 a]) : Rd (fun _ => True) w shVec [.slice (some ⟨g, 0, none⟩) 1 1] [a] := by
  refine Rd.slice_mk (e := .int .i32) ⟨some ⟨g, 0, none⟩, 1, 1, rfl, rfl, by decide, by decide, Nat.le_refl _, by simp, .inr ⟨g, 0, rfl, trivial, h.lt, fun i x hx => ?_⟩⟩
  match i, hx with
  | 0, hx =>
    obtain rfl : a = x := Option.some.inj hx
    refine ⟨[.int .i32 a], rfl, fun j hj => ?_, Rd.int_mk rfl ha⟩
    obtain rfl : j = 0 := by simp [Sh.cells] at hj; omega
    exact h.cell 0
theorem no_rd10 (w : World) (ok : Nat → Prop) (e : Sh) (sz : Nat) : Rd ok w (.slice e sz) [.slice none 0 0] [] :=
  Rd.slice_mk ⟨none, 0, 0, rfl, rfl, by simp, by decide, Nat.le_refl _, fun _ => ⟨rfl, rfl⟩, .inl rfl⟩
theorem item_rd10 (w : World) (g : Nat) (id : Nat) (hid : id < 100) (a : Int) (ha : (Lit.int .i32 a).wf = true) (h : Blk w g 21 [.int .i32 a]) : Rd (fun _ => True) w shItem [.int .u32 (id : Int), .slice (some ⟨g, 0, none⟩) 1 1, .slice none 0 0] (((id : Int), [a], [], ()) : Int × List Int × List ByteArray × Unit) := by
  refine Rd.pair_mk (c1 := [.int .u32 (id : Int)]) (c2 := [.slice (some ⟨g, 0, none⟩) 1 1, .slice none 0 0]) rfl (Rd.int_mk rfl ?_) (Rd.pair_mk (c1 := [.slice (some ⟨g, 0, none⟩) 1 1]) (c2 := [.slice none 0 0]) rfl (vec_rd10 w g a ha h) (Rd.pair_mk (c1 := [.slice none 0 0]) (c2 := []) rfl (no_rd10 w _ .str 16) (Rd.unit_mk rfl)))
  simp [Lit.wf, IntKind.min, IntKind.max, IntKind.signed, IntKind.bits]
  omega
/-- The example's items. -/
def its10 : List shItem.T := [(((1 : Int), [0], [], ()) : Int × List Int × List ByteArray × Unit), (((2 : Int), [3], [], ()) : Int × List Int × List ByteArray × Unit), (((3 : Int), [1], [], ()) : Int × List Int × List ByteArray × Unit)]
theorem its_rd10 (w : World) (g1 g2 g3 g : Nat) (h1 : Blk w g1 21 [.int .i32 0]) (h2 : Blk w g2 21 [.int .i32 3]) (h3 : Blk w g3 21 [.int .i32 1])
    (h : Blk w g 44 [.int .u32 1, .slice (some ⟨g1, 0, none⟩) 1 1, .slice none 0 0, .int .u32 2, .slice (some ⟨g2, 0, none⟩) 1 1, .slice none 0 0, .int .u32 3, .slice (some ⟨g3, 0, none⟩) 1 1, .slice none 0 0]) : Rd (fun _ => True) w shItems [.slice (some ⟨g, 0, none⟩) 3 3] its10 := by
  refine Rd.slice_mk (e := shItem) ⟨some ⟨g, 0, none⟩, 3, 3, rfl, rfl, by decide, by decide, Nat.le_refl _, by simp, .inr ⟨g, 0, rfl, trivial, h.lt, fun i x hx => ?_⟩⟩
  match i, hx with
  | 0, hx =>
    obtain rfl := Option.some.inj hx
    refine ⟨[.int .u32 1, .slice (some ⟨g1, 0, none⟩) 1 1, .slice none 0 0], rfl, fun j hj => ?_, item_rd10 w g1 1 (by decide) 0 (by decide) h1⟩
    match j, hj with
    | 0, _ => exact h.cell 0
    | 1, _ => exact h.cell 1
    | 2, _ => exact h.cell 2
  | 1, hx =>
    obtain rfl := Option.some.inj hx
    refine ⟨[.int .u32 2, .slice (some ⟨g2, 0, none⟩) 1 1, .slice none 0 0], rfl, fun j hj => ?_, item_rd10 w g2 2 (by decide) 3 (by decide) h2⟩
    match j, hj with
    | 0, _ => exact h.cell 3
    | 1, _ => exact h.cell 4
    | 2, _ => exact h.cell 5
  | 2, hx =>
    obtain rfl := Option.some.inj hx
    refine ⟨[.int .u32 3, .slice (some ⟨g3, 0, none⟩) 1 1, .slice none 0 0], rfl, fun j hj => ?_, item_rd10 w g3 3 (by decide) 1 (by decide) h3⟩
    match j, hj with
    | 0, _ => exact h.cell 6
    | 1, _ => exact h.cell 7
    | 2, _ => exact h.cell 8
theorem HReads.built (w : World) (xs : List Hit) (h1 : xs.length ≤ 1000000) : HReads (w.alloc (.cells (flat xs).toArray 29)) (some ⟨w.heap.size, 0, none⟩) xs.length xs := by
  have hb := Blk.new w 29 (flat xs).toArray
  refine ⟨rfl, by omega, .inr ⟨_, _, rfl, by simp, fun i hi => ?_⟩⟩
  have hf := flat_len xs
  rw [Nat.zero_add, hb.cell, hb.cell]
  exact ⟨by simpa using flat_fst xs i hi, by simpa using flat_snd xs i hi⟩
theorem want10 : wantL 0 [1] ⟨[], [], []⟩ its10 = [(1, 1), (4, 2), (0, 3)] := by decide +kernel
theorem keep10 : keepL 2 [(1, 1), (4, 2), (0, 3)] = [(0, 3), (1, 1)] := by decide +kernel
theorem keep10b : keepL 2 (behindL (1, 1) [(1, 1), (4, 2), (0, 3)]) = [(4, 2)] := by decide +kernel

set_option maxRecDepth 100000 in
set_option maxHeartbeats 6400000 in
theorem alive10 (w : World) : Calls Try.prog 9 #[] w fun e w' => e = .returned (.bool true) ∧ Below w.heap.size w w' := by
  obtain ⟨w4, hw4⟩ : ∃ w4, (((w.alloc (.cells #[.int .i32 0] 21)).alloc (.cells #[.int .i32 3] 21)).alloc (.cells #[.int .i32 1] 21)).alloc (.cells #[.int .u32 1, .slice (some ⟨w.heap.size, 0, none⟩) 1 1, .slice none 0 0, .int .u32 2, .slice (some ⟨w.heap.size + 1, 0, none⟩) 1 1, .slice none 0 0, .int .u32 3, .slice (some ⟨w.heap.size + 2, 0, none⟩) 1 1, .slice none 0 0] 44) = w4 := ⟨_, rfl⟩
  go_enter Try.func9, Try.ntmps9
  go_wp2_with (first | (rw [hw4]) | fail)
  have b1 : Blk w4 w.heap.size 21 [.int .i32 0] := by rw [← hw4]; exact (((Blk.new w _ _).alloc _).alloc _).alloc _
  have b2 : Blk w4 (w.heap.size + 1) 21 [.int .i32 3] := by
    rw [← hw4]
    have := Blk.new (w.alloc (.cells #[.int .i32 0] 21)) 21 #[.int .i32 3]
    rw [World.size_alloc] at this
    exact (this.alloc _).alloc _
  have b3 : Blk w4 (w.heap.size + 1 + 1) 21 [.int .i32 1] := by
    rw [← hw4]
    have := Blk.new ((w.alloc (.cells #[.int .i32 0] 21)).alloc (.cells #[.int .i32 3] 21)) 21 #[.int .i32 1]
    rw [World.size_alloc, World.size_alloc] at this
    exact this.alloc _
  have b4 : Blk w4 (w.heap.size + 1 + 1 + 1) 44 [.int .u32 1, .slice (some ⟨w.heap.size, 0, none⟩) 1 1, .slice none 0 0, .int .u32 2, .slice (some ⟨w.heap.size + 1, 0, none⟩) 1 1, .slice none 0 0, .int .u32 3, .slice (some ⟨w.heap.size + 1 + 1, 0, none⟩) 1 1, .slice none 0 0] := by
    rw [← hw4]
    have := Blk.new (((w.alloc (.cells #[.int .i32 0] 21)).alloc (.cells #[.int .i32 3] 21)).alloc (.cells #[.int .i32 1] 21)) 44 #[.int .u32 1, .slice (some ⟨w.heap.size, 0, none⟩) 1 1, .slice none 0 0, .int .u32 2, .slice (some ⟨w.heap.size + 1, 0, none⟩) 1 1, .slice none 0 0, .int .u32 3, .slice (some ⟨w.heap.size + 1 + 1, 0, none⟩) 1 1, .slice none 0 0]
    rw [World.size_alloc, World.size_alloc, World.size_alloc] at this
    exact this
  have HB4 := Lib.hid (show Below w.heap.size w w4 from by
    rw [← hw4]
    exact ((((Below.refl _ w).alloc (Nat.le_refl _) _).alloc (by simp) _).alloc (by simp; omega) _).alloc (by simp; omega) _)
  have HI := Lib.hid (its_rd10 w4 _ _ _ _ b1 b2 b3 b4)
  obtain ⟨g4, hg4⟩ : ∃ g4, w.heap.size + 1 + 1 + 1 = g4 := ⟨_, rfl⟩
  rw [hg4] at HI
  simp only [hg4]
  clear hw4 hg4 b1 b2 b3 b4
  have HQ := Lib.hid (show ∀ w', Reads .i32 (w'.alloc (.cells #[.int .i32 1] 21)) (some ⟨w'.heap.size, 0, none⟩) 1 [1] from fun w' => Rd.ints (vec_rd10 _ _ 1 (by decide) (Blk.new w' 21 #[.int .i32 1])) rfl)
  have HR2 := Lib.hid (show ((2 : Nat) : Int) = min (max 2 0) 256 from by decide)
  have hb5 := (Below.refl w4.heap.size w4).alloc (Nat.le_refl _) (.cells #[.int .i32 1] 21)
  have C1 := search_any (w4.alloc (.cells #[.int .i32 1] 21)) _ 0 _ _ 3 3 1 1 its10 [1] flt0 2 2 HR2 (by decide) (HI.out.on hb5) (HQ.out w4) (flt0_in _)
  rw [show wantL 0 [1] flt0.f its10 = _ from want10, keep10] at C1
  refine C1.mono ?_
  clear C1
  rintro e w5 hp
  obtain ⟨g5, n5, rfl, ho5, hb6, _⟩ := hp
  obtain ⟨_, rfl, _⟩ := ho5.blk
  have H5 := Lib.hid (HReads.of_own ho5 (by decide))
  have HB5 := Lib.hid (hb5.trans (hb6.mono hb5.size))
  clear ho5 hb5 hb6
  go_wp2_with (fail)
  have hb7 := (Below.refl w5.heap.size w5).alloc (Nat.le_refl _) (.cells #[.int .i32 1] 21)
  have C2 := after_any (w5.alloc (.cells #[.int .i32 1] 21)) _ 0 _ _ 3 3 1 1 its10 [1] flt0 (1, 1) 2 2 HR2 (by decide) ((HI.out.on HB5.out).on hb7) (HQ.out w5) (flt0_in _)
  rw [show wantL 0 [1] flt0.f its10 = _ from want10, keep10b] at C2
  refine C2.mono ?_
  clear C2
  rintro e w6 hp
  obtain ⟨g6, n6, rfl, ho6, hb8, _⟩ := hp
  obtain ⟨_, rfl, _⟩ := ho6.blk
  have H6 := Lib.hid (HReads.of_own ho6 (by decide))
  have HB6 := Lib.hid (hb7.trans (hb8.mono hb7.size))
  clear ho6 hb7 hb8
  go_wp2_with (fail)
  have hb9 := (Below.refl w6.heap.size w6).alloc (Nat.le_refl _) (.cells #[.int .i64 0, .int .u32 3, .int .i64 1, .int .u32 1] 29)
  refine (same_any _ _ 2 2 2 2 [(0, 3), (1, 1)] [(0, 3), (1, 1)] _ ((H5.out.below (Nat.le_refl _) HB6.out).below (Nat.le_refl _) hb9) (HReads.built w6 [(0, 3), (1, 1)] (by decide))).mono ?_
  rintro e w7 ⟨rfl, hb10⟩
  have HB7 := Lib.hid (hb9.trans (hb10.mono hb9.size))
  clear hb9 hb10
  rw [decide_eq_true rfl]
  go_wp2_with (fail)
  have hb11 := (Below.refl w7.heap.size w7).alloc (Nat.le_refl _) (.cells #[.int .i64 4, .int .u32 2] 29)
  refine (same_any _ _ 1 1 1 1 [(4, 2)] [(4, 2)] _ ((H6.out.below (Nat.le_refl _) HB7.out).below (Nat.le_refl _) hb11) (HReads.built w7 [(4, 2)] (by decide))).mono ?_
  rintro e w8 ⟨rfl, hb12⟩
  have HB8 := Lib.hid (hb11.trans (hb12.mono hb11.size))
  clear hb11 hb12
  rw [decide_eq_true rfl]
  go_wp2_with (fail)
  have hb13 := (Below.refl w8.heap.size w8).alloc (Nat.le_refl _) (.cells #[.int .i32 1] 21)
  have C3 := rank_any (w8.alloc (.cells #[.int .i32 1] 21)) _ 0 _ _ 3 3 1 1 its10 [1] flt0 (by decide) ((((HI.out.on HB5.out).on HB6.out).on (HB7.out.trans (HB8.out.mono HB7.out.size))).on hb13) (by decide) (HQ.out w8) (flt0_in _)
  rw [rankL, show wantL 0 [1] flt0.f its10 = _ from want10] at C3
  refine C3.mono ?_
  clear C3
  rintro e w9 hp
  obtain ⟨g9, n9, rfl, ho9, hb14, _⟩ := hp
  obtain ⟨_, hn9, _⟩ := ho9.blk
  obtain rfl : n9 = 3 := by rw [hn9, sortL_len]; rfl
  have HB9 := Lib.hid (hb13.trans (hb14.mono hb13.size))
  clear ho9 hb13 hb14 hn9
  go_wp2
  go_ret
  exact ⟨rfl, below_on (below_on (below_on (below_on (below_on (below_on HB4.out HB5.out) HB6.out) HB7.out) HB8.out) HB9.out) (Below.refl _ _)⟩
end Go.Proofs.Yteaomjabanhblaa
