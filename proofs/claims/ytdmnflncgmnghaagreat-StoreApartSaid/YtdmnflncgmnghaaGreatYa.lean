/-
  Layer 9's statements' own words: put, and alive: the example that each of them begins with, by a walk over its text.
-/
import Derived.Test.YtdmnflncgmnghaaGreatUt
namespace Go.Proofs.YtdmnflncgmnghaaGreat
open Go.RowKit Go.Maps

theorem change_info9 : (Tryz.prog.info? 75).map (·.size) = some 4 := by kernel_rfl
theorem nil_vec9 (ok : Nat → Prop) (w : World) : Rd ok w shVec [.slice none 0 0] [] := Rd.slice_mk ⟨none, 0, 0, rfl, rfl, by decide, by decide, by decide, fun _ => ⟨rfl, rfl⟩, .inl rfl⟩
theorem nil_tags9 (ok : Nat → Prop) (w : World) : Rd ok w shTags [.slice none 0 0] [] := Rd.slice_mk ⟨none, 0, 0, rfl, rfl, by decide, by decide, by decide, fun _ => ⟨rfl, rfl⟩, .inl rfl⟩
set_option maxRecDepth 100000 in
set_option maxHeartbeats 1600000 in
theorem put9 (w : World) (id : Nat) (x : Int) (hx : (Lit.int .i32 x).wf = true) :
    Calls Tryz.prog 27 #[.int .u32 (id : Int), .int .i32 x] w fun e w' => Below w.heap.size w w' ∧ ∃ vb, e = .returned (.agg #[.bool false, .int .u32 (id : Int), .slice (some ⟨vb, 0, none⟩) 1 1, .slice none 0 0]) ∧ w.heap.size ≤ vb ∧ vb < w'.heap.size ∧ Rd (fun k => k = vb) w' shVec [.slice (some ⟨vb, 0, none⟩) 1 1] [x] := by
  obtain ⟨w1, hw1⟩ : ∃ w1, w.alloc (.cells #[.bool false, .int .u32 0, .slice none 0 0, .slice none 0 0] 75) = w1 := ⟨_, rfl⟩
  obtain ⟨w2, hw2⟩ : ∃ w2, w1.alloc (.cells #[.int .i32 x] 21) = w2 := ⟨_, rfl⟩
  have hb1 : Below w.heap.size w w1 := by rw [← hw1]; exact (Below.refl _ _).alloc (Nat.le_refl _) _
  have hb2 : Below w1.heap.size w1 w2 := by rw [← hw2]; exact (Below.refl _ _).alloc (Nat.le_refl _) _
  have hs1 : w1.heap.size = w.heap.size + 1 := by rw [← hw1]; simp
  obtain ⟨eb, heb⟩ : ∃ eb, w.heap.size = eb := ⟨_, rfl⟩
  obtain ⟨vb, hvb⟩ : ∃ vb, w1.heap.size = vb := ⟨_, rfl⟩
  have E1 : Blk w1 eb 75 [.bool false, .int .u32 0, .slice none 0 0, .slice none 0 0] := by rw [← hw1, ← heb]; exact Blk.new _ _ _
  have E2 := (Kept.of_below (F := []) hb2 (Nat.le_refl _)).blk E1 (by simp)
  have V2 : w2.ownsRow 0 21 1 (.slice (some ⟨vb, 0, none⟩) 1 1) 1 [.int .i32 x] := by rw [← hw2, ← hvb]; exact World.ownsRow_lit w1 #[.int .i32 x] 1 (Nat.zero_le _) (by decide) rfl
  have e0 : w2.cell? ⟨eb, 0, none⟩ = some (.bool false) := E2.cell 0
  have e1 : w2.cell? ⟨eb, 1, none⟩ = some (.int .u32 0) := E2.cell 1
  have e2 : w2.cell? ⟨eb, 2, none⟩ = some (.slice none 0 0) := E2.cell 2
  have e3 : w2.cell? ⟨eb, 3, none⟩ = some (.slice none 0 0) := E2.cell 3
  have f0 := E2.frozen 0
  have f1 := E2.frozen 1
  have f2 := E2.frozen 2
  have f3 := E2.frozen 3
  have hlt := E2.lt
  obtain ⟨w9, hw9⟩ : ∃ w9, (((w2.setCell ⟨eb, 0, none⟩ (.bool false)).setCell ⟨eb, 1, none⟩ (.int .u32 (id : Int))).setCell ⟨eb, 2, none⟩ (.slice (some ⟨vb, 0, none⟩) 1 1)).setCell ⟨eb, 3, none⟩ (.slice none 0 0) = w9 := ⟨_, rfl⟩
  have Z := Lib.hid (show w9.heap[eb]? = some (.cells #[.bool false, .int .u32 (id : Int), .slice (some ⟨vb, 0, none⟩) 1 1, .slice none 0 0] 75 (0, 0)) from by
    rw [← hw9]
    exact (((E2.set 0 _).set 1 _).set 2 _).set 3 _)
  have K := Lib.hid (show Kept [eb] w2 w9 from by
    rw [← hw9]
    exact ((((Kept.refl [eb] w2).setCell _ _ (.inl (by simp))).setCell _ _ (.inl (by simp))).setCell _ _ (.inl (by simp))).setCell _ _ (.inl (by simp)))
  have B := Lib.hid (show Below w.heap.size w w9 from (below_on hb1 hb2).trans (K.out.below (B := w.heap.size) (by simp [heb]) (below_on hb1 hb2).size))
  have hvl : vb < w2.heap.size := by rw [← hw2, ← hvb]; simp
  have R := Lib.hid (show Rd (fun k => k = vb) w9 shVec [.slice (some ⟨vb, 0, none⟩) 1 1] [x] from (own_ints (ok := fun k => k = vb) (xs := [x]) (k := .i32) (sz := 4) V2 (fun g hg => by cases hg; rfl) (by simpa using hx) (by decide) (show 1 * 4 ≤ 140737488351232 by decide)).stay (ok' := fun k => k = vb) K.out.size (fun k hk hkk => K.out.block k hkk (by simp; omega)) (fun _ h _ => h))
  have L := Lib.hid (show w.heap.size ≤ vb ∧ vb < w9.heap.size from ⟨by omega, Nat.lt_of_lt_of_le hvl K.out.size⟩)
  clear E1 E2 V2 hb1 hb2 hx hs1 hvl
  go_enter Tryz.func27, Tryz.ntmps27
  go_wp2
  refine bodyPost_ret (results_cell_row (p := 4) (ty := 75) rfl _ _ eb 75 #[.bool false, .int .u32 (id : Int), .slice (some ⟨vb, 0, none⟩) 1 1, .slice none 0 0] (0, 0) _ rfl Z.out Tryz.underlying75 rfl change_info9) rfl ?_
  exact ⟨B.out, vb, rfl, L.out.1, L.out.2, R.out⟩
def cfA (d : Nat) : ConfL := ⟨⟨#[97]⟩, d, 0, false, 0, 0⟩
def putL (id : Nat) (x : Int) (vb : Nat) : ChL := ⟨false, ⟨id, (some ⟨vb, 0, none⟩, 1, 1), (none, 0, 0), [x], []⟩⟩
def goneL (id : Nat) : ChL := ⟨true, ⟨id, (none, 0, 0), (none, 0, 0), [], []⟩⟩
def pA1 : PastV := ⟨[⟨1, false, ⟨1, [5], []⟩⟩, ⟨1, false, ⟨2, [6], []⟩⟩], 1, 1, []⟩
def pA2 : PastV := ⟨[⟨1, false, ⟨1, [5], []⟩⟩, ⟨1, false, ⟨2, [6], []⟩⟩, ⟨2, true, ⟨1, [], []⟩⟩], 2, 2, [1]⟩
theorem al1 (a b : Nat) : writeV 0 (cfA 1) PastV.new [] [putL 1 5 a, putL 2 6 b] = ((pA1, 1), (1, 0)) := by kernel_rfl
theorem al2 : writeV 1 (cfA 1) pA1 [1] [goneL 1] = ((pA2, 2), (2, 0)) := by kernel_rfl
theorem al3 : writeV 2 (cfA 1) pA2 [1] [goneL 1] = ((pA2, 2), (0, 2)) := by kernel_rfl
theorem al4 : (pA2.all 1).2 = 0 ∧ (pA2.all 1).1.length = 2 ∧ (pA2.all pA2.last).1.length = 1 := ⟨by kernel_rfl, by kernel_rfl, by kernel_rfl⟩
theorem cfA_cells (d : Nat) : (cfA d).cells.toArray = #[.string ⟨#[97]⟩, .int .u8 (d : Int), .int .u8 0, .bool false, .int .u8 0, .int .u16 0] := rfl
theorem wfA (d : Nat) (hd : d ≤ 255) : (cfA d).Wf := ⟨show (1 : Nat) ≤ 140737488351232 by decide, hd, show (0 : Nat) ≤ 255 by decide, show (0 : Nat) ≤ 255 by decide, show (0 : Nat) ≤ 65535 by decide⟩
theorem szA (d : Nat) : (cfA d).name.size ≤ maxLen := show (1 : Nat) ≤ maxLen by decide
set_option maxRecDepth 100000 in
set_option maxHeartbeats 6400000 in
theorem alive9 (w : World) : Calls Tryz.prog 10 #[] w fun e w' => e = .returned (.bool true) ∧ Below w.heap.size w w' := by
  go_enter Tryz.func10, Tryz.ntmps10
  go_wp2_with (fail)
  refine (new_store w).mono ?_
  rintro e w1 ⟨g, gc, gp, rfl, hb1, h1⟩
  go_wp2_with (fail)
  refine (one_create w1 w.heap.size g (cfA 1) (wfA 1 (by decide)) (by kernel_rfl) hb1.size ⟨gc, gp, h1⟩).mono ?_
  rintro e w2 ⟨rfl, G2, h2, hb2⟩
  have B2 := Lib.hid (hb1.trans hb2)
  have H2 := Lib.hid h2
  clear hb1 hb2 h1 h2
  go_wp2_with (fail)
  refine (put9 w2 1 5 (by decide)).mono ?_
  rintro e w3 ⟨hb3, v1, rfl, a3, b3, r3⟩
  have B3 := Lib.hid hb3
  have R3 := Lib.hid (And.intro a3 (And.intro b3 r3))
  clear hb3 a3 b3 r3
  go_wp2_with (fail)
  refine (put9 w3 2 6 (by decide)).mono ?_
  rintro e w4 ⟨hb4, v2, rfl, a4, b4, r4⟩
  have B4 := Lib.hid hb4
  have R4 := Lib.hid (And.intro a4 (And.intro b4 r4))
  clear hb4 a4 b4 r4
  obtain ⟨w5, hw5⟩ : ∃ w5, w4.alloc (.cells #[.bool false, .int .u32 1, .slice (some ⟨v1, 0, none⟩) 1 1, .slice none 0 0, .bool false, .int .u32 2, .slice (some ⟨v2, 0, none⟩) 1 1, .slice none 0 0] 75) = w5 := ⟨_, rfl⟩
  obtain ⟨cb, hcb⟩ : ∃ cb, w4.heap.size = cb := ⟨_, rfl⟩
  have B5 := Lib.hid (show Below w4.heap.size w4 w5 from by rw [← hw5]; exact (Below.refl _ _).alloc (Nat.le_refl _) _)
  have X5 := Lib.hid (show Blk w5 cb 75 [.bool false, .int .u32 1, .slice (some ⟨v1, 0, none⟩) 1 1, .slice none 0 0, .bool false, .int .u32 2, .slice (some ⟨v2, 0, none⟩) 1 1, .slice none 0 0] from by rw [← hw5, ← hcb]; exact Blk.new _ _ _)
  have S5 := Lib.hid (H2.out.on (below_on (below_on B3.out B4.out) B5.out))
  have CH := Lib.hid (show ChsAt (fun k => w2.heap.size ≤ k) w5 (some ⟨cb, 0, none⟩) 2 2 [putL 1 5 v1, putL 2 6 v2] from by
    have s2 := B3.out.size
    have s3 := B4.out.size
    have hcl := X5.out.lt
    have v3 := R3.out.2.2.stay (ok' := fun k => w2.heap.size ≤ k) (w' := w5) (below_on B4.out B5.out).size (fun k hk hkk => (below_on B4.out B5.out).block k hkk) (fun k hk _ => by have : k = v1 := hk; have := R3.out.1; omega)
    have v4 := R4.out.2.2.stay (ok' := fun k => w2.heap.size ≤ k) (w' := w5) B5.out.size (fun k hk hkk => B5.out.block k hkk) (fun k hk _ => by have : k = v2 := hk; have := R4.out.1; omega)
    refine ⟨rfl, Nat.le_refl _, by decide, fun i x hx => ?_⟩
    match i, hx with
    | 0, hx =>
      obtain rfl : putL 1 5 v1 = x := Option.some.inj hx
      exact ⟨⟨show (1 : Nat) < 4294967296 by decide, v3, nil_tags9 _ _⟩, cb, 0, rfl, by omega, hcl, X5.out.cell 0, X5.out.cell 1, X5.out.cell 2, X5.out.cell 3⟩
    | 1, hx =>
      obtain rfl : putL 2 6 v2 = x := Option.some.inj hx
      exact ⟨⟨show (2 : Nat) < 4294967296 by decide, v4, nil_tags9 _ _⟩, cb, 0, rfl, by omega, hcl, X5.out.cell 4, X5.out.cell 5, X5.out.cell 6, X5.out.cell 7⟩
    | (j + 2), hx => simp at hx)
  have WR := Lib.hid (one_write w5 w.heap.size 0 g 0 0 G2 (cfA 1) PastV.new [] [] (fun k => w2.heap.size ≤ k) (some ⟨cb, 0, none⟩) 2 2 [putL 1 5 v1, putL 2 6 v2] (by decide) (fun k hk hx => by
    have := (H2.out.lt k hx).2
    omega) (szA 1) S5.out CH.out)
  rw [al1] at WR
  have B15 := Lib.hid (show Below w.heap.size w w5 from B2.out.trans ((below_on (below_on B3.out B4.out) B5.out).mono B2.out.size))
  clear B3 B4 R3 R4 X5 CH B5 B2 H2
  go_wp2_with (fail)
  refine WR.out.mono ?_
  rintro e w6 ⟨G6, rfl, h6, k6, -⟩
  have B6 := Lib.hid (B15.out.trans (S5.out.below k6))
  have H6 := Lib.hid h6
  clear k6 h6 S5 WR B15
  go_wp2_with (fail)
  refine (one_pin w6 w.heap.size 1 g 1 0 G6 (cfA 1) pA1 [] [] (by decide) (szA 1) H6.out).mono ?_
  rintro e w7 ⟨G7, rfl, h7, k7, -⟩
  have B7 := Lib.hid (B6.out.trans (H6.out.below k7))
  have H7 := Lib.hid (show OneIs w7 w.heap.size 2 g G7 (cfA 1) pA1 [1] [(1, 1)] 1 1 from h7)
  clear k7 h7 H6 B6
  obtain ⟨w8, hw8⟩ : ∃ w8, w7.alloc (.cells #[.bool true, .int .u32 1, .slice none 0 0, .slice none 0 0] 75) = w8 := ⟨_, rfl⟩
  obtain ⟨cd, hcd⟩ : ∃ cd, w7.heap.size = cd := ⟨_, rfl⟩
  have B8 := Lib.hid (show Below w7.heap.size w7 w8 from by rw [← hw8]; exact (Below.refl _ _).alloc (Nat.le_refl _) _)
  have X8 := Lib.hid (show Blk w8 cd 75 [.bool true, .int .u32 1, .slice none 0 0, .slice none 0 0] from by rw [← hw8, ← hcd]; exact Blk.new _ _ _)
  have H8 := Lib.hid (H7.out.on B8.out)
  have NG := Lib.hid (show ∀ k, k = cd → k ∉ G7 from fun k hk hx => by
    have := (H7.out.lt k hx).2
    omega)
  have CH := Lib.hid (show ChsAt (fun k => k = cd) w8 (some ⟨cd, 0, none⟩) 1 1 [goneL 1] from by
    have hcl := X8.out.lt
    refine ⟨rfl, Nat.le_refl _, by decide, fun i x hx => ?_⟩
    match i, hx with
    | 0, hx =>
      obtain rfl : goneL 1 = x := Option.some.inj hx
      exact ⟨⟨by decide, nil_vec9 _ _, nil_tags9 _ _⟩, cd, 0, rfl, rfl, hcl, X8.out.cell 0, X8.out.cell 1, X8.out.cell 2, X8.out.cell 3⟩
    | (j + 1), hx => simp at hx)
  have WR := Lib.hid (one_write w8 w.heap.size 2 g 1 1 G7 (cfA 1) pA1 [1] [(1, 1)] (fun k => k = cd) (some ⟨cd, 0, none⟩) 1 1 [goneL 1] (by decide) NG.out (szA 1) H8.out CH.out)
  rw [al2] at WR
  have B18 := Lib.hid (show Below w.heap.size w w8 from B7.out.trans (B8.out.mono B7.out.size))
  have hcl8 := X8.out.lt
  clear B7 B8 X8 H7
  go_wp2_with (fail)
  refine WR.out.mono ?_
  rintro e w9 ⟨G9, rfl, h9, k9, g9⟩
  have B9 := Lib.hid (B18.out.trans (H8.out.below k9))
  have H9 := Lib.hid (show OneIs w9 w.heap.size 3 g G9 (cfA 1) pA2 [1] [(1, 1)] 2 1 from h9)
  have CH9 := Lib.hid (CH.out.stay (ok' := fun k => k = cd) k9.size (fun k hk hkk => k9.block k hkk (NG.out k hk)) (fun _ h _ => h))
  have NG9 := Lib.hid (show ∀ k, k = cd → k ∉ G9 from fun k hk hx => by
    rcases g9 k hx with h | h
    · exact NG.out k hk h
    · omega)
  have WR2 := Lib.hid (one_write w9 w.heap.size 3 g 2 1 G9 (cfA 1) pA2 [1] [(1, 1)] (fun k => k = cd) (some ⟨cd, 0, none⟩) 1 1 [goneL 1] (by decide) NG9.out (szA 1) H9.out CH9.out)
  rw [al3] at WR2
  clear k9 h9 g9 WR H8 B18 CH NG hcl8
  go_wp2_with (fail)
  refine WR2.out.mono ?_
  rintro e wa ⟨Ga, rfl, ha, ka, -⟩
  have BA := Lib.hid (B9.out.trans (H9.out.below ka))
  have HA := Lib.hid (show OneIs wa w.heap.size 4 g Ga (cfA 1) pA2 [1] [(1, 1)] 2 1 from ha)
  clear ka ha WR2 H9 B9 CH9 NG9
  have PN := Lib.hid (one_pinned wa w.heap.size 4 g 2 1 Ga (cfA 1) pA2 [1] [(1, 1)] (1, 1) (by decide) (by simp) HA.out)
  go_wp2_with (fail)
  refine PN.out.mono ?_
  rintro e wb ⟨hbb, sv, us, rfl, hus, huo, hut⟩
  have hul : us.length = 2 := by
    have h1 := congrArg List.length hut
    rw [List.length_map] at h1
    exact h1.trans al4.2.1
  obtain ⟨ua, uc, rfl, -⟩ := hus.form
  rw [hul, show (pA2.all (1, 1).2).2 = 0 from al4.1, cfA_cells]
  have BB := Lib.hid (BA.out.trans (hbb.mono BA.out.size))
  have HB := Lib.hid (HA.out.on hbb)
  clear hbb hus huo hut hul PN BA HA
  have SC := Lib.hid (fun W (hW : Below wb.heap.size wb W) => one_size W w.heap.size 4 g 2 1 Ga (cfA 1) pA2 [1] [(1, 1)] (szA 1) (HB.out.on hW))
  rw [show (pA2.all pA2.last).1.length = 1 from al4.2.2] at SC
  go_wp2_with (fail)
  have BC := (Below.refl wb.heap.size wb).alloc (Nat.le_refl _) (.cells #[.string ⟨#[97]⟩, .int .u8 1, .int .u8 0, .bool false, .int .u8 0, .int .u16 0] 36)
  refine (SC.out _ BC).mono ?_
  rintro e wd ⟨rfl, hbd⟩
  have BE := Lib.hid (below_on (below_on BB.out BC) hbd)
  clear BC hbd
  go_wp2
  go_ret
  exact ⟨rfl, BE.out⟩
end Go.Proofs.YtdmnflncgmnghaaGreat
