/-
  The example of layer 11's laws.
-/
import Derived.Test.YtdfpfgkfmjehiaaIM8
namespace Go.Proofs.Ytdfpfgkfmjehiaa
open Go.RowKit Go.ChangeShapes Go.WideShapes Go.ChangeAt

/-- The example's graph behind so many nodes. -/
def exN (x : Int) : NodeV := newN 0 [x] [] 0 1
def exG : Nat → GraphV
  | 0 => ⟨0, []⟩
  | 1 => ⟨0, [exN 0]⟩
  | 2 => ⟨0, [exN 0, exN 10]⟩
  | _ => ⟨0, [exN 0, exN 10, exN 11]⟩
theorem ex_walk : (exG 3).walk [9] [0] 9 0 = [(1, 1), (4, 2), (81, 0)] := by decide +kernel
theorem ex_c1 : (exG 3).choose [9] [0, 1, 2] (1 : Int).toNat = [1] := by decide +kernel
theorem ex_c2 : (exG 3).choose [9] [0, 1, 2] (2 : Int).toNat = [1, 0] := by decide +kernel
theorem ex_l1 : (exG 3).linkB 0 2 0 = true := by decide +kernel
theorem ex_l2 : ((exG 3).link 0 2 0 5).linkB 0 0 0 = false := by decide +kernel
theorem vec_one11 (w : World) (a : Int) (ha : (Lit.int .i32 a).wf = true) : (⟨0, (some ⟨w.heap.size, 0, none⟩, 1, 1), (none, 0, 0), [a], []⟩ : ItL).In (fun _ => True) (w.alloc (.cells #[.int .i32 a] 21)) := by
  have hb := Blk.new w 21 #[.int .i32 a]
  refine ItL.OwnI.inn (lo := 0) (ok := fun _ => True) ⟨show 0 < 4294967296 by decide, ⟨by simp, .inr ⟨w.heap.size, 1, #[.int .i32 a], rfl, Nat.zero_le _, hb, Nat.le_refl _, by decide, rfl, rfl⟩⟩, ⟨by simp, .inl ⟨rfl, rfl⟩⟩, ?_, by simp, by simp, by simp⟩ (fun _ _ => trivial)
  intro b hb
  rw [List.mem_singleton.1 hb]
  exact ha
theorem two_lits (w w' : World) (xs : List Int) (n : Nat) (hn : xs.length = n) (h1 : n ≤ 1000) (hx : ∀ x ∈ xs, (Lit.int .i64 x).wf = true) (e : (w.alloc (.cells #[.int .i32 9] 21)).alloc (.cells (xs.map (Value.int .i64)).toArray 3) = w') :
    Reads .i32 w' (some ⟨w.heap.size, 0, none⟩) 1 [9] ∧ Reads .i64 w' (some ⟨w.heap.size + 1, 0, none⟩) n xs ∧ Below w.heap.size w w' := by
  subst e
  refine ⟨(reads_lit (k := .i32) (t := 21) w [9] 1 rfl (by decide) (by decide) (by decide)).below (B := (w.alloc (.cells #[.int .i32 9] 21)).heap.size) (Nat.le_refl _) ((Below.refl _ _).alloc (Nat.le_refl _) _), ?_, ((Below.refl _ _).alloc (Nat.le_refl _) _).alloc (by simp) _⟩
  have := reads_lit (k := .i64) (t := 3) (w.alloc (.cells #[.int .i32 9] 21)) xs n hn h1 (by decide) hx
  rw [show (w.alloc (.cells #[.int .i32 9] 21)).heap.size = w.heap.size + 1 from by simp] at this
  exact this
theorem ex_step (k : Nat) (hk : k < 3) : ∃ x : Int, ([.int .i32 0, .int .i32 10, .int .i32 11] : List Value)[k]? = some (.int .i32 x) ∧ (Lit.int .i32 x).wf = true ∧ exG (k + 1) = (exG k).add (newN 0 [x] [] (topN 0) 1) ∧ (exG k).L.length = k := by
  match k, hk with
  | 0, _ => exact ⟨0, rfl, by decide, rfl, rfl⟩
  | 1, _ => exact ⟨10, rfl, by decide, rfl, rfl⟩
  | 2, _ => exact ⟨11, rfl, by decide, rfl, rfl⟩
set_option maxRecDepth 100000 in
set_option maxHeartbeats 3200000 in
theorem alive11 (w : World) : Calls Try.prog 8 #[] w fun e w' => e = .returned (.bool true) ∧ Below w.heap.size w w' := by
  go_enter Try.func8, Try.ntmps8
  go_wp2_with (fail)
  refine (gnew_any w 0 (by decide)).mono ?_
  rintro e w1 ⟨rfl, h1, hb1⟩
  have hbl := Blk.new w1 21 #[.int .i32 0, .int .i32 10, .int .i32 11]
  have a1 : Below w1.heap.size w1 (w1.alloc (.cells #[.int .i32 0, .int .i32 10, .int .i32 11] 21)) := (Below.refl _ _).alloc (Nat.le_refl _) _
  have HG := Lib.hid (h1.on a1)
  have HB := Lib.hid (hb1.trans (a1.mono hb1.size))
  have hs1 := hb1.size
  have hne : w1.heap.size ∉ [w.heap.size] := fun hh => by
    have := h1.lt _ hh
    omega
  have HBL := Lib.hid hbl
  obtain ⟨bl, hble⟩ : ∃ bl, w1.heap.size = bl := ⟨_, rfl⟩
  rw [hble] at HBL hne
  clear h1 hb1 hbl a1
  go_wp2_with (fail)
  go_loopw [10] (fun s10 wr => ∃ (k : Nat) (F : List Nat), k ≤ 3 ∧ s10 = .int .i64 (k : Int) ∧ bl ∉ F ∧ Hid (GraphIs wr w.heap.size w.heap.size F (exG k)) ∧ Hid (Below w.heap.size w wr) ∧ Hid (Blk wr bl 21 [.int .i32 0, .int .i32 10, .int .i32 11])) (fun s10 _ => 3 - (intOf s10).toNat)
  case atStart => exact ⟨0, [w.heap.size], by omega, rfl, hne, HG, HB, HBL⟩
  case round =>
    clear HG HB HBL hne
    obtain ⟨k, F, hk, rfl, hF, HG, HB, HBL⟩ := hrel
    by_cases hk3 : k < 3
    · obtain ⟨x, hx, hwf, hstep, hlen⟩ := ex_step k hk3
      have c0 : wr.cell? ⟨bl, k, none⟩ = some (.int .i32 x) := by rw [HBL.out.cell]; exact hx
      have hbl := HBL.out.lt
      have hbr := HB.out.size
      obtain ⟨w3, hw3⟩ : ∃ w3, wr.alloc (.cells #[.int .i32 x] 21) = w3 := ⟨_, rfl⟩
      have a3 : Below wr.heap.size wr w3 := by rw [← hw3]; exact (Below.refl _ _).alloc (Nat.le_refl _) _
      have CA := Lib.hid (add_any11 w3 w.heap.size w.heap.size F (exG k) (HG.out.on a3) (Nat.le_trans hbr a3.size) (by rw [hlen]; omega) ⟨0, (some ⟨wr.heap.size, 0, none⟩, 1, 1), (none, 0, 0), [x], []⟩ (by rw [← hw3]; exact vec_one11 wr x hwf) 0 1 (by decide))
      have B3 := Lib.hid (HB.out.trans (a3.mono hbr))
      have BL3 := Lib.hid ((Kept.of_below (F := []) a3 (Nat.le_refl _)).blk HBL.out (by simp))
      have G3 := Lib.hid (HG.out.on a3)
      have HST := Lib.hid hstep
      clear hx hwf hstep hlen a3 HG HB HBL
      go_wp2_with (first | (rw [hw3]) | fail)
      refine CA.out.mono ?_
      rintro e w4 ⟨rfl, F4, h4, k4, g4⟩
      rw [← HST.out] at h4
      have B4 := Lib.hid (B3.out.trans (k4.below (fun b hb => (G3.out.lt b hb).1) B3.out.size))
      have BL4 := Lib.hid (k4.blk BL3.out hF)
      have hF4 : bl ∉ F4 := fun hh => by
        rcases g4 bl hh with h | h
        · exact hF h
        · have := BL3.out.lt
          omega
      have H4 := Lib.hid h4
      clear h4 k4 g4 CA B3 BL3 G3 HST c0
      go_wp2
      go_roundw
      case rel => exact ⟨k + 1, F4, by omega, by go_num, hF4, H4, B4, BL4⟩
      case measure => simp [intOf]; omega
    · obtain rfl : k = 3 := by omega
      have hs := HB.out.size
      obtain ⟨w3, hw3⟩ : ∃ w3, (wr.alloc (.cells #[.int .i32 9] 21)).alloc (.cells #[.int .i64 0] 3) = w3 := ⟨_, rfl⟩
      have a3 : Below wr.heap.size wr w3 := by rw [← hw3]; exact ((Below.refl _ _).alloc (Nat.le_refl _) _).alloc (by simp) _
      have H3 := Lib.hid (HG.out.on a3)
      have B3 := Lib.hid (HB.out.trans (a3.mono hs))
      have hq : Reads .i32 w3 (some ⟨wr.heap.size, 0, none⟩) 1 [9] := by
        rw [← hw3]
        exact (reads_lit (k := .i32) (t := 21) wr [9] 1 rfl (by decide) (by decide) (by decide)).below (B := (wr.alloc (.cells #[.int .i32 9] 21)).heap.size) (Nat.le_refl _) ((Below.refl _ _).alloc (Nat.le_refl _) _)
      have hf : Reads .i64 w3 (some ⟨wr.heap.size + 1, 0, none⟩) 1 [0] := by
        rw [← hw3]
        have := reads_lit (k := .i64) (t := 3) (wr.alloc (.cells #[.int .i32 9] 21)) [0] 1 rfl (by decide) (by decide) (by decide)
        rw [show (wr.alloc (.cells #[.int .i32 9] 21)).heap.size = wr.heap.size + 1 from by simp] at this
        exact this
      have CW := walk_is H3.out _ 1 1 [9] hq _ 1 1 [0] hf (by decide) 9 0
      rw [ex_walk] at CW
      have HCW := Lib.hid CW
      clear CW hq hf a3 HG HB HBL
      go_wp2_with (first | (rw [hw3]) | fail)
      refine HCW.out.mono ?_
      rintro e w4 ⟨gl, n, rfl, ho, hb4, hgl⟩
      obtain rfl : n = 3 := by
        obtain ⟨a', c', e⟩ := ho.size
        simp only [Value.slice.injEq] at e
        exact e.2.1
      obtain ⟨rest, -, hblk, -⟩ := ho.blk
      have hs3 := B3.out.size
      have HX4 := Lib.hid (show w4.cell? ⟨gl, 1, none⟩ = some (.int .u32 1) from by rw [hblk.cell]; rfl)
      have hgl4 := hblk.lt
      have H4 := Lib.hid (H3.out.on hb4)
      have B4 := Lib.hid (B3.out.trans (hb4.mono hs3))
      have hs4 := B4.out.size
      have CL := Lib.hid (len_is H4.out)
      rw [show (((exG 3).L.length : Nat) : Int) = 3 from rfl] at CL
      have hglF : gl ∉ F := fun hh => by
        have := H3.out.lt _ hh
        omega
      clear ho hb4 hblk HCW H3 B3 hw3
      go_wp2_with (fail)
      refine CL.out.mono ?_
      rintro e w5 ⟨rfl, hw5⟩
      subst hw5
      obtain ⟨wA, hwA⟩ : ∃ wA, (w4.alloc (.cells #[.int .i32 9] 21)).alloc (.cells #[.int .i64 0, .int .i64 1, .int .i64 2] 3) = wA := ⟨_, rfl⟩
      obtain ⟨q1, q2, q3⟩ := two_lits w4 wA [0, 1, 2] 3 rfl (by decide) (by decide) hwA
      have HA := Lib.hid (H4.out.on q3)
      have BA := Lib.hid (B4.out.trans (q3.mono hs4))
      have xA := q3.cell (p := ⟨gl, 1, none⟩) hgl4
      have gA := Nat.lt_of_lt_of_le hgl4 q3.size
      have CC := choose_is11 HA.out _ 1 1 [9] q1 _ 3 3 [0, 1, 2] q2 (by decide) 1 (show (1 : Int) ≤ 9223372036854775807 by decide)
      rw [ex_c1] at CC
      have HCC := Lib.hid CC
      clear q1 q2 q3 CC
      go_wp2_with (first | (rw [hwA]) | fail)
      clear hwA
      refine HCC.out.mono ?_
      rintro e wB ⟨vB, rfl, hiB, hbB⟩
      obtain ⟨aB, nB, cB, rfl, -⟩ := hiB.parts
      have hrB := hiB.reads (by decide) (by decide)
      obtain ⟨wC, hwC⟩ : ∃ wC, wB.alloc (.cells #[.int .i64 1] 3) = wC := ⟨_, rfl⟩
      have aC : Below wB.heap.size wB wC := by rw [← hwC]; exact (Below.refl _ _).alloc (Nat.le_refl _) _
      have hrC : Reads .i64 wC (some ⟨wB.heap.size, 0, none⟩) 1 [1] := by
        rw [← hwC]
        exact reads_lit (k := .i64) (t := 3) wB [1] 1 rfl (by decide) (by decide) (by decide)
      have CI := Lib.hid (ints_any wC aB nB cB _ (hrB.below (Nat.le_refl _) aC) _ 1 1 _ hrC true (by decide))
      have bC := hbB.trans (aC.mono hbB.size)
      have HC := Lib.hid (HA.out.on bC)
      have BC := Lib.hid (BA.out.trans (bC.mono BA.out.size))
      have xC := (bC.cell (p := ⟨gl, 1, none⟩) gA).trans xA
      have gC := Nat.lt_of_lt_of_le gA bC.size
      clear hiB hbB hrB hrC aC bC HA BA xA gA HCC
      go_wp2_with (first | (rw [hwC]) | fail)
      clear hwC
      refine CI.out.mono ?_
      rintro e wD ⟨rfl, hbD⟩
      have HX5 := Lib.hid (((hbD.cell (p := ⟨gl, 1, none⟩) gC).trans xC).trans HX4.out)
      have H5 := Lib.hid (HC.out.on hbD)
      have B5 := Lib.hid (BC.out.trans (hbD.mono BC.out.size))
      have hs5 := B5.out.size
      have hgl5 := Nat.lt_of_lt_of_le gC hbD.size
      clear hbD xC gC HC BC CI HX4 H4 B4 hs4 hgl4
      obtain ⟨wA2, hwA2⟩ : ∃ wA2, (wD.alloc (.cells #[.int .i32 9] 21)).alloc (.cells #[.int .i64 0, .int .i64 1, .int .i64 2] 3) = wA2 := ⟨_, rfl⟩
      obtain ⟨q1, q2, q3⟩ := two_lits wD wA2 [0, 1, 2] 3 rfl (by decide) (by decide) hwA2
      have HA2 := Lib.hid (H5.out.on q3)
      have BA2 := Lib.hid (B5.out.trans (q3.mono hs5))
      have xA2 := q3.cell (p := ⟨gl, 1, none⟩) hgl5
      have gA2 := Nat.lt_of_lt_of_le hgl5 q3.size
      have CC := choose_is11 HA2.out _ 1 1 [9] q1 _ 3 3 [0, 1, 2] q2 (by decide) 2 (show (2 : Int) ≤ 9223372036854775807 by decide)
      rw [ex_c2] at CC
      have HCC2 := Lib.hid CC
      clear q1 q2 q3 CC
      go_wp2_with (first | (rw [hwA2]) | fail)
      clear hwA2
      refine HCC2.out.mono ?_
      rintro e wB2 ⟨vB2, rfl, hiB2, hbB2⟩
      obtain ⟨aB2, nB2, cB2, rfl, -⟩ := hiB2.parts
      have hrB2 := hiB2.reads (by decide) (by decide)
      obtain ⟨wC2, hwC2⟩ : ∃ wC2, wB2.alloc (.cells #[.int .i64 1, .int .i64 0] 3) = wC2 := ⟨_, rfl⟩
      have aC2 : Below wB2.heap.size wB2 wC2 := by rw [← hwC2]; exact (Below.refl _ _).alloc (Nat.le_refl _) _
      have hrC2 : Reads .i64 wC2 (some ⟨wB2.heap.size, 0, none⟩) 2 [1, 0] := by
        rw [← hwC2]
        exact reads_lit (k := .i64) (t := 3) wB2 [1, 0] 2 rfl (by decide) (by decide) (by decide)
      have CI2 := Lib.hid (ints_any wC2 aB2 nB2 cB2 _ (hrB2.below (Nat.le_refl _) aC2) _ 2 2 _ hrC2 true (by decide))
      have bC2 := hbB2.trans (aC2.mono hbB2.size)
      have HC2 := Lib.hid (HA2.out.on bC2)
      have BC2 := Lib.hid (BA2.out.trans (bC2.mono BA2.out.size))
      have xC2 := (bC2.cell (p := ⟨gl, 1, none⟩) gA2).trans xA2
      have gC2 := Nat.lt_of_lt_of_le gA2 bC2.size
      clear hiB2 hbB2 hrB2 hrC2 aC2 bC2 HA2 BA2 xA2 gA2 HCC2
      go_wp2_with (first | (rw [hwC2]) | fail)
      clear hwC2
      refine CI2.out.mono ?_
      rintro e wE ⟨rfl, hbE⟩
      have HX6 := Lib.hid (((hbE.cell (p := ⟨gl, 1, none⟩) gC2).trans xC2).trans HX5.out)
      have H6 := Lib.hid (HC2.out.on hbE)
      have B6 := Lib.hid (BC2.out.trans (hbE.mono BC2.out.size))
      have hs6 := B6.out.size
      have hgl6 := Nat.lt_of_lt_of_le gC2 hbE.size
      clear hbE xC2 gC2 HC2 BC2 CI2 HX5 H5 B5 hs5 hgl5
      have C1 := link_is H6.out 0 2 0 5 (show (5 : Int) ≤ 9223372036854775807 by decide)
      unfold LinkPost at C1
      rw [ex_l1] at C1
      have HC1 := Lib.hid C1
      clear C1
      go_wp2_with (fail)
      refine HC1.out.mono ?_
      rintro e w7 ⟨rfl, F7, h7, k7, g7⟩
      have HX7 := Lib.hid ((k7.cell (p := ⟨gl, 1, none⟩) hgl6 hglF).trans HX6.out)
      have hglF7 : gl ∉ F7 := fun hh => by
        rcases g7 gl hh with h | h
        · exact hglF h
        · omega
      have B7 := Lib.hid (B6.out.trans (k7.below (fun b hb => (H6.out.lt b hb).1) hs6))
      have hgl7 := Nat.lt_of_lt_of_le hgl6 k7.size
      have hs7 := B7.out.size
      have H7 := Lib.hid h7
      have C2 := link_is h7 0 0 0 5 (show (5 : Int) ≤ 9223372036854775807 by decide)
      unfold LinkPost at C2
      rw [ex_l2] at C2
      have HC2 := Lib.hid C2
      clear C2 h7 k7 g7 HC1 HX6 H6 B6 hgl6
      go_wp2_with (fail)
      refine HC2.out.mono ?_
      rintro e w8 ⟨rfl, F8, h8, k8, g8⟩
      have x8 : w8.cell? ⟨gl, 1, none⟩ = some (.int .u32 1) := (k8.cell (p := ⟨gl, 1, none⟩) hgl7 hglF7).trans HX7.out
      have B8 := Lib.hid (B7.out.trans (k8.below (fun b hb => (H7.out.lt b hb).1) hs7))
      have hgl8 := Nat.lt_of_lt_of_le hgl7 k8.size
      clear h8 k8 g8 HC2 HX7 B7
      go_wp2
      go_ret
      exact ⟨rfl, B8.out⟩
end Go.Proofs.Ytdfpfgkfmjehiaa
