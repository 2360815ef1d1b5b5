/-
  Layer 12: Search; an index as a law sees it; the example; ops as arguments; great; There. (Merged out of Kx Kag Kah Kai Kaj.)
-/
import Derived.Test.YtadkfedglkhgjaaGreatKM4
import Derived.Test.YtadkfedglkhgjaaGreatGd
import Derived.Test.YtadkfedglkhgjaaGreatId
import Derived.BigGuardPart
import Derived.BigCall
import Derived.Deep.DeepMust
namespace Go.Proofs.YtadkfedglkhgjaaGreat

section
open Go.RowKit Go.ChangeShapes Go.WideShapes Go.ChangeAt Go.Maps

theorem ItL.OwnI_in {lo : Nat} {w : World} (x : ItL) (h : x.OwnI lo w) : x.In (fun _ => True) w := h.inn (fun _ _ => trivial)
set_option maxRecDepth 100000 in
set_option maxHeartbeats 12800000 in
theorem hsearch_any (w : World) (lo x : Nat) (F : List Nat) (s : IdxV) (h : IdxIs w lo x F s) (he : s.EntryOk) (hf : s.g.L.length ≤ 100000) (qa : Option Addr) (qn qc : Nat) (q : List Int) (hq : Reads .i32 w qa qn q) (fl : FltL) (hfl : fl.In w) (k width : Int) (r : Nat) (hr : Hid ((r : Int) = min (max k 0) 256)) (v : Nat) :
    Calls Tryz.prog 17 #[.pointer (some ⟨x, 0, none⟩), .slice qa qn qc, .agg fl.cells.toArray, .int .i64 k, .int .i64 width, .int .u64 (v : Int)] w (HitsPost (s.searchV q fl.f r k width v) w) := by
  obtain ⟨W0, hW0⟩ : ∃ W0, w.alloc (.cells fl.cells.toArray 33) = W0 := ⟨_, rfl⟩
  have b0 : Below w.heap.size w W0 := by rw [← hW0]; exact (Below.refl _ w).alloc (Nat.le_refl _) _
  have s0 : W0.heap.size = w.heap.size + 1 := by rw [← hW0]; simp
  have DF : Blk W0 w.heap.size 33 fl.cells := by rw [← hW0]; exact Blk.new w _ fl.cells.toArray
  have hm256 : s.g.m < 256 := by
    obtain ⟨_, _, _, _, _, h2, _⟩ := h
    obtain ⟨_, _, _, _, _, _, _, _, h3⟩ := h2
    exact h3
  have CS := Lib.hid (sel_new k W0 r hr)
  have hq0 := hq.len
  obtain ⟨gf, hgf⟩ : ∃ gf, W0.heap.size = gf := ⟨_, rfl⟩
  obtain ⟨gb, hgb⟩ : ∃ gb, gf + 1 = gb := ⟨_, rfl⟩
  rw [hgf, hgb] at CS
  have HGB := Lib.hid (show gf = w.heap.size + 1 ∧ gb = w.heap.size + 2 from ⟨by omega, by omega⟩)
  have HH := Lib.hid h
  have HE := Lib.hid he
  have HF := Lib.hid hf
  have HQ := Lib.hid hq
  have HFL := Lib.hid hfl
  have HDF := Lib.hid DF
  have HB0 := Lib.hid b0
  have HGF := Lib.hid hgf
  have hxw : x < w.heap.size := by
    obtain ⟨gg, gm, Fg, S, h1, -⟩ := h
    exact h1.lt
  clear h he hf hq hfl DF b0 s0 hgb hgf
  go_enter Tryz.func17, Tryz.ntmps17
  go_wp2_with (first | (rw [hW0]) | fail)
  refine CS.out.mono ?_
  rintro e w1 ⟨rfl, hs1, hb1⟩
  have B1 := Lib.hid (HB0.out.trans ((show Below W0.heap.size W0 w1 from by rw [HGF.out]; exact hb1).mono HB0.out.size))
  have HS1 := Lib.hid hs1
  have HK01 := Lib.hid (show Below W0.heap.size W0 w1 from by rw [HGF.out]; exact hb1)
  have bd : Below w.heap.size w w1.drew := B1.out.drew
  have BD := Lib.hid bd
  have HBD := Lib.hid (Below.refl w1.drew.heap.size w1.drew)
  obtain ⟨gg, gm, Fg, Sg, g1, g2, -⟩ := HH.out
  have HG1 := Lib.hid g1
  have HG2 := Lib.hid g2
  obtain ⟨D, hD⟩ : ∃ D, s.down q 0 = D := ⟨_, rfl⟩
  have CD := Lib.hid (hdown_any w1.drew lo x F s (HH.out.on bd) HE.out HF.out qa qn qc q (reads_on12 HQ.out bd) 0 (by decide))
  rw [hD] at CD
  have HS := Lib.hid (fun (X : World) (hb : Below w1.drew.heap.size w1.drew X) => show X.cell? ⟨x, 3, none⟩ = some (.pointer (some ⟨gg, 0, none⟩)) from
    ((Kept.of_below (F := []) (BD.out.trans (hb.mono BD.out.size)) (Nat.le_refl _)).blk HG1.out (by simp)).cell 3)
  obtain ⟨mw, hmw⟩ : ∃ mw, max width k = mw := ⟨_, rfl⟩
  have hDB : -1 ≤ D ∧ D < 100000 := by
    rcases down_is HH.out.right HE.out q 0 with ⟨-, h9⟩ | ⟨_, j, -, -, h9, -, h10⟩
    · rw [hD] at h9
      omega
    · rw [hD] at h9
      have := HF.out
      omega
  obtain ⟨HL, hHL⟩ : ∃ HL, s.g.walk q [D] mw 0 = HL := ⟨_, rfl⟩
  have HCV := Lib.hid (show s.candsV q k width = placesV HL from by rw [← hHL, ← hD, ← hmw]; rfl)
  have PL := Lib.hid (walk_places HH.out.right HF.out q [D] mw (lev := 0) (by decide) hHL)
  have CW := Lib.hid (fun (X : World) (hb : Below w1.drew.heap.size w1.drew X) (u : Int) (hu : u = mw) => show Calls Tryz.prog 41 #[.pointer (some ⟨gg, 0, none⟩), .slice qa qn qc, .slice (some ⟨X.heap.size, 0, none⟩) 1 1, .int .i64 u, .int .i64 0] (X.alloc (.cells #[.int .i64 D] 3)) (HitsPost HL (X.alloc (.cells #[.int .i64 D] 3))) from by
    subst hu
    have hb2 := (BD.out.trans (hb.mono BD.out.size)).alloc (Nat.le_trans BD.out.size hb.size) (.cells #[.int .i64 D] 3)
    have := walk_is (HG2.out.on hb2) qa qn qc q (reads_on12 HQ.out hb2) (some ⟨X.heap.size, 0, none⟩) 1 1 [D] (reads_lit (t := 3) X [D] 1 rfl (by decide) (by decide) (fun y hy => by
      rw [List.mem_singleton.1 hy]
      simp [Lit.wf, IntKind.min, IntKind.max, IntKind.signed, IntKind.bits]
      omega)) (by decide) u 0
    rw [hHL] at this
    exact this)
  clear g1 g2 bd hs1 hb1 CS hD hHL hDB
  have hmm : mw = k ∧ width < k ∨ mw = width ∧ k ≤ width := by omega
  have x3 : w1.drew.cell? ⟨x, 3, none⟩ = some (.pointer (some ⟨gg, 0, none⟩)) := HS.out _ HBD.out
  clear hmw
  go_upto_region 2 with fail
  go_cut [34, 35, 36] (fun s34 s35 s36 wx => ∃ gp nh : Nat, s34 = .slice (some ⟨gp, 0, none⟩) nh nh ∧ s35 = .int .i64 (nh : Int) ∧ s36 = .int .i64 0 ∧ nh ≤ 100000 ∧ Hid (IntsAt w.heap.size wx (.slice (some ⟨gp, 0, none⟩) nh nh) (placesV HL)) ∧ Hid (Below w1.drew.heap.size w1.drew wx) ∧ Hid ((placesV HL).length = nh) ∧ Hid (gb < gp))
  case first =>
    rcases hmm with ⟨hm, hwk⟩ | ⟨hm, hwk⟩
    all_goals
      go_region_held3 (fun X => X.cell? ⟨x, 3, none⟩ = some (.pointer (some ⟨gg, 0, none⟩)))
        (first
          | (go_keep; done)
          | exact HS.out _ HBD.out
          | exact HS.out _ HB3.out
          | exact HS.out _ (HB3.out.alloc (Nat.le_refl _) _)
          | exact HS.out _ HB4.out
          | exact HS.out _ HB5.out)
        (first
          | (go_at_call 42; go_split_ands; refine CD.out.mono ?_; rintro e w3 ⟨rfl, hb3⟩; have HB3 := Lib.hid hb3; clear hb3)
          | (go_at_call 41; go_split_ands; refine (CW.out w3 HB3.out _ (by first | omega | (simp; omega) | (split <;> omega))).mono ?_; rintro e w4 ⟨gh, nh, rfl, ho4, hb4, -⟩; have HO4 := Lib.hid ho4; have HB4 := Lib.hid ((HB3.out.alloc HB3.out.size (.cells #[.int .i64 D] 3)).trans (hb4.mono (Nat.le_trans HB3.out.size (by simp)))); clear ho4 hb4)
          | (go_at_call 40; go_split_ands; refine (places_any w4 gh nh HL (by obtain ⟨_, hnl, -⟩ := HO4.out.blk; exact hnl.symm) (by obtain ⟨_, hnl, -⟩ := HO4.out.blk; have := PL.out.2.1; omega) PL.out.1 HO4.out).mono ?_; rintro e w5 ⟨gp, rfl, ho5, hb5⟩; have HO5 := Lib.hid ho5; have HB5 := Lib.hid (HB4.out.trans (hb5.mono HB4.out.size)); clear ho5 hb5))
      all_goals
        have HNH := Lib.hid (show (placesV HL).length = nh from by
          obtain ⟨_, hnl, -⟩ := HO4.out.blk
          rw [hnl]
          simp [placesV])
        have hnh5 : nh ≤ 100000 := by
          have h9 := PL.out.2.1
          obtain ⟨_, hnl, -⟩ := HO4.out.blk
          omega
        have HGP := Lib.hid (show gb < gp from by
          have h9 := (World.ownsRow.lt HO5.out.own gp rfl).1
          have h8 := HS1.out.lt gb (by simp)
          have h7 := HB4.out.size
          have h6 : w1.drew.heap.size = w1.heap.size := rfl
          omega)
        have HP5 := Lib.hid (show IntsAt w.heap.size w5 (.slice (some ⟨gp, 0, none⟩) nh nh) (placesV HL) from RowC.mono HO5.out (Nat.le_trans BD.out.size HB4.out.size))
        try go_wp2
        go_meet
        exact ⟨gp, nh, rfl, rfl, rfl, hnh5, HP5.out, HB5.out, HNH.out, HGP.out⟩
  case rest =>
    obtain ⟨gp, nh, rfl, rfl, rfl, hnh5, HP5, HB5, HNH, HGP⟩ := hcut
    rename World => w5
    have HS5 := Lib.hid (show SelF w5 [gf, gb] gb r (putAll r [] (s.foundV q fl.f v ((placesV HL).take 0))) from by
      rw [List.take_zero]
      exact (HS1.out.grow (Below.refl _ w1).drew).grow HB5.out)
    have HB05 := Lib.hid (show Below W0.heap.size W0 w5 from (HK01.out.drew).trans (HB5.out.mono (show W0.heap.size ≤ w1.heap.size from HK01.out.size)))
    have HBW5 := Lib.hid (BD.out.trans (HB5.out.mono BD.out.size))
    have HF5 := Lib.hid ((Kept.of_below (F := []) HB05.out (Nat.le_refl _)).blk HDF.out (by simp))
    obtain ⟨MM, hMM⟩ : ∃ MM, s.g.m = MM := ⟨_, rfl⟩
    have HMM := Lib.hid hMM
    have HM2 := Lib.hid hm256
    clear HB5 CW CD x3 HS HBD HS1 hm256 hMM hmm
    go_wp2_with (fail)
    go_loopw [36] (fun s36 wr => ∃ (i : Nat) (F1 : List Nat), s36 = .int .i64 (i : Int) ∧ i ≤ nh ∧ Hid (SelF wr F1 gb r (putAll r [] (s.foundV q fl.f v ((placesV HL).take i)))) ∧ Hid (Below w.heap.size w wr) ∧ Hid (IntsAt w.heap.size wr (.slice (some ⟨gp, 0, none⟩) nh nh) (placesV HL)) ∧ Hid (Blk wr w.heap.size 33 fl.cells) ∧ Hid (∀ b ∈ F1, w.heap.size < b ∧ b ≠ gp)) (fun s36 _ => nh - (intOf s36).toNat)
    case atStart => exact ⟨0, _, rfl, Nat.zero_le _, HS5.out, HBW5.out, HP5.out, HF5.out, fun b hb => by
      have h9 := HGB.out
      have h8 := HGP.out
      simp only [List.mem_cons, List.not_mem_nil, or_false] at hb
      omega⟩
    case round =>
      clear HS5 HBW5 HP5 HF5
      obtain ⟨i, F1, rfl, hi, HSR, HBR, HPR, HFR, HAF⟩ := hrel
      by_cases hin : i < nh
      · obtain ⟨j, hj⟩ : ∃ j, (placesV HL)[i]? = some j := ⟨_, List.getElem?_eq_getElem (by rw [HNH.out]; exact hin)⟩
        obtain ⟨gp', cp', ep', -, -, hrng⟩ := RowC.at HPR.out i [.int .i64 (j : Int)] (by rw [List.getElem?_map, hj]; rfl)
        have hgg : gp = gp' := by
          simp only [Value.slice.injEq, Option.some.injEq, Addr.mk.injEq, and_true] at ep'
          exact ep'.1
        subst hgg
        have k0 : wr.cell? ⟨gp, i, none⟩ = some (.int .i64 (j : Int)) := by have := hrng 0 _ rfl; rwa [Nat.mul_one, Nat.add_zero] at this
        have FN := Lib.hid (show s.foundV q fl.f v ((placesV HL).take (i + 1)) = s.foundV q fl.f v ((placesV HL).take i) ++ (hitOf s.g.m q fl.f v (s.g.nodeOr (j : Int))).toList from by rw [List.take_add_one, hj, Option.toList_some]; exact s.foundV_snoc q fl.f v _ j)
        have CN := Lib.hid (hnode_any wr lo x F s (HH.out.on HBR.out) (j : Int))
        clear hrng ep' hj
        go_wp2_with (fail)
        refine CN.out.mono ?_
        rintro e w2 ⟨y, rfl, hy, hyv, hb2⟩
        obtain ⟨la, ln, lc, hpl, -⟩ := ownsRow_slice hy.lrow
        have he : Value.agg y.cells.toArray = .agg #[.int .u32 (y.it.id : Int), .slice y.it.pv.1 y.it.pv.2.1 y.it.pv.2.2, .slice y.it.pt.1 y.it.pt.2.1 y.it.pt.2.2, .int .u64 (y.frm : Int), .int .u64 (y.til : Int), .slice la ln lc] := by
          show Value.agg #[_, _, _, _, _, y.pl] = _
          rw [hpl]
        rw [he]
        obtain ⟨w3, hw3⟩ : ∃ w3, w2.alloc (.cells #[.int .u32 (y.it.id : Int), .slice y.it.pv.1 y.it.pv.2.1 y.it.pv.2.2, .slice y.it.pt.1 y.it.pt.2.1 y.it.pt.2.2, .int .u64 (y.frm : Int), .int .u64 (y.til : Int), .slice la ln lc] 59) = w3 := ⟨_, rfl⟩
        have b3 : Below w2.heap.size w2 w3 := by rw [← hw3]; exact (Below.refl _ _).alloc (Nat.le_refl _) _
        have D3 := Lib.hid (show Blk w3 w2.heap.size 59 [.int .u32 (y.it.id : Int), .slice y.it.pv.1 y.it.pv.2.1 y.it.pv.2.2, .slice y.it.pt.1 y.it.pt.2.1 y.it.pt.2.2, .int .u64 (y.frm : Int), .int .u64 (y.til : Int), .slice la ln lc] from by rw [← hw3]; exact Blk.new _ _ _)
        have Y3 := Lib.hid (hy.on b3)
        have HW3 := Lib.hid (hb2.trans (b3.mono hb2.size))
        have HBW3 := Lib.hid (HBR.out.trans (HW3.out.mono HBR.out.size))
        have HNY := Lib.hid (show s.g.nodeOr (j : Int) = y.toV from hyv.symm)
        have HE := Lib.hid he
        have RV := Lib.hid (Rd.ints (y.it.OwnI_in Y3.out.it).hvec rfl)
        have HX3 := Lib.hid (show w3.cell? ⟨x, 0, none⟩ = some (.int .u8 (MM : Int)) from by
          rw [← HMM.out]
          obtain ⟨gg', gm', Fg', S', h1, -⟩ := HH.out
          exact ((Kept.of_below (F := []) HBW3.out (Nat.le_refl _)).blk h1 (by simp)).cell 0)
        have HS3 := Lib.hid (fun (X : World) (hb : Below w3.heap.size w3 X) => show X.cell? ⟨x, 0, none⟩ = some (.int .u8 (MM : Int)) ∧ X.cell? ⟨w2.heap.size, 1, none⟩ = some (.slice y.it.pv.1 y.it.pv.2.1 y.it.pv.2.2) from
          ⟨(hb.cell (World.block_lt_of_cell? w3 _ HX3.out)).trans HX3.out, ((Kept.of_below (F := []) hb (Nat.le_refl _)).blk D3.out (by simp)).cell 1⟩)
        have s3 := HS3.out w3 (Below.refl _ _)
        have hvl := RV.out.len
        clear hy hyv hb2 hpl he b3 k0
        rcases hdv : distV s.g.m qn y.it.pv.2.1 q y.it.vec with _ | dd
        · have CD := Lib.hid (fun (W : World) (hb : Below w3.heap.size w3 W) => show Calls Tryz.prog 43 #[.int .u8 (MM : Int), .slice qa qn qc, .slice y.it.pv.1 y.it.pv.2.1 y.it.pv.2.2] W fun e w' => e = .returned (.tuple #[.int .i64 0, .bool false]) ∧ Below W.heap.size W w' from by
            rw [← HMM.out]
            exact dist_none (s.g.m : Int) qa y.it.pv.1 qn y.it.pv.2.1 qc y.it.pv.2.2 q y.it.vec W (by omega) (by have := HM2.out; omega) (reads_on12 HQ.out (HBW3.out.trans (hb.mono HBW3.out.size))) (RV.out.below (Nat.le_refl _) hb) hdv)
          have HNO := Lib.hid (show hitOf s.g.m q fl.f v (s.g.nodeOr (j : Int)) = none from by
            rw [HNY.out]
            unfold hitOf
            rw [show y.toV.vec = y.it.vec from rfl, hq0, hvl, hdv])
          clear hdv
          go_wp2_with (first | (rw [hw3]) | fail)
          try rw [hw3]
          clear hw3
          go_region_held3 (fun X => X.cell? ⟨x, 0, none⟩ = some (.int .u8 (MM : Int)) ∧ X.cell? ⟨w2.heap.size, 1, none⟩ = some (.slice y.it.pv.1 y.it.pv.2.1 y.it.pv.2.2))
            (first
              | with_reducible exact s3
              | with_reducible exact HS3.out _ (Below.refl _ _).drew
              | with_reducible exact HS3.out _ HB4.out
              | (go_keep; done))
            (first
              | (go_at_call 43
                 go_split_ands
                 refine (CD.out w3.drew (Below.refl _ _).drew).mono ?_
                 rintro e w4 ⟨rfl, hb4⟩
                 have HB4 := Lib.hid ((Below.refl w3.heap.size w3).drew.trans (hb4.mono (Nat.le_refl _)))
                 clear hb4))
          have WN := HW3.out.trans (HB4.out.mono HW3.out.size)
          have FN2 := Lib.hid (show s.foundV q fl.f v ((placesV HL).take (i + 1)) = s.foundV q fl.f v ((placesV HL).take i) from by rw [FN.out, HNO.out]; simp)
          have R1 := Lib.hid (HSR.out.grow WN)
          have R2 := Lib.hid (HBR.out.trans (WN.mono HBR.out.size))
          have R3 := Lib.hid (RowC.on HPR.out WN)
          have R4 := Lib.hid ((Kept.of_below (F := []) WN (Nat.le_refl _)).blk HFR.out (by simp))
          clear HSR HBR HPR HFR HS3 CN Y3 HNY D3
          go_wp2_with (fail)
          go_roundw
          case rel => exact ⟨i + 1, F1, by go_num, by omega, by rw [FN2.out]; exact R1.out, R2.out, R3.out, R4.out, HAF.out⟩
          case measure => first | (simp [intOf]; done) | (simp [intOf]; omega)
        · have CD := Lib.hid (fun (W : World) (hb : Below w3.heap.size w3 W) => show Calls Tryz.prog 43 #[.int .u8 (MM : Int), .slice qa qn qc, .slice y.it.pv.1 y.it.pv.2.1 y.it.pv.2.2] W fun e w' => e = .returned (.tuple #[.int .i64 dd, .bool true]) ∧ Below W.heap.size W w' from by
            rw [← HMM.out]
            exact dist_some (s.g.m : Int) qa y.it.pv.1 qn y.it.pv.2.1 qc y.it.pv.2.2 q y.it.vec dd W (by omega) (by have := HM2.out; omega) (reads_on12 HQ.out (HBW3.out.trans (hb.mono HBW3.out.size))) (RV.out.below (Nat.le_refl _) hb) hdv)
          have HDV := Lib.hid hdv
          clear hdv
          obtain ⟨zs, hzs⟩ : ∃ zs, seenB y.frm y.til v = zs := ⟨_, rfl⟩
          have HZS := Lib.hid hzs
          clear hzs
          go_wp2_with (first | (rw [hw3]) | fail)
          try rw [hw3]
          clear hw3
          go_region_held3 (fun X => X.cell? ⟨x, 0, none⟩ = some (.int .u8 (MM : Int)) ∧ X.cell? ⟨w2.heap.size, 1, none⟩ = some (.slice y.it.pv.1 y.it.pv.2.1 y.it.pv.2.2))
            (first
              | with_reducible exact s3
              | with_reducible exact HS3.out _ (Below.refl _ _).drew
              | with_reducible exact HS3.out _ HB4.out
              | (go_keep; done))
            (first
              | (go_at_call 43
                 go_split_ands
                 refine (CD.out w3.drew (Below.refl _ _).drew).mono ?_
                 rintro e w4 ⟨rfl, hb4⟩
                 have HB4 := Lib.hid ((Below.refl w3.heap.size w3).drew.trans (hb4.mono (Nat.le_refl _)))
                 clear hb4))
          have D4 := Lib.hid ((Kept.of_below (F := []) HB4.out (Nat.le_refl _)).blk D3.out (by simp))
          have CH := hthere_any w4 y v zs HZS.out
          rw [HE.out] at CH
          have CTH := Lib.hid CH
          have d0 : w4.cell? ⟨w2.heap.size, 0, none⟩ = some (.int .u32 (y.it.id : Int)) := D4.out.cell 0
          have d1 : w4.cell? ⟨w2.heap.size, 1, none⟩ = some (.slice y.it.pv.1 y.it.pv.2.1 y.it.pv.2.2) := D4.out.cell 1
          have d2 : w4.cell? ⟨w2.heap.size, 2, none⟩ = some (.slice y.it.pt.1 y.it.pt.2.1 y.it.pt.2.2) := D4.out.cell 2
          have d3 : w4.cell? ⟨w2.heap.size, 3, none⟩ = some (.int .u64 (y.frm : Int)) := D4.out.cell 3
          have d4 : w4.cell? ⟨w2.heap.size, 4, none⟩ = some (.int .u64 (y.til : Int)) := D4.out.cell 4
          have d5 : w4.cell? ⟨w2.heap.size, 5, none⟩ = some (.slice la ln lc) := D4.out.cell 5
          clear CH CD
          cases zs with
          | false =>
            have HNO := Lib.hid (show hitOf s.g.m q fl.f v (s.g.nodeOr (j : Int)) = none from by
              rw [HNY.out]
              unfold hitOf
              rw [show y.toV.vec = y.it.vec from rfl, hq0, hvl, HDV.out]
              simp [show seenB y.toV.frm y.toV.til v = false from HZS.out])
            go_wp2_with (fail)
            refine CTH.out.mono ?_
            rintro e w5 ⟨rfl, hb5⟩
            have WN := (HW3.out.trans (HB4.out.mono HW3.out.size)).trans (hb5.mono (Nat.le_trans HW3.out.size HB4.out.size))
            clear hb5 d0 d1 d2 d3 d4 d5
            have FN2 := Lib.hid (show s.foundV q fl.f v ((placesV HL).take (i + 1)) = s.foundV q fl.f v ((placesV HL).take i) from by rw [FN.out, HNO.out]; simp)
            have R1 := Lib.hid (HSR.out.grow WN)
            have R2 := Lib.hid (HBR.out.trans (WN.mono HBR.out.size))
            have R3 := Lib.hid (RowC.on HPR.out WN)
            have R4 := Lib.hid ((Kept.of_below (F := []) WN (Nat.le_refl _)).blk HFR.out (by simp))
            clear HSR HBR HPR HFR HS3 CN Y3 HNY D3
            go_wp2_with (fail)
            go_roundw
            case rel => exact ⟨i + 1, F1, by go_num, by omega, by rw [FN2.out]; exact R1.out, R2.out, R3.out, R4.out, HAF.out⟩
            case measure => first | (simp [intOf]; done) | (simp [intOf]; omega)
          | true =>
            go_wp2_with (fail)
            refine CTH.out.mono ?_
            rintro e w5 ⟨rfl, hb5⟩
            have HB5 := Lib.hid (HB4.out.trans (hb5.mono HB4.out.size))
            have W5 := Lib.hid (HW3.out.trans (HB5.out.mono HW3.out.size))
            have F5 := (Kept.of_below (F := []) W5.out (Nat.le_refl _)).blk HFR.out (by simp)
            have D5 := Lib.hid ((Kept.of_below (F := []) HB5.out (Nat.le_refl _)).blk D3.out (by simp))
            have f0 : w5.cell? ⟨w.heap.size, 0, none⟩ = some (.slice fl.p0.1 fl.p0.2.1 fl.p0.2.2) := F5.cell 0
            have f1 : w5.cell? ⟨w.heap.size, 1, none⟩ = some (.slice fl.p1.1 fl.p1.2.1 fl.p1.2.2) := F5.cell 1
            have f2 : w5.cell? ⟨w.heap.size, 2, none⟩ = some (.slice fl.p2.1 fl.p2.2.1 fl.p2.2.2) := F5.cell 2
            have t0 : w5.cell? ⟨w2.heap.size, 0, none⟩ = some (.int .u32 (y.it.id : Int)) := D5.out.cell 0
            have t2 : w5.cell? ⟨w2.heap.size, 2, none⟩ = some (.slice y.it.pt.1 y.it.pt.2.1 y.it.pt.2.2) := D5.out.cell 2
            have FL5 := HFL.out.on (HBR.out.trans (W5.out.mono HBR.out.size))
            have RT := (Rd.strs (y.it.OwnI_in (Y3.out.on HB5.out).it).htags rfl).1
            have CM := match_reads fl.p0.1 fl.p1.1 fl.p2.1 y.it.pt.1 fl.p0.2.1 fl.p0.2.2 fl.p1.2.1 fl.p1.2.2 fl.p2.2.1 fl.p2.2.2 y.it.pt.2.1 y.it.pt.2.2 fl.f.all fl.f.any fl.f.none y.it.tags w5 FL5.all FL5.any FL5.none RT
            obtain ⟨zm, hzm⟩ : ∃ zm, matchB fl.f y.it.tags = zm := ⟨_, rfl⟩
            rw [show (⟨fl.f.all, fl.f.any, fl.f.none⟩ : Filt) = fl.f from rfl, hzm] at CM
            have HZM := Lib.hid hzm
            have CM2 := Lib.hid CM
            clear F5 FL5 RT CM hzm hb5 d0 d1 d2 d3 d4 d5 CTH
            cases zm with
            | false =>
              have HNO := Lib.hid (show hitOf s.g.m q fl.f v (s.g.nodeOr (j : Int)) = none from by
                rw [HNY.out]
                unfold hitOf
                rw [show y.toV.vec = y.it.vec from rfl, hq0, hvl, HDV.out]
                simp [show matchB fl.f y.toV.tags = false from HZM.out])
              go_wp2_with (fail)
              refine CM2.out.mono ?_
              rintro e w6 ⟨rfl, hb6⟩
              have WN := W5.out.trans (hb6.mono W5.out.size)
              clear hb6 f0 f1 f2 t0 t2
              have FN2 := Lib.hid (show s.foundV q fl.f v ((placesV HL).take (i + 1)) = s.foundV q fl.f v ((placesV HL).take i) from by rw [FN.out, HNO.out]; simp)
              have R1 := Lib.hid (HSR.out.grow WN)
              have R2 := Lib.hid (HBR.out.trans (WN.mono HBR.out.size))
              have R3 := Lib.hid (RowC.on HPR.out WN)
              have R4 := Lib.hid ((Kept.of_below (F := []) WN (Nat.le_refl _)).blk HFR.out (by simp))
              clear HSR HBR HPR HFR HS3 CN Y3 HNY D3
              go_wp2_with (fail)
              go_roundw
              case rel => exact ⟨i + 1, F1, by go_num, by omega, by rw [FN2.out]; exact R1.out, R2.out, R3.out, R4.out, HAF.out⟩
              case measure => first | (simp [intOf]; done) | (simp [intOf]; omega)
            | true =>
              have HNO := Lib.hid (show hitOf s.g.m q fl.f v (s.g.nodeOr (j : Int)) = some (dd, (y.it.id : Int)) from by
                rw [HNY.out]
                unfold hitOf
                rw [show y.toV.vec = y.it.vec from rfl, hq0, hvl, HDV.out]
                show (if seenB y.frm y.til v = true ∧ matchB fl.f y.it.tags = true then some (dd, (y.it.id : Int)) else none) = _
                rw [if_pos ⟨HZS.out, HZM.out⟩])
              go_wp2_with (fail)
              refine CM2.out.mono ?_
              rintro e w6 ⟨rfl, hb6⟩
              have W6 := Lib.hid (W5.out.trans (hb6.mono W5.out.size))
              have t0' : w6.cell? ⟨w2.heap.size, 0, none⟩ = some (.int .u32 (y.it.id : Int)) := ((Kept.of_below (F := []) hb6 (Nat.le_refl _)).blk D5.out (by simp)).cell 0
              have HSL := Lib.hid (HSR.out.grow W6.out)
              have CP := Lib.hid (sel_put F1 gb r _ (dd, (y.it.id : Int)) w6 HSL.out (by
                have h9 := putAll_len r [] (s.foundV q fl.f v ((placesV HL).take i))
                have h8 : (s.foundV q fl.f v ((placesV HL).take i)).length ≤ ((placesV HL).take i).length := List.length_filterMap_le _ _
                simp only [List.length_take, List.length_nil, HNH.out] at h9 h8
                omega))
              clear hb6 f0 f1 f2 t0 t2 CM2
              go_wp2_with (fail)
              refine CP.out.mono ?_
              rintro e w7 ⟨rfl, F2, hs7, hk7, hg7⟩
              have FN2 := Lib.hid (show putAll r [] (s.foundV q fl.f v ((placesV HL).take (i + 1))) = (ins (dd, (y.it.id : Int)) (putAll r [] (s.foundV q fl.f v ((placesV HL).take i)))).take r from by
                rw [FN.out, HNO.out, Option.toList_some, putAll_snoc])
              have hsz6 := (HBR.out.trans (W6.out.mono HBR.out.size)).size
              have R1 := Lib.hid hs7
              have R2 := Lib.hid ((HBR.out.trans (W6.out.mono HBR.out.size)).trans (hk7.below (fun b hb => Nat.le_of_lt (HAF.out b hb).1) hsz6))
              have R3 := Lib.hid (show IntsAt w.heap.size w7 (.slice (some ⟨gp, 0, none⟩) nh nh) (placesV HL) from IntsAt.mk (hk7.own (IntsAt.own (show IntsAt w.heap.size w6 (.slice (some ⟨gp, 0, none⟩) nh nh) (placesV HL) from RowC.on HPR.out W6.out)) (fun k e hk => by
                cases e
                exact (HAF.out _ hk).2 rfl)))
              have R4 := Lib.hid (hk7.blk ((Kept.of_below (F := []) W6.out (Nat.le_refl _)).blk HFR.out (by simp)) (fun hb => Nat.lt_irrefl _ (HAF.out _ hb).1))
              have HGW := Lib.hid (show gp < w6.heap.size from (World.ownsRow.lt (IntsAt.own (show IntsAt w.heap.size w6 (.slice (some ⟨gp, 0, none⟩) nh nh) (placesV HL) from RowC.on HPR.out W6.out)) gp rfl).2)
              have R5 := Lib.hid (show ∀ b ∈ F2, w.heap.size < b ∧ b ≠ gp from fun b hb => by
                rcases hg7 b hb with h | h
                · exact HAF.out b h
                · have := HGW.out
                  have h5 := HBR.out.size
                  have h6 := (RowC.on HPR.out W6.out)
                  have h7 := HGP.out
                  have h8 := HGB.out
                  omega)
              clear hs7 hk7 hg7 hsz6 HSL CP t0' HSR HBR HPR HFR HS3 CN Y3 HNY D3
              go_wp2_with (fail)
              go_roundw
              case rel => exact ⟨i + 1, F2, by go_num, by omega, by rw [FN2.out]; exact R1.out, R2.out, R3.out, R4.out, R5.out⟩
              case measure => first | (simp [intOf]; done) | (simp [intOf]; omega)
      · obtain rfl : i = nh := by omega
        obtain ⟨SL, hSL⟩ : ∃ SL, putAll r [] (s.foundV q fl.f v ((placesV HL).take i)) = SL := ⟨_, rfl⟩
        have HEQ := Lib.hid (show SL = s.searchV q fl.f r k width v from by
          rw [← hSL, List.take_of_length_le (by rw [HNH.out]; exact Nat.le_refl _), putAll_nil]
          unfold IdxV.searchV
          rw [HCV.out])
        have hSLn : SL.length ≤ 1000000 := by
          rw [← hSL]
          have h9 := putAll_len r [] (s.foundV q fl.f v ((placesV HL).take i))
          have h8 : (s.foundV q fl.f v ((placesV HL).take i)).length ≤ ((placesV HL).take i).length := List.length_filterMap_le _ _
          simp only [List.length_take, List.length_nil, HNH.out] at h9 h8
          omega
        rw [hSL] at HSR
        have CL := sel_list F1 gb r SL wr HSR.out hSLn
        obtain ⟨nl, hnl⟩ : ∃ nl, SL.length = nl := ⟨_, rfl⟩
        rw [hnl] at CL
        have CL2 := Lib.hid CL
        clear CL hnl hSLn hSL HSR HPR HFR HAF
        go_wp2_with (fail)
        refine CL2.out.mono ?_
        rintro e w9 ⟨g9, rfl, ho9, hb9, hg9⟩
        have E1 := Lib.hid ho9
        have E2 := Lib.hid (HBR.out.trans (hb9.mono HBR.out.size))
        have E3 := Lib.hid (Nat.le_trans HBR.out.size hg9)
        clear ho9 hb9 hg9 CL2
        go_wp2
        go_ret
        exact ⟨g9, nl, rfl, by rw [← HEQ.out]; exact E1.out, E2.out, E3.out⟩
end

section
open Go.RowKit Go.ChangeShapes Go.WideShapes Go.ChangeAt Go.Maps

/-- What an Id, its beginning and its end are, node for node. -/
def GraphV.ts (g : GraphV) : List (Nat × Nat × Nat) := g.L.map fun x => (x.id, x.frm, x.til)
theorem ts_len (g : GraphV) : g.ts.length = g.L.length := by simp [GraphV.ts]
theorem link_ts (g : GraphV) (a b level most : Int) : (g.link a b level most).ts = g.ts := by
  unfold GraphV.link
  split
  · unfold GraphV.ts GraphV.setLink
    refine List.ext_getElem? fun i => ?_
    simp only [List.getElem?_map, List.getElem?_modify]
    rcases g.L[i]? with _ | x
    · rfl
    · simp
      split <;> exact ⟨rfl, rfl, rfl⟩
  · rfl
/-- What links leave as it is. -/
def SameT (s t : IdxV) : Prop := s.g.ts = t.g.ts ∧ s.entry = t.entry ∧ s.g.m = t.g.m ∧ s.most = t.most ∧ s.width = t.width
theorem SameT.refl (s : IdxV) : SameT s s := ⟨rfl, rfl, rfl, rfl, rfl⟩
theorem SameT.trans {s t u : IdxV} (h : SameT s t) (k : SameT t u) : SameT s u := ⟨h.1.trans k.1, h.2.1.trans k.2.1, h.2.2.1.trans k.2.2.1, h.2.2.2.1.trans k.2.2.2.1, h.2.2.2.2.trans k.2.2.2.2⟩
theorem link_same (s : IdxV) (a b level : Int) : SameT (s.link a b level) s := ⟨link_ts _ _ _ _ _, rfl, (link_keys s.g a b level _).2, rfl, rfl⟩
theorem linkRow_same (n on : Nat) : ∀ (l : List Nat) (s : IdxV), SameT (s.linkRow n on l) s
  | [], s => SameT.refl s
  | j :: l, s => (linkRow_same n on l ((s.link (n : Int) (j : Int) (on : Int)).link (j : Int) (n : Int) (on : Int))).trans ((link_same _ _ _ _).trans (link_same _ _ _ _))
theorem linkD_same (s : IdxV) (n K : Nat) (ch : Nat → List Nat) : ∀ d, SameT (s.linkD n K ch d) s
  | 0 => SameT.refl s
  | d + 1 => (linkRow_same n _ _ _).trans (linkD_same s n K ch d)
theorem linkAll_same (mv : List Int) (i level : Nat) : ∀ (l : List Nat) (s : IdxV), SameT (s.linkAll mv i level l) s
  | [], s => SameT.refl s
  | j :: l, s => (linkAll_same mv i level l (s.link (mvAt mv i) (mvAt mv j) (level : Int))).trans (link_same _ _ _ _)
theorem pastAll_same (G : GraphV) (mv : List Int) (i level : Nat) : ∀ (l : List Nat) (s : IdxV), SameT (s.pastAll G mv i level l) s
  | [], s => SameT.refl s
  | j :: l, s => by
    refine (pastAll_same G mv i level l (if mvAt mv j = -1 then s.linkAll mv i level (G.links j level) else s)).trans ?_
    split
    · exact linkAll_same mv i level _ s
    · exact SameT.refl s
theorem relink_same (G : GraphV) (mv : List Int) (s : IdxV) (i : Nat) : SameT (s.relink G mv i) s := by
  have key : ∀ (l : List Nat) (s : IdxV), SameT (l.foldl (IdxV.relinkL G mv i) s) s := by
    intro l
    induction l with
    | nil => exact SameT.refl
    | cons k l ih => exact fun s => (ih (IdxV.relinkL G mv i s k)).trans ((pastAll_same G mv i k _ _).trans (linkAll_same mv i k _ s))
  exact key _ s
theorem relinks_same (G : GraphV) (mv : List Int) : ∀ (l : List Nat) (s : IdxV), SameT (l.foldl (IdxV.relink G mv) s) s
  | [], s => SameT.refl s
  | i :: l, s => (relinks_same G mv l (s.relink G mv i)).trans (relink_same G mv s i)
theorem SameT.len {s t : IdxV} (h : SameT s t) : s.g.L.length = t.g.L.length := by rw [← ts_len, h.1, ts_len]
theorem SameT.ok {s t : IdxV} (h : SameT s t) (ht : t.EntryOk) : s.EntryOk := by
  unfold IdxV.EntryOk at ht ⊢
  rw [h.2.1, h.len]
  exact ht
theorem add_ok {s : IdxV} (h : s.EntryOk) (x : NodeV) : (s.add x).EntryOk ∧ (s.add x).g.L.length = s.g.L.length + 1 := by
  have hl : (s.add x).g.L.length = s.g.L.length + 1 := by simp [IdxV.add, GraphV.add]
  refine ⟨?_, hl⟩
  unfold IdxV.EntryOk
  rw [hl]
  by_cases hc : s.topI < (x.links.length : Int) - 1
  · right
    rw [show (s.add x).entry = (s.g.L.length : Int) from by unfold IdxV.add; exact if_pos hc]
    omega
  · rw [show (s.add x).entry = s.entry from by unfold IdxV.add; exact if_neg hc]
    rcases h with h | h
    · exact .inl h
    · exact .inr (by omega)
theorem putV_same (s : IdxV) (y : ItL) (level v : Nat) : SameT (s.putV y level v) ((s.cutV y.id v).add (nodeN y level v 0)) := linkD_same _ _ _ _ _
theorem putV_ok {s : IdxV} (h : s.EntryOk) (y : ItL) (level v : Nat) : (s.putV y level v).EntryOk ∧ (s.putV y level v).g.L.length = s.g.L.length + 1 := by
  have h1 := add_ok (cutV_ok h y.id v) (nodeN y level v 0)
  have h2 := putV_same s y level v
  exact ⟨h2.ok h1.1, by rw [h2.len, h1.2, cutV_len]⟩
theorem putV_ts (s : IdxV) (y : ItL) (level v : Nat) : (s.putV y level v).g.ts = (s.cutV y.id v).g.ts ++ [(y.id, v, 0)] := by
  rw [(putV_same s y level v).1]
  unfold IdxV.add GraphV.add GraphV.ts
  simp [nodeN]
theorem putV_flat (s : IdxV) (y : ItL) (level v : Nat) : s.putV y level v = s.putV ⟨y.id, (none, 0, 0), (none, 0, 0), y.vec, y.tags⟩ level v := rfl
theorem moves_entry (keep : List Nat) (s0 : IdxV) (h0 : s0.EntryOk) : ∀ k, ∀ l : List NodeV, l.length = k → (movesF keep s0 l).2.EntryOk := by
  intro k
  induction k with
  | zero =>
    intro l hl
    obtain rfl := List.eq_nil_of_length_eq_zero hl
    exact h0
  | succ k ih =>
    intro l hl
    obtain ⟨l', n, rfl⟩ : ∃ l' n, l = l' ++ [n] := ⟨l.dropLast, l.getLast (by intro e; subst e; simp at hl), (List.dropLast_concat_getLast _).symm⟩
    rw [movesF_snoc]
    unfold moveS
    split
    · exact (add_ok (ih l' (by simpa using hl)) _).1
    · exact ih l' (by simpa using hl)
theorem sweepV_ok {s : IdxV} (h : s.EntryOk) (keep : List Nat) : (s.sweepV keep).EntryOk ∧ (s.sweepV keep).g.L.length ≤ s.g.L.length := by
  unfold IdxV.sweepV
  split
  · exact ⟨h, Nat.le_refl _⟩
  · refine ⟨(relinks_same _ _ _ _).ok (moves_entry keep _ (.inl rfl) _ _ rfl), ?_⟩
    rw [(relinks_same _ _ _ _).len]
    exact (moves_ok keep (newV s.g.m s.most s.width) rfl s.g.L).few
/-- A law's index. -/
structure IAt (w0 : World) (x : Nat) (s : IdxV) (w : World) : Prop where
  idx : ∃ F, IdxIs w w0.heap.size x F s
  below : Below w0.heap.size w0 w
  ok : s.EntryOk
section
variable {w0 w w' wp : World} {x : Nat} {s s' : IdxV}
theorem IAt.on (h : IAt w0 x s w) (hb : Below w.heap.size w w') : IAt w0 x s w' := by
  obtain ⟨F, hi⟩ := h.idx
  exact ⟨⟨F, hi.on hb⟩, h.below.trans (hb.mono h.below.size), h.ok⟩
theorem IAt.post {F : List Nat} (hi : IdxIs w w0.heap.size x F s) (hb : Below w0.heap.size w0 w) (hp : HPost w0.heap.size x F s' w w') (ho : s'.EntryOk) : IAt w0 x s' w' := by
  obtain ⟨F', h1, h2, -⟩ := hp
  exact ⟨⟨F', h1⟩, hb.trans (h2.below (fun b hb => (hi.lt b hb).1) hb.size), ho⟩
theorem i_new (hb : Below w0.heap.size w0 w) (m : Nat) (hm : m < 256) (most width : Int) :
    Calls Tryz.prog 27 #[.int .u8 (m : Int), .int .i64 most, .int .i64 width] w fun e w' => ∃ x, e = .returned (.pointer (some ⟨x, 0, none⟩)) ∧ IAt w0 x (newV m (mostN most) (widthN width)) w' := by
  refine (hnew_any w m hm most width).mono ?_
  rintro e w' ⟨x, F, rfl, hi, hb'⟩
  exact ⟨x, rfl, ⟨F, hi.low hb.size⟩, hb.trans (hb'.mono hb.size), .inl rfl⟩
theorem i_put (h : IAt w0 x s wp) (hb : Below wp.heap.size wp w) (hf : s.g.L.length < 100000) (y : ItL) (hy : y.In (fun b => b < w0.heap.size ∨ wp.heap.size ≤ b) w) (level : Int) (v : Nat) (hv : v ≠ 0) (hv64 : v < 18446744073709551616) :
    Calls Tryz.prog 28 #[.pointer (some ⟨x, 0, none⟩), .agg y.cells.toArray, .int .i64 level, .int .u64 (v : Int)] w fun e w' => e = .returned (.tuple #[]) ∧ IAt w0 x (s.putV y (levN level) v) w' := by
  obtain ⟨F, hi⟩ := h.idx
  have hy2 : y.In (· ∉ F) w := by
    have hn : ∀ b, (b < w0.heap.size ∨ wp.heap.size ≤ b) → b ∉ F := fun b hb hF => by
      have := hi.lt b hF
      omega
    exact ⟨hy.hid, hy.hvec.mono fun b hb _ => hn b hb, hy.htags.mono fun b hb _ => hn b hb⟩
  have h2 := h.on hb
  refine (callsIn_wide.1 (hput_in w w0.heap.size x F s (hi.on hb) h2.below.size h.ok hf y hy2 level v hv hv64)).mono ?_
  rintro e w' ⟨rfl, hp⟩
  exact ⟨rfl, IAt.post (hi.on hb) h2.below hp (putV_ok h.ok y _ v).1⟩
theorem i_cut (h : IAt w0 x s w) (id v : Nat) (hid : id < 4294967296) (hv : v ≠ 0) (hv64 : v < 18446744073709551616) :
    Calls Tryz.prog 25 #[.pointer (some ⟨x, 0, none⟩), .int .u32 (id : Int), .int .u64 (v : Int)] w fun e w' => e = .returned (.bool (s.g.cutB id)) ∧ IAt w0 x (s.cutV id v) w' := by
  obtain ⟨F, hi⟩ := h.idx
  refine (hcut_any w w0.heap.size x F s hi id v hid hv hv64).mono ?_
  rintro e w' ⟨rfl, hp⟩
  exact ⟨rfl, IAt.post hi h.below hp (cutV_ok h.ok id v)⟩
theorem i_len (h : IAt w0 x s w) : Calls Tryz.prog 29 #[.pointer (some ⟨x, 0, none⟩)] w fun e w' => e = .returned (.int .i64 (s.g.L.length : Int)) ∧ w = w' := by
  obtain ⟨F, hi⟩ := h.idx
  exact hlen_any w _ x F s hi
theorem i_search (h : IAt w0 x s w) (hf : s.g.L.length ≤ 100000) (qa : Option Addr) (qn qc : Nat) (q : List Int) (hq : Reads .i32 w qa qn q) (fl : FltL) (hfl : fl.In w) (k width : Int) (r : Nat) (hr : Hid ((r : Int) = min (max k 0) 256)) (v : Nat) :
    Calls Tryz.prog 17 #[.pointer (some ⟨x, 0, none⟩), .slice qa qn qc, .agg fl.cells.toArray, .int .i64 k, .int .i64 width, .int .u64 (v : Int)] w (HitsPost (s.searchV q fl.f r k width v) w) := by
  obtain ⟨F, hi⟩ := h.idx
  exact hsearch_any w _ x F s hi h.ok hf qa qn qc q hq fl hfl k width r hr v
theorem i_sweep (h : IAt w0 x s w) (hf : s.g.L.length ≤ 100000) (ka : Option Addr) (kn kc : Nat) (keep : List Nat) (hk : Reads .u64 w ka kn (natI keep)) :
    Calls Tryz.prog 22 #[.pointer (some ⟨x, 0, none⟩), .slice ka kn kc] w fun e w' => e = .returned (.int .i64 (s.sweepW keep : Int)) ∧ IAt w0 x (s.sweepV keep) w' := by
  obtain ⟨F, hi⟩ := h.idx
  refine (hsweep_any w _ x F s hi h.below.size hf ka kn kc keep hk).mono ?_
  rintro e w' ⟨rfl, hp⟩
  exact ⟨rfl, IAt.post hi h.below hp (sweepV_ok h.ok keep).1⟩
theorem i_nodes (h : IAt w0 x s w) (hf : s.g.L.length ≤ 100000) :
    Calls Tryz.prog 16 #[.pointer (some ⟨x, 0, none⟩)] w fun e w' => ∃ gn ys, e = .returned (.slice (some ⟨gn, 0, none⟩) s.g.L.length s.g.L.length) ∧ NodesAt w.heap.size w' (.slice (some ⟨gn, 0, none⟩) s.g.L.length s.g.L.length) ys ∧ ys.map NodeL.toV = s.g.L ∧ Below w.heap.size w w' := by
  obtain ⟨F, hi⟩ := h.idx
  exact hnodes_any w _ x F s hi hf
theorem IAt.one (h : IAt w0 x s w) : OneStill s.g.L ∧ s.g.Right := by
  obtain ⟨F, hi⟩ := h.idx
  exact ⟨hi.oneStill, hi.right⟩
end
theorem HReads.built12 (w : World) (xs : List Hit) (h1 : xs.length ≤ 1000000) : HReads (w.alloc (.cells (flat xs).toArray 51)) (some ⟨w.heap.size, 0, none⟩) xs.length xs := by
  have hb := Blk.new w 51 (flat xs).toArray
  refine ⟨rfl, by omega, .inr ⟨_, _, rfl, by simp, fun i hi => ?_⟩⟩
  have hf := flat_len xs
  rw [Nat.zero_add, hb.cell, hb.cell]
  exact ⟨by simpa using flat_fst xs i hi, by simpa using flat_snd xs i hi⟩
theorem vec_one12 (w : World) (id : Nat) (hid : id < 4294967296) (a : Int) (ha : (Lit.int .i32 a).wf = true) (ok : Nat → Prop) (hok : ok w.heap.size) : (⟨id, (some ⟨w.heap.size, 0, none⟩, 1, 1), (none, 0, 0), [a], []⟩ : ItL).In ok (w.alloc (.cells #[.int .i32 a] 21)) := by
  have hb := Blk.new w 21 #[.int .i32 a]
  refine ItL.OwnI.inn (lo := 0) (ok := ok) ⟨hid, ⟨by simp, .inr ⟨w.heap.size, 1, #[.int .i32 a], rfl, Nat.zero_le _, hb, Nat.le_refl _, by decide, rfl, rfl⟩⟩, ⟨by simp, .inl ⟨rfl, rfl⟩⟩, ?_, by simp, by simp, by simp⟩ fun g hg => ?_
  · intro b hb
    rw [List.mem_singleton.1 hb]
    exact ha
  · have : g = w.heap.size := by simpa [ItL.bs, ownB, Value.ownBlock] using hg
    rw [this]
    exact hok
theorem reads_one32 (w : World) (a : Int) (ha : (Lit.int .i32 a).wf = true) : Reads .i32 (w.alloc (.cells #[.int .i32 a] 21)) (some ⟨w.heap.size, 0, none⟩) 1 [a] :=
  reads_lit (k := .i32) (t := 21) w [a] 1 rfl (by decide) (by decide) (by intro z hz; rw [List.mem_singleton.1 hz]; exact ha)
end

section
open Go.RowKit Go.ChangeShapes Go.WideShapes Go.ChangeAt Go.Maps

def fl0 : FltL := ⟨(none, 0, 0), (none, 0, 0), (none, 0, 0), ⟨[], [], []⟩⟩
theorem sreads_nil (w : World) : SReads w none 0 0 [] := by
  constructor
  all_goals first | rfl | decide | exact .inl rfl | (intro x hx; cases hx) | simp
theorem fl0_in (w : World) : fl0.In w := ⟨sreads_nil w, sreads_nil w, sreads_nil w⟩
def itE (id : Nat) (a : Int) : ItL := ⟨id, (none, 0, 0), (none, 0, 0), [a], []⟩
def exS0 : IdxV := newV 0 (mostN 2) (widthN 4)
def exS1 : IdxV := exS0.putV (itE 1 0) (levN 0) 1
def exS2 : IdxV := exS1.putV (itE 2 5) (levN 0) 2
def exS3 : IdxV := exS2.putV (itE 3 9) (levN 0) 3
def exS4 : IdxV := exS3.cutV 2 4
theorem ex12_l0 : exS0.g.L.length = 0 := by decide +kernel
theorem ex12_l1 : exS1.g.L.length = 1 := by decide +kernel
theorem ex12_l2 : exS2.g.L.length = 2 := by decide +kernel
theorem ex12_l3 : exS3.g.L.length = 3 := by decide +kernel
theorem ex12_l4 : exS4.g.L.length = 3 := by decide +kernel
theorem ex12_c : exS3.g.cutB 2 = true := by decide +kernel
theorem ex12_a : exS4.searchV [4] ⟨[], [], []⟩ 2 2 9 4 = [(16, 1), (25, 3)] := by decide +kernel
theorem ex12_b : exS4.searchV [4] ⟨[], [], []⟩ 2 2 9 3 = [(1, 2), (16, 1)] := by decide +kernel
theorem ex12_w : exS4.sweepW [] = 1 := by decide +kernel
theorem reads_nil64 (w : World) : Reads .u64 w none 0 (natI []) := ⟨rfl, by decide, by decide, (fun x hx => by cases hx), .inl rfl⟩
set_option maxRecDepth 100000 in
set_option maxHeartbeats 12800000 in
theorem alive12 (w : World) : Calls Tryz.prog 10 #[] w fun e w' => e = .returned (.bool true) ∧ Below w.heap.size w w' := by
  go_enter Tryz.func10, Tryz.ntmps10
  go_wp2_with (fail)
  refine (i_new (w0 := w) (Below.refl _ w) 0 (by decide) 2 4).mono ?_
  rintro e w1 ⟨x, rfl, h0⟩
  have H0 := Lib.hid (show IAt w x exS0 w1 from h0)
  clear h0
  obtain ⟨wa1, hwa1⟩ : ∃ a, w1.alloc (.cells #[.int .i32 0] 21) = a := ⟨_, rfl⟩
  have b1 : Below w1.heap.size w1 wa1 := by rw [← hwa1]; exact (Below.refl _ _).alloc (Nat.le_refl _) _
  have C1 := i_put H0.out b1 (by rw [ex12_l0]; decide) ⟨1, (some ⟨w1.heap.size, 0, none⟩, 1, 1), (none, 0, 0), [0], []⟩ (by rw [← hwa1]; exact vec_one12 w1 1 (by decide) 0 (by decide) _ (.inr (Nat.le_refl _))) 0 1 (by decide) (by decide)
  rw [putV_flat] at C1
  have CC1 := Lib.hid C1
  clear b1 C1
  go_wp2_with (first | (rw [hwa1]) | fail)
  try rw [hwa1]
  clear hwa1
  try go_wp2_with (fail)
  refine CC1.out.mono ?_
  rintro e w2 ⟨rfl, h1⟩
  have H1 := Lib.hid (show IAt w x exS1 w2 from h1)
  clear h1 CC1 H0
  obtain ⟨wa2, hwa2⟩ : ∃ a, w2.alloc (.cells #[.int .i32 5] 21) = a := ⟨_, rfl⟩
  have b2 : Below w2.heap.size w2 wa2 := by rw [← hwa2]; exact (Below.refl _ _).alloc (Nat.le_refl _) _
  have C2 := i_put H1.out b2 (by rw [ex12_l1]; decide) ⟨2, (some ⟨w2.heap.size, 0, none⟩, 1, 1), (none, 0, 0), [5], []⟩ (by rw [← hwa2]; exact vec_one12 w2 2 (by decide) 5 (by decide) _ (.inr (Nat.le_refl _))) 0 2 (by decide) (by decide)
  rw [putV_flat] at C2
  have CC2 := Lib.hid C2
  clear b2 C2
  go_wp2_with (first | (rw [hwa2]) | fail)
  try rw [hwa2]
  clear hwa2
  try go_wp2_with (fail)
  refine CC2.out.mono ?_
  rintro e w3 ⟨rfl, h2⟩
  have H2 := Lib.hid (show IAt w x exS2 w3 from h2)
  clear h2 CC2 H1
  obtain ⟨wa3, hwa3⟩ : ∃ a, w3.alloc (.cells #[.int .i32 9] 21) = a := ⟨_, rfl⟩
  have b3 : Below w3.heap.size w3 wa3 := by rw [← hwa3]; exact (Below.refl _ _).alloc (Nat.le_refl _) _
  have C3 := i_put H2.out b3 (by rw [ex12_l2]; decide) ⟨3, (some ⟨w3.heap.size, 0, none⟩, 1, 1), (none, 0, 0), [9], []⟩ (by rw [← hwa3]; exact vec_one12 w3 3 (by decide) 9 (by decide) _ (.inr (Nat.le_refl _))) 0 3 (by decide) (by decide)
  rw [putV_flat] at C3
  have CC3 := Lib.hid C3
  clear b3 C3
  go_wp2_with (first | (rw [hwa3]) | fail)
  try rw [hwa3]
  clear hwa3
  try go_wp2_with (fail)
  refine CC3.out.mono ?_
  rintro e w4 ⟨rfl, h3⟩
  have H3 := Lib.hid (show IAt w x exS3 w4 from h3)
  clear h3 CC3 H2
  have CCU := Lib.hid (i_cut H3.out 2 4 (by decide) (by decide) (by decide))
  rw [ex12_c] at CCU
  go_wp2_with (fail)
  refine CCU.out.mono ?_
  rintro e w5 ⟨rfl, h4⟩
  have H4 := Lib.hid (show IAt w x exS4 w5 from h4)
  have HBa := Lib.hid (Below.refl w5.heap.size w5)
  clear h4 CCU H3
  obtain ⟨wsa, hwsa⟩ : ∃ a, w5.alloc (.cells #[.int .i32 4] 21) = a := ⟨_, rfl⟩
  have ba : Below w5.heap.size w5 wsa := by rw [← hwsa]; exact (Below.refl _ _).alloc (Nat.le_refl _) _
  have Ca := i_search (H4.out.on (HBa.out.trans (ba.mono HBa.out.size))) (by rw [ex12_l4]; decide) (some ⟨w5.heap.size, 0, none⟩) 1 1 [4] (by rw [← hwsa]; exact reads_one32 w5 4 (by decide)) fl0 (fl0_in _) 2 9 2 (Lib.hid (by decide)) 4
  rw [show fl0.f = ⟨[], [], []⟩ from rfl, ex12_a] at Ca
  have CCa := Lib.hid Ca
  have BBa := Lib.hid ba
  clear ba Ca
  go_wp2_with (first | (rw [hwsa]) | fail)
  try rw [hwsa]
  clear hwsa
  try go_wp2_with (fail)
  refine CCa.out.mono ?_
  rintro e w6 ⟨ga, na, rfl, hoa, hba, -⟩
  obtain ⟨_, hna, _⟩ := hoa.blk
  have HNa := Lib.hid (show na = 2 from hna)
  have HRa := Lib.hid (HReads.of_own hoa (by decide))
  have HBb := Lib.hid (HBa.out.trans ((BBa.out.trans (hba.mono BBa.out.size)).mono HBa.out.size))
  have HKa := Lib.hid (BBa.out.trans (hba.mono BBa.out.size))
  clear hoa hba CCa BBa hna
  obtain ⟨wsb, hwsb⟩ : ∃ a, w6.alloc (.cells #[.int .i32 4] 21) = a := ⟨_, rfl⟩
  have bb : Below w6.heap.size w6 wsb := by rw [← hwsb]; exact (Below.refl _ _).alloc (Nat.le_refl _) _
  have Cb := i_search (H4.out.on (HBb.out.trans (bb.mono HBb.out.size))) (by rw [ex12_l4]; decide) (some ⟨w6.heap.size, 0, none⟩) 1 1 [4] (by rw [← hwsb]; exact reads_one32 w6 4 (by decide)) fl0 (fl0_in _) 2 9 2 (Lib.hid (by decide)) 3
  rw [show fl0.f = ⟨[], [], []⟩ from rfl, ex12_b] at Cb
  have CCb := Lib.hid Cb
  have BBb := Lib.hid bb
  clear bb Cb
  go_wp2_with (first | (rw [hwsb]) | fail)
  try rw [hwsb]
  clear hwsb
  try go_wp2_with (fail)
  refine CCb.out.mono ?_
  rintro e w7 ⟨gb, nb, rfl, hob, hbb, -⟩
  obtain ⟨_, hnb, _⟩ := hob.blk
  have HNb := Lib.hid (show nb = 2 from hnb)
  have HRb := Lib.hid (HReads.of_own hob (by decide))
  have HBc := Lib.hid (HBb.out.trans ((BBb.out.trans (hbb.mono BBb.out.size)).mono HBb.out.size))
  have HKb := Lib.hid (BBb.out.trans (hbb.mono BBb.out.size))
  clear hob hbb CCb BBb hnb
  obtain rfl := HNa.out
  obtain rfl := HNb.out
  have CL := Lib.hid (i_len (H4.out.on HBc.out))
  rw [ex12_l4] at CL
  go_wp2_with (fail)
  refine CL.out.mono ?_
  rintro e w8 ⟨rfl, hw8⟩
  subst hw8
  clear CL
  go_wp2_with (fail)
  have k1 := (Below.refl w7.heap.size w7).alloc (Nat.le_refl _) (.cells #[.int .i64 16, .int .u32 1, .int .i64 25, .int .u32 3] 51)
  refine (same_any _ _ 2 2 2 2 [(16, 1), (25, 3)] [(16, 1), (25, 3)] _ ((HRa.out.below (Nat.le_refl _) HKb.out).below (Nat.le_refl _) k1) (HReads.built12 w7 [(16, 1), (25, 3)] (by decide))).mono ?_
  rintro e w9 ⟨rfl, k2⟩
  have HBd := Lib.hid (k1.trans (k2.mono k1.size))
  clear k1 k2
  rw [decide_eq_true rfl]
  go_wp2_with (fail)
  have k3 := (Below.refl w9.heap.size w9).alloc (Nat.le_refl _) (.cells #[.int .i64 1, .int .u32 2, .int .i64 16, .int .u32 1] 51)
  refine (same_any _ _ 2 2 2 2 [(1, 2), (16, 1)] [(1, 2), (16, 1)] _ ((HRb.out.below (Nat.le_refl _) HBd.out).below (Nat.le_refl _) k3) (HReads.built12 w9 [(1, 2), (16, 1)] (by decide))).mono ?_
  rintro e w10 ⟨rfl, k4⟩
  have HBe := Lib.hid (HBd.out.trans ((k3.trans (k4.mono k3.size)).mono HBd.out.size))
  clear k3 k4
  rw [decide_eq_true rfl]
  have H10 := Lib.hid (H4.out.on (HBc.out.trans (HBe.out.mono HBc.out.size)))
  have CS := Lib.hid (i_sweep H10.out (by rw [ex12_l4]; decide) none 0 0 [] (reads_nil64 _))
  rw [ex12_w] at CS
  go_wp2_with (fail)
  refine CS.out.mono ?_
  rintro e w11 ⟨rfl, h11⟩
  have BF := Lib.hid h11.below
  clear h11 CS
  go_wp2
  go_ret
  exact ⟨rfl, BF.out⟩
end

section
open Go.RowKit Go.ChangeShapes Go.WideShapes Go.ChangeAt Go.Maps

def FewG (n : Nat) (w : World) (e : Ending) (w' : World) : Prop := ∃ g, e = .returned (.bool g) ∧ (g = false → n ≤ 300) ∧ Below w.heap.size w w'
/-- A filter's rows as shapes. -/
structure FltL.Rds (ok : Nat → Prop) (w : World) (x : FltL) : Prop where
  all : Rd ok w shTags [.slice x.p0.1 x.p0.2.1 x.p0.2.2] x.f.all
  any : Rd ok w shTags [.slice x.p1.1 x.p1.2.1 x.p1.2.2] x.f.any
  none : Rd ok w shTags [.slice x.p2.1 x.p2.2.1 x.p2.2.2] x.f.none
theorem FltL.Rds.on {ok : Nat → Prop} {w w' : World} {x : FltL} (h : x.Rds ok w) (hb : Below w.heap.size w w') : x.Rds ok w' := ⟨h.all.on hb, h.any.on hb, h.none.on hb⟩
theorem FltL.Rds.inn {ok : Nat → Prop} {w : World} {x : FltL} (h : x.Rds ok w) : x.In w := ⟨(Rd.strs h.all rfl).1, (Rd.strs h.any rfl).1, (Rd.strs h.none rfl).1⟩
theorem rd_item_in12 {ok : Nat → Prop} {w : World} {a : Option Addr} {n c : Nat} {xs : List shItem.T} (h : Rd ok w (.slice shItem 1) [.slice a n c] xs) (i : Nat) (hi : i < n) :
    ∃ (b off : Nat) (x : shItem.T) (c0 c1 c2 : Value), a = some ⟨b, off, none⟩ ∧ b < w.heap.size ∧ xs[i]? = some x ∧ Hid (Rd ok w shItem [c0, c1, c2] x) ∧ w.cell? ⟨b, off + i * 3, none⟩ = some c0 ∧ w.cell? ⟨b, off + i * 3 + 1, none⟩ = some c1 ∧ w.cell? ⟨b, off + i * 3 + 2, none⟩ = some c2 := by
  obtain ⟨b, off, x, vs, ha, _, hlt, hx, hl, hc, hr⟩ := Rd.elem (e := shItem) h i hi
  obtain ⟨_, _, _, _, _, _, _, _, _, _, hcs, _⟩ := rd_item hr
  subst hcs
  exact ⟨b, off, x, _, _, _, ha, hlt, hx, hr, hc 0 (by decide), hc 1 (by decide), hc 2 (by decide)⟩
set_option maxRecDepth 100000 in
set_option maxHeartbeats 6400000 in
theorem rgreat12 (w : World) (ok : Nat → Prop) (a : Option Addr) (n c : Nat) (xs : List shItem.T) (fl : FltL) (h : Rd ok w (.slice shItem 1) [.slice a n c] xs) (hf : fl.Rds ok w) :
    Calls Tryz.prog 32 #[.slice a n c, .agg #[.slice fl.p0.1 fl.p0.2.1 fl.p0.2.2, .slice fl.p1.1 fl.p1.2.1 fl.p1.2.2, .slice fl.p2.1 fl.p2.2.1 fl.p2.2.2]] w (FewG n w) := by
  obtain ⟨_, _, _, hcs, HN, hn0, _⟩ := Rd.slice_is (e := shItem) h
  simp only [List.cons.injEq, Value.slice.injEq, and_true] at hcs
  obtain ⟨rfl, rfl, rfl⟩ := hcs
  obtain ⟨w1, hw1⟩ : ∃ w1, w.alloc (.cells #[.slice fl.p0.1 fl.p0.2.1 fl.p0.2.2, .slice fl.p1.1 fl.p1.2.1 fl.p1.2.2, .slice fl.p2.1 fl.p2.2.1 fl.p2.2.2] 33) = w1 := ⟨_, rfl⟩
  have hb1 : Below w.heap.size w w1 := by rw [← hw1]; exact (Below.refl _ w).alloc (Nat.le_refl _) _
  have bf : Blk w1 w.heap.size 33 [.slice fl.p0.1 fl.p0.2.1 fl.p0.2.2, .slice fl.p1.1 fl.p1.2.1 fl.p1.2.2, .slice fl.p2.1 fl.p2.2.1 fl.p2.2.2] := by rw [← hw1]; exact Blk.new _ _ _
  have f0 : w1.cell? ⟨w.heap.size, 0, none⟩ = some (.slice fl.p0.1 fl.p0.2.1 fl.p0.2.2) := bf.cell 0
  have f1 : w1.cell? ⟨w.heap.size, 1, none⟩ = some (.slice fl.p1.1 fl.p1.2.1 fl.p1.2.2) := bf.cell 1
  have f2 : w1.cell? ⟨w.heap.size, 2, none⟩ = some (.slice fl.p2.1 fl.p2.2.1 fl.p2.2.2) := bf.cell 2
  have HH := Lib.hid (h.on hb1)
  have HF := Lib.hid (hf.on hb1)
  have HB := Lib.hid hb1
  clear h hf hb1 bf
  go_enter Tryz.func32, Tryz.ntmps32
  go_wp2_with (first | (rw [hw1]) | fail)
  try rw [hw1]
  clear hw1
  go_loop [5, 6] (fun s5 s6 => ∃ (i : Nat) (m : Int), s5 = .int .i64 m ∧ s6 = .int .i64 (i : Int) ∧ i ≤ n ∧ 0 ≤ m ∧ m ≤ 60000) (fun _ s6 => n - (intOf s6).toNat)
  case atStart => exact ⟨0, 0, rfl, rfl, Nat.zero_le _, by omega, by omega⟩
  case round =>
    obtain ⟨i, m, rfl, rfl, hi, h0, h1⟩ := hrel
    by_cases hc : i < n ∧ m < 20000
    · obtain ⟨hc, hm⟩ := hc
      obtain ⟨b, off, x, c0, c1, c2, rfl, hblt, hx, hrd, k0, k1, k2⟩ := rd_item_in12 HH.out i hc
      obtain ⟨id, vec, tags, ia, iN, ic, ta, tn, tc, rfl, hcs, hid, rv, rt, hvl, htl, hvn, htn⟩ := rd_item hrd.out
      simp only [List.cons.injEq, and_true] at hcs
      obtain ⟨rfl, rfl, rfl⟩ := hcs
      have RT := Lib.hid rt
      clear hx hrd rv rt
      go_wp2_with (fail)
      all_goals
        refine (great03 ta tn tc tags w1 RT.out).mono ?_
        rintro e w' ⟨⟨g, rfl⟩, rfl⟩
        cases g
        · go_wp2
          go_round
          case rel => exact ⟨i + 1, _, by go_num, by go_num, by omega, by go_num, by go_num⟩
          case measure => simp [intOf]; omega
        · go_wp2
          go_ret
          exact ⟨true, rfl, by simp, HB.out⟩
    · by_cases hm : m < 20000
      · have hni : ¬ i < n := fun hh => hc ⟨hh, hm⟩
        have hmb : decide (m < 20000) = true := decide_eq_true hm
        have hmc : decide ((20000 : Int) ≤ m) = false := decide_eq_false (by omega)
        by_cases hn3 : 300 < n
        · have hnb : decide ((300 : Int) < (n : Int)) = true := decide_eq_true (by omega)
          go_wp2
          all_goals
            go_ret
            exact ⟨true, rfl, by simp, HB.out⟩
        · have HN3 : n ≤ 300 := by omega
          have hnb : decide ((300 : Int) < (n : Int)) = false := decide_eq_false (by omega)
          go_wp2_with (fail)
          refine (great03 _ _ _ _ _ HF.out.all).mono ?_
          rintro e w' ⟨⟨g, rfl⟩, rfl⟩
          cases g
          · go_wp2_with (fail)
            refine (great03 _ _ _ _ _ HF.out.any).mono ?_
            rintro e w' ⟨⟨g, rfl⟩, rfl⟩
            cases g
            · go_wp2_with (fail)
              refine (great03 _ _ _ _ _ HF.out.none).mono ?_
              rintro e w' ⟨⟨g, rfl⟩, rfl⟩
              cases g
              all_goals
                go_wp2
                go_ret
                exact ⟨_, rfl, fun _ => HN3, HB.out⟩
            · go_wp2
              go_ret
              exact ⟨_, rfl, fun _ => HN3, HB.out⟩
          · go_wp2
            go_ret
            exact ⟨_, rfl, fun _ => HN3, HB.out⟩
      · have hmb : decide (m < 20000) = false := decide_eq_false hm
        have hmc : decide ((20000 : Int) ≤ m) = true := decide_eq_true (by omega)
        go_wp2
        all_goals
          go_ret
          exact ⟨true, rfl, by simp, HB.out⟩

/-- An op's letters. -/
structure OpH where
  kind : Nat
  it : ItL
  level : Int
  ahead : Nat
  fl : FltL
  k : Int
  width : Int
  v : Nat
  kp : Option Addr × Nat × Nat
  keep : List Nat
def OpH.cells (o : OpH) : List Value := [.int .u8 (o.kind : Int), .int .u32 (o.it.id : Int), .slice o.it.pv.1 o.it.pv.2.1 o.it.pv.2.2, .slice o.it.pt.1 o.it.pt.2.1 o.it.pt.2.2, .int .i64 o.level, .int .u8 (o.ahead : Int), .slice o.fl.p0.1 o.fl.p0.2.1 o.fl.p0.2.2, .slice o.fl.p1.1 o.fl.p1.2.1 o.fl.p1.2.2, .slice o.fl.p2.1 o.fl.p2.2.1 o.fl.p2.2.2, .int .i64 o.k, .int .i64 o.width, .int .u64 (o.v : Int), .slice o.kp.1 o.kp.2.1 o.kp.2.2]
structure OpH.In (B : Nat) (w : World) (o : OpH) : Prop where
  hkind : o.kind ≤ 255
  hahead : o.ahead ≤ 255
  hv : o.v < 18446744073709551616
  hlev : (Lit.int .i64 o.level).wf = true
  hk : (Lit.int .i64 o.k).wf = true
  hw : (Lit.int .i64 o.width).wf = true
  it : o.it.In (· < B) w
  fl : o.fl.Rds (· < B) w
  keep : Reads .u64 w o.kp.1 o.kp.2.1 (natI o.keep)
def shFlt12 : Sh := st [shTags, shTags, shTags]
def shOp12 : Sh := st [.int .u8, shItem, .int .i64, .int .u8, shFlt12, .int .i64, .int .i64, .int .u64, .slice (.int .u64) 8]
def shOps12 : Sh := .slice shOp12 200
set_option maxRecDepth 100000 in
theorem fit_ops12 : (shOps12.fit Tryz.prog).1 22 = true := by kernel_rfl
theorem Given.ops12 {H : Type} {enc : TypeId × Value → H} {W : World} {base : Nat} {ts : Array TypeId} {args : Array Value} {ds : List (DataW H)} {p : List MemPlace} (g : Given enc Tryz.prog W base ts args ds p) (j : Nat) (ht : ts[j]? = some 22) :
    ∃ (a : Option Addr) (n c : Nat) (xs : List shOp12.T), args[j]? = some (.slice a n c) ∧ n ≤ 140737488351232 ∧ Rd (· < W.heap.size) W shOps12 [.slice a n c] xs := by
  obtain ⟨v, x, e1, hx⟩ := g.sh1 j ht shOps12 fit_ops12 (.inl ⟨_, Tryz.underlying22⟩)
  obtain ⟨a, n, c, hcs, _, hn, h⟩ := Rd.slice_is (e := shOp12) hx
  simp only [List.cons.injEq, and_true] at hcs
  subst hcs
  exact ⟨a, n, c, x, e1, hn, h.mono fun _ _ hk => hk⟩
theorem u8_of12 {ok : Nat → Prop} {w : World} {cs : List Value} {x : Int} (h : Rd ok w (.int .u8) cs x) : ∃ n : Nat, cs = [.int .u8 (n : Int)] ∧ n ≤ 255 := by
  obtain ⟨h1, hw⟩ := Rd.int_part h
  have := u8_wf hw
  obtain ⟨n, rfl⟩ := Int.eq_ofNat_of_zero_le (a := x) (by omega)
  exact ⟨n, h1, by omega⟩
theorem u32_of12 {ok : Nat → Prop} {w : World} {cs : List Value} {x : Int} (h : Rd ok w (.int .u32) cs x) : ∃ n : Nat, cs = [.int .u32 (n : Int)] ∧ n < 4294967296 := by
  obtain ⟨h1, hw⟩ := Rd.int_part h
  have := u32_wf hw
  obtain ⟨n, rfl⟩ := Int.eq_ofNat_of_zero_le (a := x) (by omega)
  exact ⟨n, h1, by omega⟩
theorem slice_of12 {ok : Nat → Prop} {w : World} {e : Sh} {sz : Nat} {cs : List Value} {xs : List e.T} (h : Rd ok w (.slice e sz) cs xs) : ∃ p : Option Addr × Nat × Nat, cs = [.slice p.1 p.2.1 p.2.2] := by
  obtain ⟨a, n, c, h0, _⟩ := Rd.slice_part (e := e) (xs := xs) h
  exact ⟨(a, n, c), h0⟩
theorem u64_of12 {ok : Nat → Prop} {w : World} {cs : List Value} {x : Int} (h : Rd ok w (.int .u64) cs x) : ∃ n : Nat, cs = [.int .u64 (n : Int)] ∧ n < 18446744073709551616 := by
  obtain ⟨h1, hw⟩ := Rd.int_part h
  have := u64_wf hw
  obtain ⟨n, rfl⟩ := Int.eq_ofNat_of_zero_le (a := x) (by omega)
  exact ⟨n, h1, by omega⟩
theorem nats_of : ∀ {xs : List Int}, (∀ x ∈ xs, (Lit.int .u64 x).wf = true) → ∃ l : List Nat, xs = natI l
  | [], _ => ⟨[], rfl⟩
  | x :: xs, h => by
    obtain ⟨l, e⟩ := nats_of (xs := xs) fun y hy => h y (List.mem_cons_of_mem _ hy)
    have := u64_wf (h x (by simp))
    obtain ⟨n, rfl⟩ := Int.eq_ofNat_of_zero_le (a := x) (by omega)
    exact ⟨n :: l, by rw [e]; rfl⟩
/-- What is read of an op in a list, in whatever world that keeps what lay below. -/
theorem rd_op12 {w : World} {a : Option Addr} {n c : Nat} {xs : List shOp12.T} (h : Rd (· < w.heap.size) w shOps12 [.slice a n c] xs) (i : Nat) (hi : i < n) :
    ∃ (b off : Nat) (o : OpH), a = some ⟨b, off, none⟩ ∧ b < w.heap.size ∧ Hid (∀ wr, Below w.heap.size w wr → b < wr.heap.size ∧ o.In w.heap.size wr ∧ ∀ j v, o.cells[j]? = some v → wr.cell? ⟨b, off + i * 13 + j, none⟩ = some v) := by
  obtain ⟨b, off, x, vs, ha, hok, hlt, hx, hl, hc, hr⟩ := Rd.elem (e := shOp12) h i hi
  obtain ⟨k, ⟨id, vec, tags, ui⟩, lv, ah, ⟨f0, f1, f2, uf⟩, kk, wd, vv, kp, u1⟩ := x
  obtain ⟨c1, c2, rfl, h1, h2⟩ := Rd.pair_is hr
  obtain ⟨c3, c4, rfl, h3, h4⟩ := Rd.pair_is h2
  obtain ⟨c5, c6, rfl, h5, h6⟩ := Rd.pair_is h4
  obtain ⟨c7, c8, rfl, h7, h8⟩ := Rd.pair_is h6
  obtain ⟨c9, c10, rfl, h9, h10⟩ := Rd.pair_is h8
  obtain ⟨c11, c12, rfl, h11, h12⟩ := Rd.pair_is h10
  obtain ⟨c13, c14, rfl, h13, h14⟩ := Rd.pair_is h12
  obtain ⟨c15, c16, rfl, h15, h16⟩ := Rd.pair_is h14
  obtain ⟨c17, c18, rfl, h17, h18⟩ := Rd.pair_is h16
  obtain rfl := Rd.unit_is h18
  obtain ⟨d1, d2, rfl, g1, g2⟩ := Rd.pair_is h9
  obtain ⟨d3, d4, rfl, g3, g4⟩ := Rd.pair_is g2
  obtain ⟨d5, d6, rfl, g5, g6⟩ := Rd.pair_is g4
  obtain rfl := Rd.unit_is g6
  obtain ⟨e1, e2, rfl, i1, i2⟩ := Rd.pair_is h3
  obtain ⟨e3, e4, rfl, i3, i4⟩ := Rd.pair_is i2
  obtain ⟨e5, e6, rfl, i5, i6⟩ := Rd.pair_is i4
  obtain rfl := Rd.unit_is i6
  obtain ⟨k9, rfl, hk⟩ := u8_of12 (x := k) h1
  obtain ⟨id9, rfl, hid⟩ := u32_of12 (x := id) i1
  obtain ⟨pv, rfl⟩ := slice_of12 (e := .int .i32) (xs := vec) i3
  obtain ⟨pt, rfl⟩ := slice_of12 (e := .str) (xs := tags) i5
  obtain ⟨rfl, hlw⟩ := Rd.int_part (x := lv) h5
  obtain ⟨a9, rfl, hah⟩ := u8_of12 (x := ah) h7
  obtain ⟨p0, rfl⟩ := slice_of12 (e := .str) (xs := f0) g1
  obtain ⟨p1, rfl⟩ := slice_of12 (e := .str) (xs := f1) g3
  obtain ⟨p2, rfl⟩ := slice_of12 (e := .str) (xs := f2) g5
  obtain ⟨rfl, hkw⟩ := Rd.int_part (x := kk) h11
  obtain ⟨rfl, hww⟩ := Rd.int_part (x := wd) h13
  obtain ⟨v9, rfl, hv9⟩ := u64_of12 (x := vv) h15
  obtain ⟨kq, rfl⟩ := slice_of12 (e := .int .u64) (xs := kp) h17
  have hkr := Rd.ints (xs := kp) h17 rfl
  obtain ⟨kl, rfl⟩ := nats_of hkr.wf
  refine ⟨b, off, ⟨k9, ⟨id9, pv, pt, vec, tags⟩, lv, a9, ⟨p0, p1, p2, ⟨f0, f1, f2⟩⟩, kk, wd, v9, kq, kl⟩, ha, hlt, fun wr hw => ⟨Nat.lt_of_lt_of_le hlt hw.size, ⟨hk, hah, hv9, hlw, hkw, hww, ⟨hid, i3.under hw, i5.under hw⟩, ⟨g1.under hw, g3.under hw, g5.under hw⟩, hkr.below (Nat.le_refl _) hw⟩, fun j v hj => ?_⟩⟩
  have hj6 : j < 13 := (List.getElem?_eq_some_iff.1 hj).1
  exact (hw.cell (p := ⟨b, _, none⟩) hlt).trans ((hc j hj6).trans hj)
end

section
open Go.RowKit Go.ChangeShapes Go.WideShapes Go.ChangeAt Go.Maps

theorem items_nil12 (ok : Nat → Prop) (w : World) : Rd ok w (.slice shItem 1) [.slice none 0 0] ([] : List shItem.T) :=
  Rd.slice_mk (e := shItem) ⟨none, 0, 0, rfl, rfl, by decide, by decide, Nat.le_refl _, (fun _ => ⟨rfl, rfl⟩), .inl rfl⟩
set_option maxRecDepth 100000 in
set_option maxHeartbeats 6400000 in
theorem hgreat_any (w : World) (B : Nat) (hB : B ≤ w.heap.size) (o : OpH) (ho : o.In B w) :
    Calls Tryz.prog 12 #[.agg o.cells.toArray] w fun e w' => ∃ g, e = .returned (.bool g) ∧ (g = false → o.keep.length ≤ 50) ∧ Below w.heap.size w w' := by
  obtain ⟨kind, ⟨id, pv, pt, vec, tags⟩, lev, ah, ⟨p0, p1, p2, f⟩, k, wd, v, ⟨ka, kn, kc⟩, keep⟩ := o
  show Calls _ _ #[.agg #[.int .u8 (kind : Int), .int .u32 (id : Int), .slice pv.1 pv.2.1 pv.2.2, .slice pt.1 pt.2.1 pt.2.2, .int .i64 lev, .int .u8 (ah : Int), .slice p0.1 p0.2.1 p0.2.2, .slice p1.1 p1.2.1 p1.2.2, .slice p2.1 p2.2.1 p2.2.2, .int .i64 k, .int .i64 wd, .int .u64 (v : Int), .slice ka kn kc]] _ _
  have hkl : keep.length = kn := by have := ho.keep.len; simpa [natI] using this
  have hks := ho.keep.small
  have HK := Lib.hid hkl
  obtain ⟨wb, hwb⟩ : ∃ wb, w.alloc (.cells #[.int .u8 (kind : Int), .int .u32 (id : Int), .slice pv.1 pv.2.1 pv.2.2, .slice pt.1 pt.2.1 pt.2.2, .int .i64 lev, .int .u8 (ah : Int), .slice p0.1 p0.2.1 p0.2.2, .slice p1.1 p1.2.1 p1.2.2, .slice p2.1 p2.2.1 p2.2.2, .int .i64 k, .int .i64 wd, .int .u64 (v : Int), .slice ka kn kc] 37) = wb := ⟨_, rfl⟩
  have bb : Below w.heap.size w wb := by rw [← hwb]; exact (Below.refl _ w).alloc (Nat.le_refl _) _
  have D : Blk wb w.heap.size 37 [.int .u8 (kind : Int), .int .u32 (id : Int), .slice pv.1 pv.2.1 pv.2.2, .slice pt.1 pt.2.1 pt.2.2, .int .i64 lev, .int .u8 (ah : Int), .slice p0.1 p0.2.1 p0.2.2, .slice p1.1 p1.2.1 p1.2.2, .slice p2.1 p2.2.1 p2.2.2, .int .i64 k, .int .i64 wd, .int .u64 (v : Int), .slice ka kn kc] := by rw [← hwb]; exact Blk.new _ _ _
  have DD := Lib.hid D
  have HBB := Lib.hid bb
  have c1 : wb.cell? ⟨w.heap.size, 1, none⟩ = some (.int .u32 (id : Int)) := D.cell 1
  have c2 : wb.cell? ⟨w.heap.size, 2, none⟩ = some (.slice pv.1 pv.2.1 pv.2.2) := D.cell 2
  have c3 : wb.cell? ⟨w.heap.size, 3, none⟩ = some (.slice pt.1 pt.2.1 pt.2.2) := D.cell 3
  have CS := Lib.hid (small_any B ⟨id, pv, pt, vec, tags⟩ wb (ho.it.under (bb.mono hB)) (Nat.le_trans hB bb.size))
  have HFL := Lib.hid (show (FltL.mk p0 p1 p2 f).Rds (fun _ => True) wb from
    have h := ho.fl.on bb
    ⟨h.all.mono fun _ _ _ => trivial, h.any.mono fun _ _ _ => trivial, h.none.mono fun _ _ _ => trivial⟩)
  clear ho D bb hkl
  go_enter Tryz.func12, Tryz.ntmps12
  go_wp2_with (first | (rw [hwb]) | fail)
  try rw [hwb]
  clear hwb
  try go_wp2_with (fail)
  refine CS.out.mono ?_
  rintro e w2 ⟨⟨g, rfl⟩, hb2⟩
  have D2 := Lib.hid ((Kept.of_below (F := []) hb2 (Nat.le_refl _)).blk DD.out (by simp))
  have HB2 := Lib.hid (HBB.out.trans (hb2.mono HBB.out.size))
  have HK2 := Lib.hid hb2
  have c6 : w2.cell? ⟨w.heap.size, 6, none⟩ = some (.slice p0.1 p0.2.1 p0.2.2) := D2.out.cell 6
  have c7 : w2.cell? ⟨w.heap.size, 7, none⟩ = some (.slice p1.1 p1.2.1 p1.2.2) := D2.out.cell 7
  have c8 : w2.cell? ⟨w.heap.size, 8, none⟩ = some (.slice p2.1 p2.2.1 p2.2.2) := D2.out.cell 8
  have c12 : w2.cell? ⟨w.heap.size, 12, none⟩ = some (.slice ka kn kc) := D2.out.cell 12
  clear hb2 CS c1 c2 c3
  cases g with
  | false =>
    go_wp2_with (fail)
    go_ret
    exact ⟨true, rfl, (fun h => by cases h), HB2.out⟩
  | true =>
    by_cases hk : 50 < kn
    · have d1 : decide ((50 : Int) < (kn : Int)) = true := decide_eq_true (by omega)
      go_wp2_with (fail)
      go_ret
      exact ⟨true, rfl, (fun h => by cases h), HB2.out⟩
    · have d1 : decide ((50 : Int) < (kn : Int)) = false := decide_eq_false (by omega)
      have HKN := Lib.hid hk
      have CG := Lib.hid (rgreat12 w2 (fun _ => True) none 0 0 [] ⟨p0, p1, p2, f⟩ (items_nil12 _ _) (HFL.out.on HK2.out))
      go_wp2_with (fail)
      refine CG.out.mono ?_
      rintro e w3 ⟨g3, rfl, -, hb3⟩
      have HB3 := Lib.hid (HB2.out.trans (hb3.mono HB2.out.size))
      clear hb3 CG c6 c7 c8 c12
      go_wp2_with (fail)
      go_ret
      exact ⟨g3, rfl, (fun _ => by have h9 := HK.out; have h8 := HKN.out; omega), HB3.out⟩
set_option maxHeartbeats 1600000 in
theorem rthere12_any (w : World) (y : NodeL) (v : Nat) (z : Bool) (hz : seenB y.frm y.til v = z) :
    Calls Tryz.prog 23 #[.agg y.cells.toArray, .int .u64 (v : Int)] w fun e w' => e = .returned (.bool z) ∧ Below w.heap.size w w' := by
  show Calls _ _ #[.agg #[.int .u32 (y.it.id : Int), .slice y.it.pv.1 y.it.pv.2.1 y.it.pv.2.2, .slice y.it.pt.1 y.it.pt.2.1 y.it.pt.2.2, .int .u64 (y.frm : Int), .int .u64 (y.til : Int), y.pl], _] _ _
  have HZ := Lib.hid hz
  clear hz
  go_enter Tryz.func23, Tryz.ntmps23
  go_wp2
  all_goals go_ret
  all_goals
    refine ⟨?_, (Below.refl _ w).alloc (Nat.le_refl _) _⟩
    rw [← HZ.out]
    clear HZ
    unfold seenB
    show Ending.returned (Value.bool _) = Ending.returned (Value.bool _)
    try simp [*]
    try (first | omega | (intros; omega))
/-- All versions are at most v. -/
def NowOk (s : IdxV) (v : Nat) : Prop := ∀ t ∈ s.g.ts, t.2.1 ≤ v ∧ t.2.2 ≤ v
theorem NowOk.more {s : IdxV} {v v' : Nat} (h : NowOk s v) (hv : v ≤ v') : NowOk s v' := fun t ht => ⟨Nat.le_trans (h t ht).1 hv, Nat.le_trans (h t ht).2 hv⟩
theorem NowOk.cut {s : IdxV} {v : Nat} (h : NowOk s v) (id : Nat) : NowOk (s.cutV id v) v := by
  intro t ht
  obtain ⟨z, hz, rfl⟩ := List.mem_map.1 ht
  obtain ⟨q, hq, rfl⟩ := List.mem_map.1 (show z ∈ s.g.L.map (cutK id v) from hz)
  have h1 := h (q.id, q.frm, q.til) (List.mem_map.2 ⟨q, hq, rfl⟩)
  unfold cutK
  split
  · exact ⟨h1.1, Nat.le_refl _⟩
  · exact h1
theorem NowOk.put {s : IdxV} {v : Nat} (h : NowOk s v) (y : ItL) (level : Nat) : NowOk (s.putV y level v) v := by
  intro t ht
  rw [putV_ts] at ht
  rcases List.mem_append.1 ht with ht | ht
  · exact h.cut y.id t ht
  · rw [List.mem_singleton.1 ht]
    exact ⟨Nat.le_refl _, Nat.zero_le _⟩
theorem NowOk.at {s : IdxV} {v : Nat} (h : NowOk s v) {z : NodeV} (hz : z ∈ s.g.L) : seenB z.frm z.til v = decide (z.til = 0) := by
  have h1 := h (z.id, z.frm, z.til) (List.mem_map.2 ⟨z, hz, rfl⟩)
  unfold seenB
  rw [decide_eq_true h1.1, Bool.true_and, show decide (v < z.til) = false from decide_eq_false (by have := h1.2; simp at this; omega), Bool.or_false]
end
end Go.Proofs.YtadkfedglkhgjaaGreat
