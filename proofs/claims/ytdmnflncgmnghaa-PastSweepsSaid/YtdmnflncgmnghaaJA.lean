/-
  The document's past: All, by a walk over its text.
-/
import Derived.Test.YtdmnflncgmnghaaJa
import Derived.Deep.DeepMust
namespace Go.Proofs.Ytdmnflncgmnghaa
open Go.RowKit
set_option maxRecDepth 100000 in
set_option maxHeartbeats 12800000 in
theorem rall_past (w : World) (B lo g : Nat) (u k : Value) (L : List RowL) (last floor : Nat) (kept : List Nat) (v : Nat) (hv : v < 18446744073709551616) (h : PastR w B lo g u k L last floor kept) :
    Calls Try.prog 19 #[.pointer (some ⟨g, 0, none⟩), .int .u64 (v : Int)] w fun e w' => AllPost B ((PastR.st L last floor kept).all v) w e w' := by
  have hBw : B ≤ w.heap.size := by have := h.hB; have := h.glo; have := h.blk.lt; omega
  obtain ⟨a, c, rfl, hnc⟩ := h.u_form
  have hL := h.hL
  have HP := Lib.hid h
  have hv2 := Lib.hid hv
  have HBW := Lib.hid hBw
  clear h hv hBw
  go_enter Try.func19, Try.ntmps19
  go_wp2_with (fail)
  refine (rknown_any w B lo g _ k L last floor kept v hv2.out HP.out).mono ?_
  rintro e w2 ⟨rfl, hw2⟩
  have hw2' := hw2.symm
  subst hw2'
  clear hw2
  obtain ⟨z, hz0⟩ : ∃ z, (PastR.st L last floor kept).known v = z := ⟨_, rfl⟩
  have HZ := Lib.hid hz0
  rw [hz0]
  clear hz0
  cases z
  · have G := Lib.hid (show (PastR.st L last floor kept).all v = ([], 80) from by rw [PastV.all, HZ.out]; rfl)
    go_wp2
    go_ret2
    exact ⟨Below.refl _ _, _, [], by rw [G.out]; rfl, RowC.nil _ _ _ _, by simp, by rw [G.out]; rfl⟩
  have G := Lib.hid (show (PastR.st L last floor kept).all v = (allI (rowsV L) v L.length, 0) from by
    rw [PastV.all, HZ.out]
    show (allI (rowsV L) v (rowsV L).length, 0) = _
    rw [rowsV_len])
  obtain ⟨n, hn⟩ : ∃ n, L.length = n := ⟨_, rfl⟩
  have HN := Lib.hid hn
  rw [hn] at HP hnc hL G
  clear hn
  go_wp2_with (fail)
  go_loopw [6, 7] (fun s6 s7 wr => ∃ (i : Nat) (xs : List ItL), s7 = .int .i64 i ∧ i ≤ n ∧ Hid (AllS B L v i s6 w wr xs)) (fun _ s7 _ => n - (intOf s7).toNat)
  case atStart => exact ⟨0, [], rfl, by omega, ⟨RowC.nil _ _ _ _, Below.refl _ _, rfl, by simp, by simp⟩⟩
  case round =>
    obtain ⟨i, xs, rfl, hi, HS⟩ := hrel
    have PW := Lib.hid (HP.out.on HS.out.below)
    have c0 : wr.cell? ⟨g, 0, none⟩ = some (.slice a n c) := PW.out.blk.cell 0
    have hgl : g < wr.heap.size := PW.out.blk.lt
    have hws := HS.out.below.size
    by_cases hin : i < n
    · obtain ⟨r, gu, c', hr, hmem, e, hgu, k0, k1, k2, hrg⟩ := PW.out.rowAt i (by rw [HN.out]; exact hin)
      rw [HN.out] at e
      simp only [Value.slice.injEq] at e
      obtain ⟨rfl, -, rfl⟩ := e
      have k3 : wr.cell? ⟨gu, i * 5 + 3, none⟩ = some (.slice r.pv.1 r.pv.2.1 r.pv.2.2) := hrg 3 _ rfl
      have k4 : wr.cell? ⟨gu, i * 5 + 4, none⟩ = some (.slice r.pt.1 r.pt.2.1 r.pt.2.2) := hrg 4 _ rfl
      have NXT := Lib.hid (allI_next (v := v) hr)
      have RI := Lib.hid (HP.out.each r hmem)
      clear hr hmem hrg
      obtain ⟨w3, hw3⟩ : ∃ w3, wr.alloc (.cells #[.int .u64 (r.v : Int), .bool r.gone, .int .u32 (r.id : Int), .slice r.pv.1 r.pv.2.1 r.pv.2.2, .slice r.pt.1 r.pt.2.1 r.pt.2.2] 46) = w3 := ⟨_, rfl⟩
      have b3 : Below wr.heap.size wr w3 := by rw [← hw3]; exact (Below.refl _ _).alloc (Nat.le_refl _) _
      have BX := Lib.hid (show Blk w3 wr.heap.size 46 r.cells from by rw [← hw3]; exact Blk.new wr 46 r.cells.toArray)
      have P3 := Lib.hid (PW.out.on b3)
      have O3 := Lib.hid (HS.out.row.on b3)
      have B3 := Lib.hid (below_on HS.out.below b3)
      have hs3 : wr.heap.size < w3.heap.size := BX.out.lt
      have d1 : w3.cell? ⟨wr.heap.size, 1, none⟩ = some (.bool r.gone) := BX.out.cell 1
      have d2 : w3.cell? ⟨wr.heap.size, 2, none⟩ = some (.int .u32 (r.id : Int)) := BX.out.cell 2
      clear b3 PW
      go_wp2_with (fail)
      try rw [hw3]
      clear hw3 k0 k1 k2 k3 k4 c0
      refine (rat_any w3 B lo g _ k L last floor kept r.id v hv2.out P3.out).mono ?_
      rintro e w4 ⟨rfl, hw4⟩
      have hw4' := hw4.symm
      subst hw4'
      clear hw4
      obtain ⟨p, hp⟩ : ∃ p, atP (rowsV L) r.id v = p := ⟨_, rfl⟩
      rw [hp] at NXT ⊢
      have hlt := atP_lt (rowsV L) r.id v
      rw [hp, rowsV_len, HN.out] at hlt
      clear hp
      by_cases hpi : p = (i : Int)
      rotate_left
      · have hb : (p != (i : Int)) = true := by simpa using hpi
        have NS := Lib.hid (show AllS B L v (i + 1) _ w w3 xs from ⟨O3.out, B3.out, by rw [NXT.out, if_neg (fun h => hpi h.1)]; exact HS.out.told, HS.out.inn, Nat.le_succ_of_le HS.out.len⟩)
        go_wp2
        go_roundw
        case rel => exact ⟨i + 1, xs, by go_num, by omega, NS.out⟩
        case measure => simp [intOf]; omega
      subst hpi
      have hb : ((i : Int) != (i : Int)) = false := by simp
      cases hgn : r.gone
      rotate_left
      · rw [hgn] at d1
        have NS := Lib.hid (show AllS B L v (i + 1) _ w w3 xs from ⟨O3.out, B3.out, by rw [NXT.out, if_neg (fun h => by rw [hgn] at h; cases h.2)]; exact HS.out.told, HS.out.inn, Nat.le_succ_of_le HS.out.len⟩)
        go_wp2
        go_roundw
        case rel => exact ⟨i + 1, xs, by go_num, by omega, NS.out⟩
        case measure => simp [intOf]; omega
      rw [hgn] at d1
      have NX1 := Lib.hid (show allI (rowsV L) v (i + 1) = insI r.item (allI (rowsV L) v i) from by rw [NXT.out, if_pos ⟨rfl, hgn⟩])
      clear hgn NXT
      obtain ⟨a6, c6, rfl, h6⟩ := O3.out.form
      obtain ⟨m, hm⟩ : ∃ m, xs.length = m := ⟨_, rfl⟩
      have HM := Lib.hid hm
      have hmi := HS.out.len
      rw [hm] at O3 HS h6 hmi ⊢
      clear hm
      generalize wr = wo at *
      go_wp2_with (fail)
      go_loopw [9, 10, 11] (fun s9 s10 s11 wy => ∃ (j : Nat) (nx : List ItL) (dn : Bool), s10 = .bool dn ∧ s11 = .int .i64 j ∧ j ≤ m ∧ nx.length ≤ j + (bif dn then 1 else 0) ∧ Hid (ItsAt w3.heap.size wy s9 nx) ∧ Hid (Below w3.heap.size w3 wy) ∧ Hid (dn = anyG ItL.id r.it (xs.take j)) ∧ Hid (nx = insS ItL.id r.it (xs.take j))) (fun _ _ s11 _ => m - (intOf s11).toNat)
      case atStart => exact ⟨0, [], false, rfl, rfl, by omega, by simp, RowC.nil _ _ _ _, Below.refl _ _, rfl, rfl⟩
      case round =>
        obtain ⟨j, nx, dn, rfl, rfl, hj, hnl, HI, HBL, HD, HNX⟩ := hrel
        obtain ⟨a9, c9, rfl, h9⟩ := HI.out.form
        obtain ⟨q, hq⟩ : ∃ q, nx.length = q := ⟨_, rfl⟩
        have HQ := Lib.hid hq
        rw [hq] at HI h9 hnl ⊢
        clear hq
        have hwr := HBL.out.size
        by_cases hjm : j < m
        · obtain ⟨y, g6, c', hy, e, hg6, y0, y1, y2⟩ := O3.out.at j (by rw [HM.out]; exact hjm)
          rw [HM.out] at e
          simp only [Value.slice.injEq] at e
          obtain ⟨rfl, -, rfl⟩ := e
          have TK := Lib.hid (take_snoc hy)
          have YC0 := Lib.hid y0
          have YC1 := Lib.hid y1
          have YC2 := Lib.hid y2
          clear hy y0 y1 y2
          have kpa := Kept.of_below (F := []) HBL.out (Nat.le_refl _)
          have ad2 : wr.cell? ⟨wo.heap.size, 2, none⟩ = some (.int .u32 (r.id : Int)) := (kpa.cell (p := ⟨wo.heap.size, 2, none⟩) hs3 (by simp)).trans (BX.out.cell 2)
          have ad3 : wr.cell? ⟨wo.heap.size, 3, none⟩ = some (.slice r.pv.1 r.pv.2.1 r.pv.2.2) := (kpa.cell (p := ⟨wo.heap.size, 3, none⟩) hs3 (by simp)).trans (BX.out.cell 3)
          have ad4 : wr.cell? ⟨wo.heap.size, 4, none⟩ = some (.slice r.pt.1 r.pt.2.1 r.pt.2.2) := (kpa.cell (p := ⟨wo.heap.size, 4, none⟩) hs3 (by simp)).trans (BX.out.cell 4)
          have ay0 : wr.cell? ⟨g6, j * 3, none⟩ = some (.int .u32 (y.id : Int)) := (kpa.cell (p := ⟨g6, j * 3, none⟩) hg6 (by simp)).trans YC0.out
          have ay1 : wr.cell? ⟨g6, j * 3 + 1, none⟩ = some (.slice y.pv.1 y.pv.2.1 y.pv.2.2) := (kpa.cell (p := ⟨g6, j * 3 + 1, none⟩) hg6 (by simp)).trans YC1.out
          have ay2 : wr.cell? ⟨g6, j * 3 + 2, none⟩ = some (.slice y.pt.1 y.pt.2.1 y.pt.2.2) := (kpa.cell (p := ⟨g6, j * 3 + 2, none⟩) hg6 (by simp)).trans YC2.out
          cases dn
          rotate_left
          · have hnl1 : q ≤ j + 1 := hnl
            go_upto_region 14 with fail
            go_cut [62] (fun s62 wx => s62 = .bool false ∧ Hid (ItsAt w3.heap.size wx (.slice a9 q c9) nx) ∧ Hid (Below w3.heap.size w3 wx))
            case first =>
              have NI := Lib.hid (fun n => HI.out.on (show Below wr.heap.size wr (wr.drewN n) from below_draws (Below.refl _ _) n))
              have NB := Lib.hid (fun n => below_draws HBL.out n)
              go_quiet (fail)
              go_wp2
              go_meet
              exact ⟨rfl, NI.out _, NB.out _⟩
            case rest =>
              obtain ⟨rfl, HI2, HB2⟩ := hcut
              clear HI HBL kpa ad2 ad3 ad4 ay0 ay1 ay2
              generalize wc = wz at *
              have hwz := HB2.out.size
              have kpb := Kept.of_below (F := []) HB2.out (Nat.le_refl _)
              have bd2 : wz.cell? ⟨wo.heap.size, 2, none⟩ = some (.int .u32 (r.id : Int)) := (kpb.cell (p := ⟨wo.heap.size, 2, none⟩) hs3 (by simp)).trans (BX.out.cell 2)
              have bd3 : wz.cell? ⟨wo.heap.size, 3, none⟩ = some (.slice r.pv.1 r.pv.2.1 r.pv.2.2) := (kpb.cell (p := ⟨wo.heap.size, 3, none⟩) hs3 (by simp)).trans (BX.out.cell 3)
              have bd4 : wz.cell? ⟨wo.heap.size, 4, none⟩ = some (.slice r.pt.1 r.pt.2.1 r.pt.2.2) := (kpb.cell (p := ⟨wo.heap.size, 4, none⟩) hs3 (by simp)).trans (BX.out.cell 4)
              have by0 : wz.cell? ⟨g6, j * 3, none⟩ = some (.int .u32 (y.id : Int)) := (kpb.cell (p := ⟨g6, j * 3, none⟩) hg6 (by simp)).trans YC0.out
              have by1 : wz.cell? ⟨g6, j * 3 + 1, none⟩ = some (.slice y.pv.1 y.pv.2.1 y.pv.2.2) := (kpb.cell (p := ⟨g6, j * 3 + 1, none⟩) hg6 (by simp)).trans YC1.out
              have by2 : wz.cell? ⟨g6, j * 3 + 2, none⟩ = some (.slice y.pt.1 y.pt.2.1 y.pt.2.2) := (kpb.cell (p := ⟨g6, j * 3 + 2, none⟩) hg6 (by simp)).trans YC2.out
              have ND := Lib.hid (show true = anyG ItL.id r.it (xs.take (j + 1)) from by rw [TK.out, anyG_snoc, ← HD.out]; rfl)
              have NL := Lib.hid (show nx ++ [y] = insS ItL.id r.it (xs.take (j + 1)) from by rw [TK.out, insS_skip _ _ _ _ (.inl HD.out.symm), ← HNX.out])
              go_wp2_with (at_builtin; go_must (refine app_c (k := 3) wz rfl (.tmp 68) (.tmp 73) 54 rfl Try.underlying54 (.agg #[.int .u32 0, .slice none 0 0, .slice none 0 0]) 56 item_info3 rfl (by decide) [.int .u32 (y.id : Int), .slice y.pv.1 y.pv.2.1 y.pv.2.2, .slice y.pt.1 y.pt.2.1 y.pt.2.2] (by rfl) (by rfl) HI2.out rfl (by simp [Value.oneCell']) hwz (by have := HQ.out; simp at this ⊢; omega) (by have := HQ.out; simp at this ⊢; omega) ?_))
              intro v8 w8 hr8 hk8 _
              have I8 := Lib.hid (show ItsAt w3.heap.size w8 v8 (nx ++ [y]) from by unfold ItsAt; rw [List.map_append]; exact hr8)
              have B8 := Lib.hid (HB2.out.trans (hk8.below (fun x hx => (HI2.out.lt x (mem_ownB.1 hx)).1) hwz))
              have hln : (nx ++ [y]).length ≤ j + 1 + 1 := by have := HQ.out; simp at this ⊢; omega
              clear hr8 hk8 HI2 HB2 kpb bd2 bd3 bd4 by0 by1 by2
              go_wp2
              go_roundw
              case rel => exact ⟨j + 1, nx ++ [y], true, rfl, by go_num, by omega, hln, I8.out, B8.out, ND.out, NL.out⟩
              case measure => simp [intOf]; omega
          have hnl1 : q ≤ j := hnl
          by_cases hlt2 : r.id < y.id
          rotate_left
          · have hb1 : decide ((r.id : Int) < (y.id : Int)) = false := decide_eq_false (by omega)
            go_upto_region 14 with fail
            go_cut [62] (fun s62 wx => s62 = .bool false ∧ Hid (ItsAt w3.heap.size wx (.slice a9 q c9) nx) ∧ Hid (Below w3.heap.size w3 wx))
            case first =>
              have NI := Lib.hid (fun n => HI.out.on (show Below wr.heap.size wr (wr.drewN n) from below_draws (Below.refl _ _) n))
              have NB := Lib.hid (fun n => below_draws HBL.out n)
              go_quiet (fail)
              go_wp2
              go_meet
              exact ⟨rfl, NI.out _, NB.out _⟩
            case rest =>
              obtain ⟨rfl, HI2, HB2⟩ := hcut
              clear HI HBL kpa ad2 ad3 ad4 ay0 ay1 ay2
              generalize wc = wz at *
              have hwz := HB2.out.size
              have kpb := Kept.of_below (F := []) HB2.out (Nat.le_refl _)
              have bd2 : wz.cell? ⟨wo.heap.size, 2, none⟩ = some (.int .u32 (r.id : Int)) := (kpb.cell (p := ⟨wo.heap.size, 2, none⟩) hs3 (by simp)).trans (BX.out.cell 2)
              have bd3 : wz.cell? ⟨wo.heap.size, 3, none⟩ = some (.slice r.pv.1 r.pv.2.1 r.pv.2.2) := (kpb.cell (p := ⟨wo.heap.size, 3, none⟩) hs3 (by simp)).trans (BX.out.cell 3)
              have bd4 : wz.cell? ⟨wo.heap.size, 4, none⟩ = some (.slice r.pt.1 r.pt.2.1 r.pt.2.2) := (kpb.cell (p := ⟨wo.heap.size, 4, none⟩) hs3 (by simp)).trans (BX.out.cell 4)
              have by0 : wz.cell? ⟨g6, j * 3, none⟩ = some (.int .u32 (y.id : Int)) := (kpb.cell (p := ⟨g6, j * 3, none⟩) hg6 (by simp)).trans YC0.out
              have by1 : wz.cell? ⟨g6, j * 3 + 1, none⟩ = some (.slice y.pv.1 y.pv.2.1 y.pv.2.2) := (kpb.cell (p := ⟨g6, j * 3 + 1, none⟩) hg6 (by simp)).trans YC1.out
              have by2 : wz.cell? ⟨g6, j * 3 + 2, none⟩ = some (.slice y.pt.1 y.pt.2.1 y.pt.2.2) := (kpb.cell (p := ⟨g6, j * 3 + 2, none⟩) hg6 (by simp)).trans YC2.out
              have ND := Lib.hid (show false = anyG ItL.id r.it (xs.take (j + 1)) from by rw [TK.out, anyG_snoc, ← HD.out, Bool.false_or]; exact (decide_eq_false hlt2).symm)
              have NL := Lib.hid (show nx ++ [y] = insS ItL.id r.it (xs.take (j + 1)) from by rw [TK.out, insS_skip _ _ _ _ (.inr hlt2), ← HNX.out])
              go_wp2_with (at_builtin; go_must (refine app_c (k := 3) wz rfl (.tmp 68) (.tmp 73) 54 rfl Try.underlying54 (.agg #[.int .u32 0, .slice none 0 0, .slice none 0 0]) 56 item_info3 rfl (by decide) [.int .u32 (y.id : Int), .slice y.pv.1 y.pv.2.1 y.pv.2.2, .slice y.pt.1 y.pt.2.1 y.pt.2.2] (by rfl) (by rfl) HI2.out rfl (by simp [Value.oneCell']) hwz (by have := HQ.out; simp at this ⊢; omega) (by have := HQ.out; simp at this ⊢; omega) ?_))
              intro v8 w8 hr8 hk8 _
              have I8 := Lib.hid (show ItsAt w3.heap.size w8 v8 (nx ++ [y]) from by unfold ItsAt; rw [List.map_append]; exact hr8)
              have B8 := Lib.hid (HB2.out.trans (hk8.below (fun x hx => (HI2.out.lt x (mem_ownB.1 hx)).1) hwz))
              have hln : (nx ++ [y]).length ≤ j + 1 := by have := HQ.out; simp at this ⊢; omega
              clear hr8 hk8 HI2 HB2 kpb bd2 bd3 bd4 by0 by1 by2
              go_wp2
              go_roundw
              case rel => exact ⟨j + 1, nx ++ [y], false, rfl, by go_num, by omega, hln, I8.out, B8.out, ND.out, NL.out⟩
              case measure => simp [intOf]; omega
          · have hb1 : decide ((r.id : Int) < (y.id : Int)) = true := decide_eq_true (by omega)
            go_upto_region 14 with fail
            go_cut [62] (fun s62 wx => s62 = .bool true ∧ Hid (ItsAt w3.heap.size wx (.slice a9 q c9) nx) ∧ Hid (Below w3.heap.size w3 wx))
            case first =>
              have NI := Lib.hid (fun n => HI.out.on (show Below wr.heap.size wr (wr.drewN n) from below_draws (Below.refl _ _) n))
              have NB := Lib.hid (fun n => below_draws HBL.out n)
              go_quiet (fail)
              go_wp2
              go_meet
              exact ⟨rfl, NI.out _, NB.out _⟩
            case rest =>
              obtain ⟨rfl, HI2, HB2⟩ := hcut
              clear HI HBL kpa ad2 ad3 ad4 ay0 ay1 ay2
              generalize wc = wz at *
              have hwz := HB2.out.size
              have kpb := Kept.of_below (F := []) HB2.out (Nat.le_refl _)
              have bd2 : wz.cell? ⟨wo.heap.size, 2, none⟩ = some (.int .u32 (r.id : Int)) := (kpb.cell (p := ⟨wo.heap.size, 2, none⟩) hs3 (by simp)).trans (BX.out.cell 2)
              have bd3 : wz.cell? ⟨wo.heap.size, 3, none⟩ = some (.slice r.pv.1 r.pv.2.1 r.pv.2.2) := (kpb.cell (p := ⟨wo.heap.size, 3, none⟩) hs3 (by simp)).trans (BX.out.cell 3)
              have bd4 : wz.cell? ⟨wo.heap.size, 4, none⟩ = some (.slice r.pt.1 r.pt.2.1 r.pt.2.2) := (kpb.cell (p := ⟨wo.heap.size, 4, none⟩) hs3 (by simp)).trans (BX.out.cell 4)
              have by0 : wz.cell? ⟨g6, j * 3, none⟩ = some (.int .u32 (y.id : Int)) := (kpb.cell (p := ⟨g6, j * 3, none⟩) hg6 (by simp)).trans YC0.out
              have by1 : wz.cell? ⟨g6, j * 3 + 1, none⟩ = some (.slice y.pv.1 y.pv.2.1 y.pv.2.2) := (kpb.cell (p := ⟨g6, j * 3 + 1, none⟩) hg6 (by simp)).trans YC1.out
              have by2 : wz.cell? ⟨g6, j * 3 + 2, none⟩ = some (.slice y.pt.1 y.pt.2.1 y.pt.2.2) := (kpb.cell (p := ⟨g6, j * 3 + 2, none⟩) hg6 (by simp)).trans YC2.out
              go_wp2_with (at_builtin; go_must (refine app_c (k := 3) wz rfl (.tmp 63) (.tmp 66) 54 rfl Try.underlying54 (.agg #[.int .u32 0, .slice none 0 0, .slice none 0 0]) 56 item_info3 rfl (by decide) [.int .u32 (r.id : Int), .slice r.pv.1 r.pv.2.1 r.pv.2.2, .slice r.pt.1 r.pt.2.1 r.pt.2.2] (by rfl) (by rfl) HI2.out rfl (by simp [Value.oneCell']) hwz (by have := HQ.out; simp at this ⊢; omega) (by have := HQ.out; simp at this ⊢; omega) ?_))
              intro v7 w7 hr7 hk7 _
              have I7 := Lib.hid (show ItsAt w3.heap.size w7 v7 (nx ++ [r.it]) from by unfold ItsAt; rw [List.map_append]; exact hr7)
              have B7 := Lib.hid (HB2.out.trans (hk7.below (fun x hx => (HI2.out.lt x (mem_ownB.1 hx)).1) hwz))
              have hw7 := B7.out.size
              obtain ⟨a7, c7, rfl, h7⟩ := I7.out.form
              obtain ⟨q7, hq7⟩ : ∃ q7, (nx ++ [r.it]).length = q7 := ⟨_, rfl⟩
              have HQ7 := Lib.hid hq7
              rw [hq7] at I7 h7 ⊢
              clear hr7 hk7 HI2 HB2 kpb bd2 bd3 bd4 by0 by1 by2
              have hql : q7 ≤ j + 2 := by have := HQ.out; simp at hq7; omega
              clear hq7
              have kpc := Kept.of_below (F := []) B7.out (Nat.le_refl _)
              have cd2 : w7.cell? ⟨wo.heap.size, 2, none⟩ = some (.int .u32 (r.id : Int)) := (kpc.cell (p := ⟨wo.heap.size, 2, none⟩) hs3 (by simp)).trans (BX.out.cell 2)
              have cd3 : w7.cell? ⟨wo.heap.size, 3, none⟩ = some (.slice r.pv.1 r.pv.2.1 r.pv.2.2) := (kpc.cell (p := ⟨wo.heap.size, 3, none⟩) hs3 (by simp)).trans (BX.out.cell 3)
              have cd4 : w7.cell? ⟨wo.heap.size, 4, none⟩ = some (.slice r.pt.1 r.pt.2.1 r.pt.2.2) := (kpc.cell (p := ⟨wo.heap.size, 4, none⟩) hs3 (by simp)).trans (BX.out.cell 4)
              have cy0 : w7.cell? ⟨g6, j * 3, none⟩ = some (.int .u32 (y.id : Int)) := (kpc.cell (p := ⟨g6, j * 3, none⟩) hg6 (by simp)).trans YC0.out
              have cy1 : w7.cell? ⟨g6, j * 3 + 1, none⟩ = some (.slice y.pv.1 y.pv.2.1 y.pv.2.2) := (kpc.cell (p := ⟨g6, j * 3 + 1, none⟩) hg6 (by simp)).trans YC1.out
              have cy2 : w7.cell? ⟨g6, j * 3 + 2, none⟩ = some (.slice y.pt.1 y.pt.2.1 y.pt.2.2) := (kpc.cell (p := ⟨g6, j * 3 + 2, none⟩) hg6 (by simp)).trans YC2.out
              have ND := Lib.hid (show true = anyG ItL.id r.it (xs.take (j + 1)) from by rw [TK.out, anyG_snoc, ← HD.out, Bool.false_or]; exact (decide_eq_true hlt2).symm)
              have NL := Lib.hid (show nx ++ [r.it] ++ [y] = insS ItL.id r.it (xs.take (j + 1)) from by rw [TK.out, insS_new _ _ _ _ HD.out.symm hlt2, ← HNX.out])
              go_wp2_with (at_builtin; go_must (refine app_c (k := 3) w7 rfl (.tmp 68) (.tmp 73) 54 rfl Try.underlying54 (.agg #[.int .u32 0, .slice none 0 0, .slice none 0 0]) 56 item_info3 rfl (by decide) [.int .u32 (y.id : Int), .slice y.pv.1 y.pv.2.1 y.pv.2.2, .slice y.pt.1 y.pt.2.1 y.pt.2.2] (by rfl) (by rfl) I7.out rfl (by simp [Value.oneCell']) hw7 (by have := HQ7.out; simp at this ⊢; omega) (by have := HQ7.out; simp at this ⊢; omega) ?_))
              intro v8 w8 hr8 hk8 _
              have I8 := Lib.hid (show ItsAt w3.heap.size w8 v8 (nx ++ [r.it] ++ [y]) from by
                unfold ItsAt
                have e : (nx ++ [r.it] ++ [y]).map ItL.cells = List.map ItL.cells nx ++ [r.it.cells, y.cells] := by simp
                rw [e]
                first | exact hr8 | (have h8 := hr8; simp only [List.map_append, List.map_cons, List.map_nil, List.append_assoc, List.cons_append, List.nil_append] at h8; exact h8))
              have B8 := Lib.hid (B7.out.trans (hk8.below (fun x hx => (I7.out.lt x (mem_ownB.1 hx)).1) hw7))
              have hln : (nx ++ [r.it] ++ [y]).length ≤ j + 1 + 1 := by have := HQ.out; simp at this ⊢; omega
              clear hr8 hk8 I7 B7 kpc cd2 cd3 cd4 cy0 cy1 cy2
              go_wp2
              go_roundw
              case rel => exact ⟨j + 1, nx ++ [r.it] ++ [y], true, rfl, by go_num, by omega, hln, I8.out, B8.out, ND.out, NL.out⟩
              case measure => simp [intOf]; omega
        · have hjm' : j = m := by omega
          subst hjm'
          have TA := Lib.hid (show xs.take j = xs from List.take_of_length_le (by rw [HM.out]; exact Nat.le_refl _))
          rw [TA.out] at HD HNX
          have kpa := Kept.of_below (F := []) HBL.out (Nat.le_refl _)
          have ad2 : wr.cell? ⟨wo.heap.size, 2, none⟩ = some (.int .u32 (r.id : Int)) := (kpa.cell (p := ⟨wo.heap.size, 2, none⟩) hs3 (by simp)).trans (BX.out.cell 2)
          have ad3 : wr.cell? ⟨wo.heap.size, 3, none⟩ = some (.slice r.pv.1 r.pv.2.1 r.pv.2.2) := (kpa.cell (p := ⟨wo.heap.size, 3, none⟩) hs3 (by simp)).trans (BX.out.cell 3)
          have ad4 : wr.cell? ⟨wo.heap.size, 4, none⟩ = some (.slice r.pt.1 r.pt.2.1 r.pt.2.2) := (kpa.cell (p := ⟨wo.heap.size, 4, none⟩) hs3 (by simp)).trans (BX.out.cell 4)
          have hnl1 : q ≤ j + 1 := by cases dn <;> simp at hnl <;> omega
          have hw3 : w.heap.size ≤ w3.heap.size := by omega
          cases dn
          · have NL := Lib.hid (show nx ++ [r.it] = insG ItL.id r.it xs from by rw [insS_end, ← HD.out, ← HNX.out]; rfl)
            go_wp2_with (at_builtin; go_must (refine app_c (k := 3) wr rfl (.tmp 77) (.tmp 80) 54 rfl Try.underlying54 (.agg #[.int .u32 0, .slice none 0 0, .slice none 0 0]) 56 item_info3 rfl (by decide) [.int .u32 (r.id : Int), .slice r.pv.1 r.pv.2.1 r.pv.2.2, .slice r.pt.1 r.pt.2.1 r.pt.2.2] (by rfl) (by rfl) HI.out rfl (by simp [Value.oneCell']) hwr (by have := HQ.out; simp at this ⊢; omega) (by have := HQ.out; simp at this ⊢; omega) ?_))
            intro v8 w8 hr8 hk8 _
            have I8 := Lib.hid (show ItsAt w3.heap.size w8 v8 (nx ++ [r.it]) from by unfold ItsAt; rw [List.map_append]; exact hr8)
            have B8 := Lib.hid (HBL.out.trans (hk8.below (fun x hx => (HI.out.lt x (mem_ownB.1 hx)).1) hwr))
            have NS := Lib.hid (HS.out.next RI.out NX1.out hw3 I8.out (B3.out.trans (B8.out.mono hw3)) NL.out)
            clear hr8 hk8 I8 B8 HI HBL kpa ad2 ad3 ad4
            go_wp2
            go_roundw
            case rel => exact ⟨i + 1, _, by go_num, by omega, NS.out⟩
            case measure => simp [intOf]; omega
          · have NL := Lib.hid (show nx = insG ItL.id r.it xs from by rw [insS_end, ← HD.out, ← HNX.out]; rfl)
            have NS := Lib.hid (HS.out.next RI.out NX1.out hw3 HI.out (B3.out.trans (HBL.out.mono hw3)) NL.out)
            clear HI HBL kpa ad2 ad3 ad4
            go_wp2
            go_roundw
            case rel => exact ⟨i + 1, _, by go_num, by omega, NS.out⟩
            case measure => simp [intOf]; omega
    · obtain rfl : i = n := by omega
      have R := Lib.hid HS.out
      go_wp2
      go_ret2
      exact ⟨R.out.below, _, xs, by rw [G.out]; rfl, R.out.row, fun x hx => (R.out.inn x hx).under (R.out.below.mono HBW.out), by rw [G.out]; exact R.out.told⟩
end Go.Proofs.Ytdmnflncgmnghaa
