/-
  DedupWrong holds: what is refused changes nothing: gaps, numbers that were done, acknowledgements of what was not. For every done, acked, req and ack.
-/
import Derived.Test.YtdgiellnklcioaaRows
import Derived.Test.YtdgiellnklcioaaDdi
import Derived.Test.YtdgiellnklcioaaFr
namespace Go.Proofs.Ytdgiellnklcioaa
open Go.ChangeShapes Go.WideShapes Go.ChangeAt Go.RowKit Go.Maps

/-- What an Ask within the done ones tells, of numbers' answers. -/
theorem ask_nums {D a i : Nat} (h1 : 1 ≤ i) (h2 : i ≤ D) : (i ≤ a → (TV.ask ⟨numsT D, a⟩ i) = (zeroM 0, 3)) ∧ (a < i → (TV.ask ⟨numsT D, a⟩ i).2 = 2 ∧ (TV.ask ⟨numsT D, a⟩ i).1 = (numL i).toM) := by
  refine ⟨fun h => by unfold TV.ask; rw [if_pos h], fun h => ?_⟩
  have hl : (TV.mk (numsT D) a).L.length = D := numsT_len D
  unfold TV.ask
  rw [if_neg (by show ¬ i ≤ a; omega), if_pos (by rw [hl]; exact h2)]
  refine ⟨rfl, ?_⟩
  show (numsT D).getD (i - 1) (zeroM 0) = _
  rw [List.getD_eq_getElem?_getD]
  unfold numsT
  rw [List.getElem?_map, List.getElem?_range (by omega)]
  show (numL (i - 1 + 1)).toM = _
  rw [show i - 1 + 1 = i by omega]
set_option maxRecDepth 100000 in
set_option maxHeartbeats 3200000 in
theorem wrong_walk (done acked req ack : Nat) (ha8 : acked < 256) (hreq : req < 4294967296) (hack : ack < 4294967296) (w : World) : Calls Try.prog 6 #[.int .u8 (done : Int), .int .u8 (acked : Int), .int .u32 (req : Int), .int .u32 (ack : Int)] w fun e w' => e = .returned (.bool true) ∧ Below w.heap.size w w' := by
  obtain ⟨Z, hZ⟩ : ∃ Z, (zeroL 0).cells.toArray = Z := ⟨_, rfl⟩
  have hz := msg_zero
  rw [hZ] at hz
  have hb1 := msg_ne hZ
  have hb4 := msg_28 hZ
  have HZ := Lib.hid hZ
  clear hZ
  have HRQ := Lib.hid hreq
  have HAK := Lib.hid hack
  clear hreq hack
  go_enter Try.func6, Try.ntmps6
  go_wp2_with (fail)
  refine (alive16 w).mono ?_
  rintro e w1 ⟨rfl, hb⟩
  have B1 := Lib.hid hb
  clear hb
  go_wp2_with (fail)
  refine (a_new w w1 B1.out).mono ?_
  rintro e w2 ⟨x, rfl, h2, -⟩
  have H2 := Lib.hid h2
  clear h2 B1
  obtain ⟨D, hD⟩ : ∃ D, done % 16 = D := ⟨_, rfl⟩
  have hDt : Int.tmod (done : Int) 16 = (D : Int) := by rw [← hD]; exact (Int.ofNat_tmod done 16).symm
  have hD16 : D < 16 := by omega
  have hDw : IntKind.u32.wrap (D : Int) = (D : Int) := by rw [IntKind.wrap_u32]; omega
  clear hD
  go_wp2_with (fail)
  go_loopw [11] (fun s11 wr => ∃ i : Nat, s11 = .int .u32 (i : Int) ∧ 1 ≤ i ∧ i ≤ D + 1 ∧ Hid (At16 w [] x ⟨numsT (i - 1), 0⟩ wr)) (fun s11 _ => D + 1 - (intOf s11).toNat)
  case atStart => exact ⟨1, rfl, by omega, by omega, H2.out⟩
  case round =>
    obtain ⟨i, rfl, hi1, hi, HI⟩ := hrel
    clear H2
    by_cases hin : i ≤ D
    · have hin' : decide (i ≤ D) = true := decide_eq_true hin
      obtain ⟨i1, hi2⟩ : ∃ i1, i + 1 = i1 := ⟨_, rfl⟩
      have hw : IntKind.u32.wrap ((i : Int) + 1) = (i1 : Int) := by rw [IntKind.wrap_u32]; omega
      obtain ⟨MI, hMI⟩ : ∃ M, (numL i).cells.toArray = M := ⟨_, rfl⟩
      have hb5 : Z.setIfInBounds 21 (.int .u32 (i : Int)) = MI := by rw [← HZ.out, ← hMI]; rfl
      have HMI := Lib.hid hMI
      have NX := Lib.hid (show (TV.mk (numsT (i - 1)) 0).keep i (numL i).toM = (0, ⟨numsT (i1 - 1), 0⟩) from by
        have e1 : numsT (i1 - 1) = numsT (i - 1) ++ [(numL i).toM] := by
          rw [show i1 - 1 = (i - 1) + 1 by omega, numsT_succ, show i - 1 + 1 = i by omega]
        have e2 : (TV.mk (numsT (i - 1)) 0).L.length = i - 1 := numsT_len _
        rw [keep_ok (by rw [e2]; omega) (by rw [e2]; omega) (by rw [e2]; show i - 1 - 0 < 16; omega), e1])
      have CK := Lib.hid (a_keep HI.out i (by omega) (numL i) (numL_in (by omega)))
      have HB := Lib.hid (show 1 ≤ i1 ∧ i1 ≤ D + 1 ∧ i1 = i + 1 by omega)
      clear hMI HI hi2
      go_wp2_with (fail)
      rw [← HMI.out]
      refine CK.out.mono ?_
      rintro e w3 ⟨rfl, h3, -⟩
      rw [NX.out] at h3 ⊢
      have H3 := Lib.hid h3
      clear h3 CK NX hb5
      go_wp2
      go_roundw
      case rel => exact ⟨i1, by go_num, HB.out.1, HB.out.2.1, H3.out⟩
      case measure => have := HB.out; simp [intOf]; omega
    · have hin' : decide (i ≤ D) = false := decide_eq_false hin
      have H3 := Lib.hid (show At16 w [] x ⟨numsT D, 0⟩ wr from by have := HI.out; rw [show i - 1 = D by omega] at this; exact this)
      clear HI hi1 hi hin
      obtain ⟨D1, hD1⟩ : ∃ D1, D + 1 = D1 := ⟨_, rfl⟩
      have hDw1 : IntKind.u32.wrap ((D : Int) + 1) = (D1 : Int) := by rw [IntKind.wrap_u32]; omega
      obtain ⟨a, ha⟩ : ∃ a, acked % D1 = a := ⟨_, rfl⟩
      have hat : Int.tmod (acked : Int) (D1 : Int) = (a : Int) := by rw [← ha]; exact (Int.ofNat_tmod acked D1).symm
      have haD : a ≤ D := by have := Nat.mod_lt acked (show 0 < D1 by omega); omega
      have hawr : IntKind.u32.wrap (acked : Int) = (acked : Int) := by rw [IntKind.wrap_u32]; omega
      have hD1p : ¬ D1 = 0 := by omega
      have HD1 := Lib.hid hD1
      have HAD := Lib.hid haD
      have H16 := Lib.hid hD16
      have CA := Lib.hid (a_ack H3.out a)
      have NA := Lib.hid (ack_from0 (numsT D) a (by rw [numsT_len]; exact haD))
      clear H3 hD1 ha haD hD16
      go_wp2_with (fail)
      refine CA.out.mono ?_
      rintro e w4 ⟨rfl, h4, -⟩
      rw [NA.out] at h4 ⊢
      have H4 := Lib.hid h4
      clear h4 CA NA
      obtain ⟨M9, hM9⟩ : ∃ M, (numL 99).cells.toArray = M := ⟨_, rfl⟩
      have hb9 : Z.setIfInBounds 21 (.int .u32 99) = M9 := by rw [← HZ.out, ← hM9]; rfl
      have HM9 := Lib.hid hM9
      have CK := Lib.hid (a_keep H4.out req HRQ.out (numL 99) (numL_in (by decide)))
      have HLN := Lib.hid (numsT_len D)
      clear hM9 hat hawr
      go_wp2_with (fail)
      rw [← HM9.out]
      refine CK.out.mono ?_
      clear CK
      by_cases hr1 : req = D1
      · have NX := Lib.hid (show (TV.mk (numsT D) a).keep req (numL 99).toM = (0, ⟨numsT D ++ [(numL 99).toM], a⟩) from keep_ok (by show req = (numsT D).length + 1; rw [HLN.out]; have := HD1.out; omega) (by show (numsT D).length < _; rw [HLN.out]; have := H16.out; omega) (by show (numsT D).length - a < 16; rw [HLN.out]; have := H16.out; omega))
        have hq : ((req : Int) != (D1 : Int)) = false := by simp; omega
        have hq2 : ((req : Int) == (D1 : Int)) = true := by rw [beq_iff_eq]; omega
        rintro e w5 ⟨rfl, h5, -⟩
        rw [NX.out] at h5 ⊢
        have CD := Lib.hid (a_done h5)
        have HLD := Lib.hid (show (TV.mk (numsT D ++ [(numL 99).toM]) a).L.length = D1 from by show (numsT D ++ [(numL 99).toM]).length = D1; rw [List.length_append, HLN.out]; exact HD1.out)
        have B5 := Lib.hid h5.2
        clear h5 NX hr1 H4
        go_wp2_with (fail)
        refine CD.out.mono ?_
        rintro e w6 ⟨rfl, rfl⟩
        rw [HLD.out]
        clear CD HLD
        go_wp2
        go_ret
        exact ⟨rfl, B5.out⟩
      · have NX := Lib.hid (show (TV.mk (numsT D) a).keep req (numL 99).toM = (1, ⟨numsT D, a⟩) from keep_arg (by show req ≠ (numsT D).length + 1; rw [HLN.out]; have := HD1.out; omega))
        have hq : ((req : Int) != (D1 : Int)) = true := by simp; omega
        have hq2 : ((req : Int) == (D1 : Int)) = false := by rw [beq_eq_false_iff_ne]; omega
        rintro e w5 ⟨rfl, h5, -⟩
        rw [NX.out] at h5 ⊢
        have H5 := Lib.hid h5
        clear h5 NX hr1 H4
        by_cases hk : D < ack
        · have hk' : decide (D < ack) = true := decide_eq_true hk
          have NA := Lib.hid (show (TV.mk (numsT D) a).ack ack = (1, ⟨numsT D, a⟩) from ack_arg (by show (numsT D).length < ack; rw [HLN.out]; exact hk))
          have CA := Lib.hid (a_ack H5.out ack)
          clear hk H5
          go_wp2_with (fail)
          refine CA.out.mono ?_
          rintro e w6 ⟨rfl, h6, -⟩
          rw [NA.out] at h6 ⊢
          have H5 := Lib.hid h6
          clear h6 CA NA
          go_wp2_with (fail)
          go_loopw [14] (fun s14 wr => ∃ i : Nat, s14 = .int .u32 (i : Int) ∧ 1 ≤ i ∧ i ≤ D + 1 ∧ Hid (At16 w [] x ⟨numsT D, a⟩ wr)) (fun s14 _ => D + 1 - (intOf s14).toNat)
          case atStart => exact ⟨1, rfl, by omega, by omega, H5.out⟩
          case round =>
            clear H5
            obtain ⟨i, rfl, hi1, hi, HI⟩ := hrel
            by_cases hin : i ≤ D
            · have hin' : decide (i ≤ D) = true := decide_eq_true hin
              obtain ⟨i1, hi2⟩ : ∃ i1, i + 1 = i1 := ⟨_, rfl⟩
              have hw : IntKind.u32.wrap ((i : Int) + 1) = (i1 : Int) := by rw [IntKind.wrap_u32]; have := H16.out; omega
              have CK := Lib.hid (a_ask HI.out i (by have := H16.out; omega))
              have HB := Lib.hid (show 1 ≤ i1 ∧ i1 ≤ D + 1 ∧ i1 = i + 1 by omega)
              have AN := Lib.hid (ask_nums (D := D) (a := a) hi1 hin)
              have HI1 := Lib.hid (And.intro hi1 hin)
              clear hi2 hi hi1 hin
              go_wp2_with (fail)
              refine CK.out.mono ?_
              rintro e w7 ⟨y, rfl, hb, -, hto⟩
              obtain ⟨Y, hY⟩ : ∃ Y, y.cells.toArray = Y := ⟨_, rfl⟩
              have hst := msg_store_new w7 Z y hb4
              rw [hY] at hst ⊢
              have hYn := msg_ne hY
              have hYs := msg_28 hY
              obtain ⟨w8, hw8⟩ : ∃ W, w7.alloc (.cells Y 45) = W := ⟨_, rfl⟩
              rw [hw8] at hst
              have hb' : Below wr.heap.size wr w8 := by rw [← hw8]; exact hb.alloc hb.size _
              have H8 := Lib.hid (HI.out.on hb')
              have HA := Lib.hid (show Blk w8 w7.heap.size 45 y.cells from by rw [← hw8, ← hY]; exact Blk.new w7 45 y.cells.toArray)
              have HTO := Lib.hid hto
              clear hto hY hb hb' CK HI
              by_cases hia : i ≤ a
              · have hia' : decide (i ≤ a) = true := decide_eq_true hia
                have hia2 : decide (a < i) = false := decide_eq_false (by omega)
                rw [show (TV.ask ⟨numsT D, a⟩ i).2 = 3 from by rw [AN.out.1 hia]]
                clear hia AN HTO HA
                go_wp2_with (fail)
                try clear hst hw8 hYn hYs
                go_wp2
                go_roundw
                case rel => exact ⟨i1, by go_num, HB.out.1, HB.out.2.1, H8.out⟩
                case measure => have := HB.out; simp [intOf]; omega
              · have hia' : decide (i ≤ a) = false := decide_eq_false hia
                have hia2 : decide (a < i) = true := decide_eq_true (by omega)
                rw [show (TV.ask ⟨numsT D, a⟩ i).2 = 2 from (AN.out.2 (by omega)).1]
                have ca : w8.cell? ⟨w7.heap.size, 21, none⟩ = some (.int .u32 (i : Int)) := by
                  have h1 : w8.cell? ⟨w7.heap.size, 21, none⟩ = some (.int .u32 (y.num : Int)) := HA.out.cell 21
                  have h2 : y.num = i := (show y.toM.num = (numL i).toM.num from by rw [HTO.out, (AN.out.2 (by omega)).2])
                  rw [h2] at h1
                  exact h1
                clear hia AN HTO HA
                go_wp2_with (fail)
                try clear hst hw8 hYn hYs
                go_wp2
                go_roundw
                case rel => exact ⟨i1, by go_num, HB.out.1, HB.out.2.1, H8.out⟩
                case measure => have := HB.out; simp [intOf]; omega
            · have hin' : decide (i ≤ D) = false := decide_eq_false hin
              have B9 := Lib.hid HI.out.2
              have CD := Lib.hid (a_done HI.out)
              have CA := Lib.hid (a_acked HI.out)
              clear HI hin hi hi1
              go_wp2_with (fail)
              refine CD.out.mono ?_
              rintro e w7 ⟨rfl, rfl⟩
              rw [show (TV.mk (numsT D) a).L.length = D from HLN.out]
              go_wp2_with (fail)
              refine CA.out.mono ?_
              rintro e w8 ⟨rfl, rfl⟩
              clear CD CA
              go_wp2
              go_ret
              exact ⟨rfl, B9.out⟩
        · have hk' : decide (D < ack) = false := decide_eq_false hk
          clear hk
          go_wp2_with (fail)
          go_loopw [14] (fun s14 wr => ∃ i : Nat, s14 = .int .u32 (i : Int) ∧ 1 ≤ i ∧ i ≤ D + 1 ∧ Hid (At16 w [] x ⟨numsT D, a⟩ wr)) (fun s14 _ => D + 1 - (intOf s14).toNat)
          case atStart => exact ⟨1, rfl, by omega, by omega, H5.out⟩
          case round =>
            clear H5
            obtain ⟨i, rfl, hi1, hi, HI⟩ := hrel
            by_cases hin : i ≤ D
            · have hin' : decide (i ≤ D) = true := decide_eq_true hin
              obtain ⟨i1, hi2⟩ : ∃ i1, i + 1 = i1 := ⟨_, rfl⟩
              have hw : IntKind.u32.wrap ((i : Int) + 1) = (i1 : Int) := by rw [IntKind.wrap_u32]; have := H16.out; omega
              have CK := Lib.hid (a_ask HI.out i (by have := H16.out; omega))
              have HB := Lib.hid (show 1 ≤ i1 ∧ i1 ≤ D + 1 ∧ i1 = i + 1 by omega)
              have AN := Lib.hid (ask_nums (D := D) (a := a) hi1 hin)
              have HI1 := Lib.hid (And.intro hi1 hin)
              clear hi2 hi hi1 hin
              go_wp2_with (fail)
              refine CK.out.mono ?_
              rintro e w7 ⟨y, rfl, hb, -, hto⟩
              obtain ⟨Y, hY⟩ : ∃ Y, y.cells.toArray = Y := ⟨_, rfl⟩
              have hst := msg_store_new w7 Z y hb4
              rw [hY] at hst ⊢
              have hYn := msg_ne hY
              have hYs := msg_28 hY
              obtain ⟨w8, hw8⟩ : ∃ W, w7.alloc (.cells Y 45) = W := ⟨_, rfl⟩
              rw [hw8] at hst
              have hb' : Below wr.heap.size wr w8 := by rw [← hw8]; exact hb.alloc hb.size _
              have H8 := Lib.hid (HI.out.on hb')
              have HA := Lib.hid (show Blk w8 w7.heap.size 45 y.cells from by rw [← hw8, ← hY]; exact Blk.new w7 45 y.cells.toArray)
              have HTO := Lib.hid hto
              clear hto hY hb hb' CK HI
              by_cases hia : i ≤ a
              · have hia' : decide (i ≤ a) = true := decide_eq_true hia
                have hia2 : decide (a < i) = false := decide_eq_false (by omega)
                rw [show (TV.ask ⟨numsT D, a⟩ i).2 = 3 from by rw [AN.out.1 hia]]
                clear hia AN HTO HA
                go_wp2_with (fail)
                try clear hst hw8 hYn hYs
                go_wp2
                go_roundw
                case rel => exact ⟨i1, by go_num, HB.out.1, HB.out.2.1, H8.out⟩
                case measure => have := HB.out; simp [intOf]; omega
              · have hia' : decide (i ≤ a) = false := decide_eq_false hia
                have hia2 : decide (a < i) = true := decide_eq_true (by omega)
                rw [show (TV.ask ⟨numsT D, a⟩ i).2 = 2 from (AN.out.2 (by omega)).1]
                have ca : w8.cell? ⟨w7.heap.size, 21, none⟩ = some (.int .u32 (i : Int)) := by
                  have h1 : w8.cell? ⟨w7.heap.size, 21, none⟩ = some (.int .u32 (y.num : Int)) := HA.out.cell 21
                  have h2 : y.num = i := (show y.toM.num = (numL i).toM.num from by rw [HTO.out, (AN.out.2 (by omega)).2])
                  rw [h2] at h1
                  exact h1
                clear hia AN HTO HA
                go_wp2_with (fail)
                try clear hst hw8 hYn hYs
                go_wp2
                go_roundw
                case rel => exact ⟨i1, by go_num, HB.out.1, HB.out.2.1, H8.out⟩
                case measure => have := HB.out; simp [intOf]; omega
            · have hin' : decide (i ≤ D) = false := decide_eq_false hin
              have B9 := Lib.hid HI.out.2
              have CD := Lib.hid (a_done HI.out)
              have CA := Lib.hid (a_acked HI.out)
              clear HI hin hi hi1
              go_wp2_with (fail)
              refine CD.out.mono ?_
              rintro e w7 ⟨rfl, rfl⟩
              rw [show (TV.mk (numsT D) a).L.length = D from HLN.out]
              go_wp2_with (fail)
              refine CA.out.mono ?_
              rintro e w8 ⟨rfl, rfl⟩
              clear CD CA
              go_wp2
              go_ret
              exact ⟨rfl, B9.out⟩
theorem wrong_row : Rows.DedupWrongSaid :=
  OpenClaim.holds_of_wide 6 Try.f6 rfl rfl rfl rfl rfl rfl rfl ⟨rfl, rfl, rfl, rfl, rfl⟩ rfl rfl rfl rfl rfl (by kernel_rfl) Try.func6 (by kernel_rfl)
    (of_decide_eq_true (by kernel_rfl)) (by unfold Func.isWrapper; rw [if_neg (of_decide_eq_false (by kernel_rfl))]; exact ⟨rfl, rfl⟩)
    (fun os started H enc _ => lift (C := Try.checked) (s := Rows.dedupWrongSpec) (conds := Rows.dedupWrongRow.domain) os started H enc prog_own (by kernel_rfl) Try.func6 prog_laid rfl Try.underlying4 rfl
      (fun ds hl => by
        have hl : ds.length = 4 := hl
        match ds, hl with
        | [_, _, _, _], _ => rfl)
      (of_decide_eq_true (by kernel_rfl))
      (ChangeSpec.witness6 (enc := enc) (C := Try.checked) false ⟨#[], #[.int .u8 0, .int .u8 0, .int .u32 0, .int .u32 0], []⟩ 8 (by kernel_rfl) (by kernel_rfl) (by kernel_rfl) (by kernel_rfl))
      (fun W base args ds p g => by
        rw [Try.params6] at g
        obtain ⟨done, e0, _⟩ := g.u8 0 rfl Try.underlying5
        obtain ⟨acked, e1, ha⟩ := g.u8 1 rfl Try.underlying5
        obtain ⟨req, e2, hr⟩ := g.u32 2 rfl Try.underlying30
        obtain ⟨ack, e3, hk⟩ := g.u32 3 rfl Try.underlying30
        rw [args4 g.count e0 e1 e2 e3]
        exact wrong_walk done acked req ack ha hr hk W))
end Go.Proofs.Ytdgiellnklcioaa
