/-
  DedupFull holds: just so many answers are kept; as soon as one is acknowledged there is room for one. For every more and acks.
-/
import Derived.Test.YtdgiellnklcioaaRows
import Derived.Test.YtdgiellnklcioaaDdi
import Derived.Test.YtdgiellnklcioaaFr
namespace Go.Proofs.Ytdgiellnklcioaa
open Go.ChangeShapes Go.WideShapes Go.ChangeAt Go.RowKit Go.Maps

set_option maxRecDepth 100000 in
set_option maxHeartbeats 3200000 in
theorem full_walk (more acks : Nat) (w : World) : Calls Try.prog 5 #[.int .u8 (more : Int), .int .u8 (acks : Int)] w fun e w' => e = .returned (.bool true) ∧ Below w.heap.size w w' := by
  obtain ⟨Z, hZ⟩ : ∃ Z, (zeroL 0).cells.toArray = Z := ⟨_, rfl⟩
  have hz := msg_zero
  rw [hZ] at hz
  have hb1 := msg_ne hZ
  have hb4 := msg_28 hZ
  have HZ := Lib.hid hZ
  clear hZ
  go_enter Try.func5, Try.ntmps5
  go_wp2_with (fail)
  refine (alive16 w).mono ?_
  rintro e w1 ⟨rfl, hb⟩
  have B1 := Lib.hid hb
  clear hb
  go_wp2_with (fail)
  refine (a_new w w1 B1.out).mono ?_
  rintro e w2 ⟨x, rfl, h2, -⟩
  have H2 := Lib.hid h2
  clear h2
  go_wp2_with (fail)
  go_loopw [6] (fun s6 wr => ∃ i : Nat, s6 = .int .u32 (i : Int) ∧ 1 ≤ i ∧ i ≤ 17 ∧ Hid (At16 w [] x ⟨numsT (i - 1), 0⟩ wr)) (fun s6 _ => 17 - (intOf s6).toNat)
  case atStart => exact ⟨1, rfl, by omega, by omega, H2.out⟩
  case round =>
    obtain ⟨i, rfl, hi1, hi, HI⟩ := hrel
    clear H2
    by_cases hin : i ≤ 16
    · have hin' : decide ((i : Int) ≤ 16) = true := decide_eq_true (by omega)
      obtain ⟨i1, hi2⟩ : ∃ i1, i + 1 = i1 := ⟨_, rfl⟩
      have hw : IntKind.u32.wrap ((i : Int) + 1) = (i1 : Int) := by rw [IntKind.wrap_u32]; omega
      obtain ⟨MI, hMI⟩ : ∃ M, (numL i).cells.toArray = M := ⟨_, rfl⟩
      have hb5 : Z.setIfInBounds 21 (.int .u32 (i : Int)) = MI := by rw [← HZ.out, ← hMI]; rfl
      have HMI := Lib.hid hMI
      have NX := Lib.hid (show (TV.mk (numsT (i - 1)) 0).keep i (numL i).toM = (0, ⟨numsT (i1 - 1), 0⟩) from by
        have e1 : numsT (i1 - 1) = numsT (i - 1) ++ [(numL i).toM] := by
          rw [show i1 - 1 = (i - 1) + 1 by omega, numsT_succ, show i - 1 + 1 = i by omega]
        have e2 : (TV.mk (numsT (i - 1)) 0).L.length = i - 1 := numsT_len _
        rw [keep_ok (by rw [e2]; omega) (by rw [e2]; omega) (by rw [e2]; show i - 1 - 0 < 16; omega), e1])
      have CK := Lib.hid (a_keep HI.out i (by omega) (numL i) (numL_in (by omega)))
      have HB := Lib.hid (show 1 ≤ i1 ∧ i1 ≤ 17 ∧ i1 = i + 1 by omega)
      clear hMI HI hi2
      go_wp2_with (fail)
      rw [← HMI.out]
      refine CK.out.mono ?_
      rintro e w3 ⟨rfl, h3, -⟩
      rw [NX.out] at h3 ⊢
      have H3 := Lib.hid h3
      clear h3 CK NX hb5
      go_wp2
      go_roundw
      case rel => exact ⟨i1, by go_num, HB.out.1, HB.out.2.1, H3.out⟩
      case measure => have := HB.out; simp [intOf]; omega
    · have hin' : decide ((i : Int) ≤ 16) = false := decide_eq_false (by omega)
      have HI17 := Lib.hid (show i = 17 by omega)
      obtain ⟨L, hL⟩ : ∃ L, numsT 16 = L := ⟨_, rfl⟩
      have hLn : L.length = 16 := by rw [← hL, numsT_len]
      have H3 := Lib.hid (show At16 w [] x ⟨L, 0⟩ wr from by have := HI.out; rw [HI17.out, show 17 - 1 = 16 from rfl, hL] at this; exact this)
      have HL := Lib.hid hLn
      clear hL hLn
      clear HI hi1 hi hin
      go_wp2_with (fail)
      clear B1
      obtain ⟨r, hr⟩ : ∃ r, more % 4 = r := ⟨_, rfl⟩
      have hrt : Int.tmod (more : Int) 4 = (r : Int) := by rw [← hr]; exact (Int.ofNat_tmod more 4).symm
      have hr4 : r < 4 := by omega
      have hrw : wrap64 (r : Int) = (r : Int) := by unfold wrap64; omega
      have HR := Lib.hid hr
      clear hr hin'
      go_loopw [7] (fun s7 wr => ∃ j : Nat, s7 = .int .i64 (j : Int) ∧ j ≤ r ∧ Hid (At16 w [] x ⟨L, 0⟩ wr)) (fun s7 _ => r - (intOf s7).toNat)
      case atStart => exact ⟨0, rfl, by omega, H3.out⟩
      case round =>
        clear H3
        obtain ⟨j, rfl, hj, HJ⟩ := hrel
        by_cases hjr : j < r
        · have NX := Lib.hid (show (TV.mk (L) 0).keep 17 (zeroL 0).toM = (4, ⟨L, 0⟩) from keep_full (by show 17 = L.length + 1; rw [HL.out]) (by show L.length < _; rw [HL.out]; decide) (by show 16 ≤ L.length - 0; rw [HL.out]; decide))
          have CK := Lib.hid (a_keep HJ.out 17 (by decide) (zeroL 0) zeroL_any)
          clear HJ
          go_wp2_with (fail)
          rw [← HZ.out]
          refine CK.out.mono ?_
          rintro e w4 ⟨rfl, h4, -⟩
          rw [NX.out] at h4 ⊢
          have H4 := Lib.hid h4
          clear h4 CK NX
          go_wp2
          go_roundw
          case rel => exact ⟨j + 1, by go_num, by omega, H4.out⟩
          case measure => simp [intOf]; omega
        · obtain rfl : j = r := by omega
          clear hjr hj
          obtain ⟨n, hn⟩ : ∃ n, acks % 17 = n := ⟨_, rfl⟩
          have hnt : Int.tmod (acks : Int) 17 = (n : Int) := by rw [← hn]; exact (Int.ofNat_tmod acks 17).symm
          have hn17 : n < 17 := by omega
          have hnw : IntKind.u32.wrap (n : Int) = (n : Int) := by rw [IntKind.wrap_u32]; omega
          have hnw2 : wrap64 (n : Int) = (n : Int) := by unfold wrap64; omega
          have NA := Lib.hid (ack_from0 L n (by rw [HL.out]; exact Nat.le_of_lt_succ hn17))
          have CA := Lib.hid (a_ack HJ.out n)
          clear hn HJ
          go_wp2_with (fail)
          refine CA.out.mono ?_
          rintro e w5 ⟨rfl, h5, -⟩
          rw [NA.out] at h5 ⊢
          have H5 := Lib.hid h5
          have CL := Lib.hid (a_len h5)
          clear h5 CA NA
          go_wp2_with (fail)
          refine CL.out.mono ?_
          rintro e w6 ⟨rfl, rfl⟩
          have hk2 : wrap64 (16 - (n : Int)) = 16 - (n : Int) := by unfold wrap64; omega
          rw [show (((TV.mk L n).L.length - (TV.mk L n).acked : Nat) : Int) = 16 - (n : Int) from by show ((L.length - n : Nat) : Int) = _; rw [HL.out]; omega]
          clear CL
          go_wp2_with (fail)
          clear hk2
          go_loopw [9] (fun s9 wr => ∃ (i : Nat) (L' : List MsgV), s9 = .int .u32 (i : Int) ∧ i ≤ n ∧ Hid (L'.length = 16 + i) ∧ Hid (At16 w [] x ⟨L', n⟩ wr)) (fun s9 _ => n - (intOf s9).toNat)
          case atStart => exact ⟨0, L, rfl, by omega, HL.out, H5.out⟩
          case round =>
            clear H5
            obtain ⟨i, L', rfl, hi, HL', HI⟩ := hrel
            obtain ⟨q, hq⟩ : ∃ q, 17 + i = q := ⟨_, rfl⟩
            have hqw : IntKind.u32.wrap (17 + (i : Int)) = (q : Int) := by rw [IntKind.wrap_u32]; omega
            have HQ := Lib.hid hq
            clear hq
            by_cases hin : i < n
            · have hin' : decide (i < n) = true := decide_eq_true hin
              obtain ⟨i1, hi1⟩ : ∃ i1, i + 1 = i1 := ⟨_, rfl⟩
              have hw : IntKind.u32.wrap ((i : Int) + 1) = (i1 : Int) := by rw [IntKind.wrap_u32]; omega
              have NX := Lib.hid (show (TV.mk L' n).keep q (zeroL 0).toM = (0, ⟨L' ++ [(zeroL 0).toM], n⟩) from keep_ok (by show q = L'.length + 1; have := HL'.out; have := HQ.out; omega) (by show L'.length < _; have := HL'.out; omega) (by show L'.length - n < 16; have := HL'.out; omega))
              have CK := Lib.hid (a_keep HI.out q (by have := HQ.out; omega) (zeroL 0) zeroL_any)
              have HB := Lib.hid (show i1 = i + 1 ∧ i1 ≤ n ∧ (L' ++ [(zeroL 0).toM]).length = 16 + i1 from ⟨hi1.symm, by omega, by rw [List.length_append, HL'.out]; simp; omega⟩)
              clear HI hi1 HL'
              go_wp2_with (fail)
              rw [← HZ.out]
              refine CK.out.mono ?_
              rintro e w7 ⟨rfl, h7, -⟩
              rw [NX.out] at h7 ⊢
              have H7 := Lib.hid h7
              clear h7 CK NX
              go_wp2
              go_roundw
              case rel => exact ⟨i1, _, by go_num, HB.out.2.1, HB.out.2.2, H7.out⟩
              case measure => have := HB.out; simp [intOf]; omega
            · have hin' : decide (i < n) = false := decide_eq_false hin
              have HIN := Lib.hid (show i = n by omega)
              have NX := Lib.hid (show (TV.mk L' n).keep q (zeroL 0).toM = (4, ⟨L', n⟩) from keep_full (by show q = L'.length + 1; have := HL'.out; have := HQ.out; omega) (by show L'.length < _; have := HL'.out; omega) (by show 16 ≤ L'.length - n; have := HL'.out; have := HIN.out; omega))
              have CK := Lib.hid (a_keep HI.out q (by have := HQ.out; omega) (zeroL 0) zeroL_any)
              have hqn : IntKind.u32.wrap (17 + (n : Int)) = (q : Int) := by rw [← HIN.out]; exact hqw
              obtain ⟨d, hd⟩ : ∃ d, L'.length = d := ⟨_, rfl⟩
              have hdn : IntKind.u32.wrap (16 + (n : Int)) = (d : Int) := by rw [IntKind.wrap_u32]; have := HL'.out; have := HIN.out; omega
              have HD := Lib.hid hd
              clear HI HL' hqw hin hi hd
              go_wp2_with (fail)
              rw [← HZ.out]
              refine CK.out.mono ?_
              rintro e w7 ⟨rfl, h7, -⟩
              rw [NX.out] at h7 ⊢
              have B7 := Lib.hid h7.2
              have CD := Lib.hid (a_done h7)
              have CA := Lib.hid (a_acked h7)
              clear h7 CK NX
              go_wp2_with (fail)
              refine CD.out.mono ?_
              rintro e w8 ⟨rfl, rfl⟩
              rw [show (TV.mk L' n).L.length = d from HD.out]
              go_wp2_with (fail)
              refine CA.out.mono ?_
              rintro e w9 ⟨rfl, rfl⟩
              clear CD CA
              go_wp2
              go_ret
              exact ⟨rfl, B7.out⟩
theorem full_row : Rows.DedupFullSaid :=
  OpenClaim.holds_of_wide 5 Try.f5 rfl rfl rfl rfl rfl rfl rfl ⟨rfl, rfl, rfl, rfl, rfl⟩ rfl rfl rfl rfl rfl (by kernel_rfl) Try.func5 (by kernel_rfl)
    (of_decide_eq_true (by kernel_rfl)) (by unfold Func.isWrapper; rw [if_neg (of_decide_eq_false (by kernel_rfl))]; exact ⟨rfl, rfl⟩)
    (fun os started H enc _ => lift (C := Try.checked) (s := Rows.dedupFullSpec) (conds := Rows.dedupFullRow.domain) os started H enc prog_own (by kernel_rfl) Try.func5 prog_laid rfl Try.underlying4 rfl
      (fun ds hl => by
        have hl : ds.length = 2 := hl
        match ds, hl with
        | [_, _], _ => rfl)
      (of_decide_eq_true (by kernel_rfl))
      (ChangeSpec.witness6 (enc := enc) (C := Try.checked) false ⟨#[], #[.int .u8 0, .int .u8 0], []⟩ 8 (by kernel_rfl) (by kernel_rfl) (by kernel_rfl) (by kernel_rfl))
      (fun W base args ds p g => by
        rw [Try.params5] at g
        obtain ⟨more, e0, _⟩ := g.u8 0 rfl Try.underlying5
        obtain ⟨acks, e1, _⟩ := g.u8 1 rfl Try.underlying5
        rw [args2 g.count e0 e1]
        exact full_walk more acks W))
end Go.Proofs.Ytdgiellnklcioaa
