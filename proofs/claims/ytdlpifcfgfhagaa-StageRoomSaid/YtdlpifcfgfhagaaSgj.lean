/-
  StageRoom holds: there are never more than four uploads, and 4 * 4096 bytes, whatever is brought.
-/
import Derived.Test.YtdlpifcfgfhagaaRows
import Derived.Test.YtdlpifcfgfhagaaSgh
namespace Go.Proofs.Ytdlpifcfgfhagaa
open Go.ChangeShapes Go.WideShapes Go.ChangeAt Go.RowKit

set_option maxRecDepth 100000 in
set_option maxHeartbeats 12800000 in
theorem room_walk (a : Option Addr) (n c : Nat) (xs : List shOp13.T) (w : World) (_hn : n ≤ 140737488351232) (hx : Rd (· < w.heap.size) w shOps13 [.slice a n c] xs) :
    Calls Try.prog 5 #[.slice a n c] w fun e w' => e = .returned (.bool true) ∧ Below w.heap.size w w' := by
  have HX := Lib.hid hx
  clear hx
  go_enter Try.func5, Try.ntmps5
  go_wp2_with (fail)
  refine (alive13 w).mono ?_
  rintro e w1 ⟨rfl, hb1⟩
  go_wp2_with (fail)
  refine (s_new w w1 hb1).mono ?_
  rintro e w2 ⟨x, rfl, h2⟩
  have H2 := Lib.hid h2
  clear hb1 h2
  go_wp2_with (fail)
  go_loopw [4] (fun s4 wr => ∃ (i : Nat) (s : TabV), s4 = .int .i64 (i : Int) ∧ i ≤ 100 ∧ Hid (SAt w i x s wr)) (fun s4 _ => 100 - (intOf s4).toNat)
  case atStart => exact ⟨0, ⟨[], 0⟩, rfl, by omega, H2.out⟩
  case round =>
    clear H2
    obtain ⟨i, s, rfl, hi, HS⟩ := hrel
    have BF := Lib.hid HS.out.below
    by_cases hin : i < n
    rotate_left
    · go_wp2
      go_ret
      exact ⟨rfl, BF.out⟩
    by_cases him : i < 100
    rotate_left
    · have hd1 : decide ((i : Int) < 100) = false := decide_eq_false (by omega)
      go_wp2
      go_ret
      exact ⟨rfl, BF.out⟩
    have hd1 : decide ((i : Int) < 100) = true := decide_eq_true (by omega)
    obtain ⟨b, off, o, ys, rfl, hbl, hk, how, hon, hpg, hbn, OPF⟩ := rd_op13 HX.out i hin
    obtain ⟨hb0, hbr, hcc⟩ := OPF.out _ HS.out.below
    obtain ⟨m0, m1, m2, m3, m4, m5⟩ := op13_cells hcc
    clear hcc OPF
    obtain ⟨kd, ow, nm, on, pg, ba, bn, bc⟩ := o
    simp only at m0 m1 m2 m3 m4 m5 hk how hon hpg hbn hbr
    obtain ⟨W4, hW4⟩ : ∃ W4, wr.alloc (.cells #[.int .u8 (kd : Int), .int .u8 (ow : Int), .string nm, .int .u32 (on : Int), .int .u32 (pg : Int), .slice ba bn bc] 33) = W4 := ⟨_, rfl⟩
    obtain ⟨bo, hob⟩ : ∃ bo, wr.heap.size = bo := ⟨_, rfl⟩
    have hb4 : Below wr.heap.size wr W4 := by rw [← hW4]; exact (Below.refl _ _).alloc (Nat.le_refl _) _
    have O4 := Lib.hid (show Blk W4 bo 33 [.int .u8 (kd : Int), .int .u8 (ow : Int), .string nm, .int .u32 (on : Int), .int .u32 (pg : Int), .slice ba bn bc] from by rw [← hW4, ← hob]; exact Blk.new _ _ _)
    have q0 : W4.cell? ⟨bo, 0, none⟩ = some (.int .u8 (kd : Int)) := O4.out.cell 0
    have q1 : W4.cell? ⟨bo, 1, none⟩ = some (.int .u8 (ow : Int)) := O4.out.cell 1
    have q2 : W4.cell? ⟨bo, 2, none⟩ = some (.string nm) := O4.out.cell 2
    have q3 : W4.cell? ⟨bo, 3, none⟩ = some (.int .u32 (on : Int)) := O4.out.cell 3
    have q4 : W4.cell? ⟨bo, 4, none⟩ = some (.int .u32 (pg : Int)) := O4.out.cell 4
    have q5 : W4.cell? ⟨bo, 5, none⟩ = some (.slice ba bn bc) := O4.out.cell 5
    have H4 := Lib.hid (HS.out.on hb4)
    have R4 := Lib.hid (hbr.on hb4)
    have B4 := Lib.hid H4.out.below
    clear hb4 hbr HS BF O4
    by_cases hlong : 10000 < bn
    · have hlb : (10000 : Int) < (bn : Int) := by omega
      go_wp2_with (first | (rw [hW4]) | fail)
      go_ret
      exact ⟨rfl, B4.out⟩
    have hlb : ¬ (10000 : Int) < (bn : Int) := by omega
    have how64 : IntKind.u64.wrap (ow : Int) = (ow : Int) := by rw [IntKind.wrap_u64]; omega
    by_cases hk2 : kd % 2 = 0
    · have d0 : (kd : Int) % 2 = 0 := by omega
      clear hk2
      go_wp2_with (first | (rw [hW4]) | fail)
      clear hW4 m0 m1 m2 m3 m4 m5
      refine (s_begin H4.out (by omega) ow (by omega) nm).mono ?_
      rintro e w5 hh
      obtain ⟨n5, e5, s5, rfl, h5⟩ : ∃ (n5 : Nat) (e5 : Int) (s5 : TabV), e = .returned (.tuple #[.int .u32 (n5 : Int), .int .i64 e5]) ∧ SAt w (i + 1) x s5 w5 := by
        rcases hh with ⟨-, rfl, h5⟩ | ⟨-, rfl, h5⟩
        · exact ⟨0, 4, _, rfl, h5⟩
        · exact ⟨_, 0, _, rfl, h5⟩
      have H5 := Lib.hid h5
      clear hh h5 H4 q0 q1 q2 q3 q4 q5 R4 B4 hb0
      go_wp2_with (fail)
      obtain ⟨n4, hn4⟩ : ∃ n4, s5.ups.length = n4 := ⟨_, rfl⟩
      have h4 : n4 ≤ 4 := by rw [← hn4]; exact H5.out.few.four
      have h4d : decide ((4 : Int) < (n4 : Int)) = false := decide_eq_false (by omega)
      refine (s_len H5.out).mono ?_
      rw [hn4]
      clear hn4
      rintro e w6 ⟨rfl, rfl⟩
      go_wp2_with (fail)
      obtain ⟨nb, hnb⟩ : ∃ nb, s5.bytes = nb := ⟨_, rfl⟩
      have hb16 : nb ≤ 16384 := by rw [← hnb]; exact H5.out.few.bytes
      have hbd : decide ((16384 : Int) < (nb : Int)) = false := decide_eq_false (by omega)
      refine (s_bytes H5.out).mono ?_
      rw [hnb]
      clear hnb
      rintro e w6 ⟨rfl, h6, -⟩
      have H6 := Lib.hid h6
      clear h6 H5
      go_wp2
      go_roundw
      case rel => exact ⟨i + 1, s5, by go_num, by omega, H6.out⟩
      case measure => simp [intOf]; omega
    · have d0 : (kd : Int) % 2 = 1 := by omega
      clear hk2
      go_wp2_with (first | (rw [hW4]) | fail)
      clear hW4 m0 m1 m2 m3 m4 m5
      refine (s_chunk H4.out (by omega) ow on pg hon R4.out).mono ?_
      rintro e w5 ⟨rfl, h5⟩
      have H5 := Lib.hid h5
      clear h5 H4 q0 q1 q2 q3 q4 q5 R4 B4 hb0
      go_wp2_with (fail)
      obtain ⟨n4, hn4⟩ : ∃ n4, (s.chunk ow on pg ys).ups.length = n4 := ⟨_, rfl⟩
      have h4 : n4 ≤ 4 := by rw [← hn4]; exact H5.out.few.four
      have h4d : decide ((4 : Int) < (n4 : Int)) = false := decide_eq_false (by omega)
      refine (s_len H5.out).mono ?_
      rw [hn4]
      clear hn4
      rintro e w6 ⟨rfl, rfl⟩
      go_wp2_with (fail)
      obtain ⟨nb, hnb⟩ : ∃ nb, (s.chunk ow on pg ys).bytes = nb := ⟨_, rfl⟩
      have hb16 : nb ≤ 16384 := by rw [← hnb]; exact H5.out.few.bytes
      have hbd : decide ((16384 : Int) < (nb : Int)) = false := decide_eq_false (by omega)
      refine (s_bytes H5.out).mono ?_
      rw [hnb]
      clear hnb
      rintro e w6 ⟨rfl, h6, -⟩
      have H6 := Lib.hid h6
      clear h6 H5
      go_wp2
      go_roundw
      case rel => exact ⟨i + 1, (s.chunk ow on pg ys), by go_num, by omega, H6.out⟩
      case measure => simp [intOf]; omega

theorem room_row : Rows.StageRoomSaid :=
  OpenClaim.holds_of_wide 5 Try.f5 rfl rfl rfl rfl rfl rfl rfl ⟨rfl, rfl, rfl, rfl, rfl⟩ rfl rfl rfl rfl rfl (by kernel_rfl) Try.func5 (by kernel_rfl)
    (of_decide_eq_true (by kernel_rfl)) (by unfold Func.isWrapper; rw [if_neg (of_decide_eq_false (by kernel_rfl))]; exact ⟨rfl, rfl⟩)
    (fun os started H enc _ => lift (C := Try.checked) (s := Rows.stageRoomSpec) (conds := Rows.stageRoomRow.domain) os started H enc prog_own (by kernel_rfl) Try.func5 prog_laid rfl Try.underlying4 rfl
      (fun ds hl => by
        have hl : ds.length = 1 := hl
        match ds, hl with
        | [_], _ => rfl)
      (of_decide_eq_true (by kernel_rfl))
      (ChangeSpec.witness6 (enc := enc) (C := Try.checked) false ⟨#[], #[.slice none 0 0], []⟩ 8 (by kernel_rfl) (by kernel_rfl) (by kernel_rfl) (by kernel_rfl))
      (fun W base args ds p g => by
        rw [Try.params5] at g
        obtain ⟨a, n, c, xs, e0, hn, hx⟩ := g.ops13 0 rfl
        rw [args1 g.count e0]
        exact room_walk a n c xs W hn hx))
end Go.Proofs.Ytdlpifcfgfhagaa
