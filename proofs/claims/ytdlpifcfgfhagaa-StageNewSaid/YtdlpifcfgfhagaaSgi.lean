/-
  StageNew holds: a number is never used again, whatever ends.
-/
import Derived.Test.YtdlpifcfgfhagaaRows
import Derived.Test.YtdlpifcfgfhagaaSgh
namespace Go.Proofs.Ytdlpifcfgfhagaa
open Go.ChangeShapes Go.WideShapes Go.ChangeAt Go.RowKit

set_option maxRecDepth 100000 in
set_option maxHeartbeats 12800000 in
theorem new_walk (a : Option Addr) (n c : Nat) (xs : List shOp13.T) (w : World) (_hn : n ≤ 140737488351232) (hx : Rd (· < w.heap.size) w shOps13 [.slice a n c] xs) :
    Calls Try.prog 7 #[.slice a n c] w fun e w' => e = .returned (.bool true) ∧ Below w.heap.size w w' := by
  have HX := Lib.hid hx
  clear hx
  go_enter Try.func7, Try.ntmps7
  go_wp2_with (fail)
  refine (alive13 w).mono ?_
  rintro e w1 ⟨rfl, hb1⟩
  go_wp2_with (fail)
  refine (s_new w w1 hb1).mono ?_
  rintro e w2 ⟨x, rfl, h2⟩
  have H2 := Lib.hid h2
  clear hb1 h2
  go_wp2_with (fail)
  go_loopw [4, 5] (fun s4 s5 wr => ∃ (i last : Nat) (s : TabV), s4 = .int .u32 (last : Int) ∧ s5 = .int .i64 (i : Int) ∧ i ≤ 80 ∧ Hid (SAt w i x s wr ∧ s.last = last)) (fun _ s5 _ => 80 - (intOf s5).toNat)
  case atStart => exact ⟨0, 0, ⟨[], 0⟩, rfl, rfl, by omega, ⟨H2.out, rfl⟩⟩
  case round =>
    clear H2
    obtain ⟨i, last, s, rfl, rfl, hi, HS⟩ := hrel
    have hll : last ≤ 80 := by have := HS.out.1.few.last; have := HS.out.2; omega
    go_upto_region 6 with fail
    go_cut [19] (fun s19 wx => ∃ z : Bool, s19 = .bool z ∧ Hid (z = true ↔ (i < n ∧ i < 80)) ∧ wx = wr)
    case first =>
      by_cases hin : i < n
      · by_cases hi10 : i < 80
        · have hd1 : decide ((i : Int) < 80) = true := decide_eq_true (by omega)
          go_wp2
          go_meet
          exact ⟨true, rfl, by simp [Hid]; omega, rfl⟩
        · have hd1 : decide ((i : Int) < 80) = false := decide_eq_false (by omega)
          go_wp2
          go_meet
          exact ⟨false, rfl, by simp [Hid]; omega, rfl⟩
      · go_wp2
        go_meet
        exact ⟨false, rfl, by simp [Hid]; omega, rfl⟩
    case rest =>
      obtain ⟨z, rfl, HZI, rfl⟩ := hcut
      cases z
      rotate_left
      · obtain ⟨hin, hi80⟩ := HZI.out.1 rfl
        clear HZI
        obtain ⟨b, off, o, ys, rfl, hbl, hk, how, hon, -, -, OPF⟩ := rd_op13 HX.out i hin
        obtain ⟨hb0, -, hcc⟩ := OPF.out _ HS.out.1.below
        obtain ⟨m0, m1, -, m3, -, -⟩ := op13_cells hcc
        clear hcc OPF
        obtain ⟨kd, hkd⟩ : ∃ kd, o.kind = kd := ⟨_, rfl⟩
        obtain ⟨ow, hwd⟩ : ∃ ow, o.owner = ow := ⟨_, rfl⟩
        obtain ⟨on, hnd⟩ : ∃ on, o.n = on := ⟨_, rfl⟩
        rw [hkd] at m0 hk
        rw [hwd] at m1 how
        rw [hnd] at m3 hon
        clear hkd hwd hnd
        obtain ⟨o2, ho2⟩ : ∃ o2, ow % 2 = o2 := ⟨_, rfl⟩
        have ho3 : o2 < 2 := by omega
        have hmo : (ow : Int) % 2 = (o2 : Int) := by omega
        clear ho2
        by_cases hk0 : kd % 4 = 0 ∨ kd % 4 = 1
        · obtain ⟨l1, hl1⟩ : ∃ l1, last + 1 = l1 := ⟨_, rfl⟩
          have hlw : IntKind.u32.wrap ((last : Int) + 1) = (l1 : Int) := by rw [IntKind.wrap_u32]; omega
          have HL1 := Lib.hid hl1
          clear hl1
          by_cases hk00 : kd % 4 = 0
          · have d0 : (kd : Int) % 4 = 0 := by omega
            clear hk0 hk00
            go_wp2_with (fail)
            refine (s_begin HS.out.1 (by omega) o2 (by omega) ⟨#[]⟩).mono ?_
            rw [HS.out.2, HL1.out]
            rintro e w3 (⟨hl, rfl, h3⟩ | ⟨hl, rfl, h3⟩)
            · have H3 := Lib.hid (And.intro h3 HS.out.2)
              clear h3 HS hl
              go_wp2
              go_roundw
              case rel => exact ⟨i + 1, last, s, rfl, by go_num, by omega, H3.out⟩
              case measure => simp [intOf]; omega
            · have H3 := Lib.hid (And.intro h3 (show (s.start o2 ⟨#[]⟩).last = l1 from by rw [← HL1.out, ← HS.out.2]; rfl))
              clear h3 HS hl
              go_wp2
              go_roundw
              case rel => exact ⟨i + 1, l1, _, rfl, by go_num, by omega, H3.out⟩
              case measure => simp [intOf]; omega
          · have d1 : (kd : Int) % 4 = 1 := by omega
            clear hk0 hk00
            go_wp2_with (fail)
            refine (s_begin HS.out.1 (by omega) o2 (by omega) ⟨#[]⟩).mono ?_
            rw [HS.out.2, HL1.out]
            rintro e w3 (⟨hl, rfl, h3⟩ | ⟨hl, rfl, h3⟩)
            · have H3 := Lib.hid (And.intro h3 HS.out.2)
              clear h3 HS hl
              go_wp2
              go_roundw
              case rel => exact ⟨i + 1, last, s, rfl, by go_num, by omega, H3.out⟩
              case measure => simp [intOf]; omega
            · have H3 := Lib.hid (And.intro h3 (show (s.start o2 ⟨#[]⟩).last = l1 from by rw [← HL1.out, ← HS.out.2]; rfl))
              clear h3 HS hl
              go_wp2
              go_roundw
              case rel => exact ⟨i + 1, l1, _, rfl, by go_num, by omega, H3.out⟩
              case measure => simp [intOf]; omega
        · by_cases hk2 : kd % 4 = 2
          · have d2 : (kd : Int) % 4 = 2 := by omega
            clear hk0 hk2
            go_wp2_with (fail)
            refine (s_abort HS.out.1 o2 on hon).mono ?_
            rintro e w3 ⟨rfl, h3⟩
            have H3 := Lib.hid (And.intro (h3.more (Nat.le_succ i)) (show (s.abort o2 on).last = last from by rw [← HS.out.2]; unfold TabV.abort; split <;> rfl))
            clear h3 HS
            go_wp2
            go_roundw
            case rel => exact ⟨i + 1, last, _, rfl, by go_num, by omega, H3.out⟩
            case measure => simp [intOf]; omega
          · have d2 : (kd : Int) % 4 = 3 := by omega
            clear hk0 hk2
            go_wp2_with (fail)
            refine (s_leave HS.out.1 o2).mono ?_
            rintro e w3 ⟨rfl, h3⟩
            have H3 := Lib.hid (And.intro (h3.more (Nat.le_succ i)) (show (s.leave o2).last = last from HS.out.2))
            clear h3 HS
            go_wp2
            go_roundw
            case rel => exact ⟨i + 1, last, _, rfl, by go_num, by omega, H3.out⟩
            case measure => simp [intOf]; omega
      · clear HZI
        have BF := Lib.hid HS.out.1.below
        go_wp2
        go_ret
        exact ⟨rfl, BF.out⟩

theorem new_row : Rows.StageNewSaid :=
  OpenClaim.holds_of_wide 7 Try.f7 rfl rfl rfl rfl rfl rfl rfl ⟨rfl, rfl, rfl, rfl, rfl⟩ rfl rfl rfl rfl rfl (by kernel_rfl) Try.func7 (by kernel_rfl)
    (of_decide_eq_true (by kernel_rfl)) (by unfold Func.isWrapper; rw [if_neg (of_decide_eq_false (by kernel_rfl))]; exact ⟨rfl, rfl⟩)
    (fun os started H enc _ => lift (C := Try.checked) (s := Rows.stageNewSpec) (conds := Rows.stageNewRow.domain) os started H enc prog_own (by kernel_rfl) Try.func7 prog_laid rfl Try.underlying4 rfl
      (fun ds hl => by
        have hl : ds.length = 1 := hl
        match ds, hl with
        | [_], _ => rfl)
      (of_decide_eq_true (by kernel_rfl))
      (ChangeSpec.witness6 (enc := enc) (C := Try.checked) false ⟨#[], #[.slice none 0 0], []⟩ 8 (by kernel_rfl) (by kernel_rfl) (by kernel_rfl) (by kernel_rfl))
      (fun W base args ds p g => by
        rw [Try.params7] at g
        obtain ⟨a, n, c, xs, e0, hn, hx⟩ := g.ops13 0 rfl
        rw [args1 g.count e0]
        exact new_walk a n c xs W hn hx))
end Go.Proofs.Ytdlpifcfgfhagaa
