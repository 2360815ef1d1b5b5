/-
  CursorIdle holds: a cursor lasts as long as it is used no more than idle ticks apart, and no longer.
-/
import Derived.Test.YtnmfnppndohcbaaRows
import Derived.Test.YtnmfnppndohcbaaQrm
namespace Go.Proofs.Ytnmfnppndohcbaa
open Go.ChangeShapes Go.WideShapes Go.ChangeAt Go.RowKit

/-- The one cursor, used at that tick. -/
def cuI (used : Nat) : CurV := ⟨1, 1, 3, ⟨[1], [], [], []⟩, used, 0, EndV.nil, EndV.nil⟩
theorem cuI_turn (idle u now : Nat) : (⟨[cuI u], 1, idle⟩ : CTab).turn { cuI u with used := now } = ⟨[cuI now], 1, idle⟩ := rfl
theorem cuI_late (idle u now : Nat) (h : isLate idle now (cuI u) = true) : (⟨[cuI u], 1, idle⟩ : CTab).less (isLate idle now) = ⟨[], 1, idle⟩ ∧ (⟨[cuI u], 1, idle⟩ : CTab).pins (isLate idle now) = [3] := by
  unfold CTab.less CTab.pins
  simp [h]
  rfl
theorem cuI_stay (idle u now : Nat) (h : isLate idle now (cuI u) = false) : (⟨[cuI u], 1, idle⟩ : CTab).less (isLate idle now) = ⟨[cuI u], 1, idle⟩ ∧ (⟨[cuI u], 1, idle⟩ : CTab).pins (isLate idle now) = [] := by
  unfold CTab.less CTab.pins
  simp [h]
theorem reads_one (w : World) (z : Int) (hz : (Lit.int .i64 z).wf = true) : Reads .i64 (w.alloc (.cells #[.int .i64 z] 3)) (some ⟨w.heap.size, 0, none⟩) 1 [z] := by
  have h := Reads.built (k := .i64) w [z] 3 (by simp) (by simpa using hz)
  simpa using h
theorem fit_u32s : ((Sh.slice (.int .u32) 4).fit Try.prog).1 72 = true := by kernel_rfl
theorem Given.u32s14 {H : Type} {enc : TypeId × Value → H} {W : World} {base : Nat} {ts : Array TypeId} {args : Array Value} {ds : List (DataW H)} {p : List MemPlace} (g : Given enc Try.prog W base ts args ds p) (j : Nat) (ht : ts[j]? = some 72) :
    ∃ (a : Option Addr) (n c : Nat) (xs : List Int), args[j]? = some (.slice a n c) ∧ Reads .u32 W a n xs := by
  obtain ⟨v, x, e1, hx⟩ := g.sh1 j ht (.slice (.int .u32) 4) fit_u32s (.inl ⟨_, Try.underlying72⟩)
  obtain ⟨a, n, c, hcs, _, _, h⟩ := Rd.slice_is (e := .int .u32) hx
  simp only [List.cons.injEq, and_true] at hcs
  subst hcs
  exact ⟨a, n, c, x, e1, Rd.ints h rfl⟩
set_option maxRecDepth 100000 in
set_option maxHeartbeats 12800000 in
theorem idle_walk (idle : Nat) (hi : idle < 4294967296) (a : Option Addr) (n c : Nat) (xs : List Int) (w : World) (hx : Reads .u32 w a n xs) :
    Calls Try.prog 7 #[.int .u32 (idle : Int), .slice a n c] w fun e w' => e = .returned (.bool true) ∧ Below w.heap.size w w' := by
  have HX := Lib.hid hx
  clear hx
  go_enter Try.func7, Try.ntmps7
  go_wp2_with (fail)
  refine (alive14 w).mono ?_
  rintro e w1 ⟨rfl, hb1⟩
  go_wp2_with (fail)
  refine (c_new w w1 hb1 idle hi).mono ?_
  rintro e w2 ⟨x, rfl, h2⟩
  have H2 := Lib.hid h2
  clear hb1 h2
  go_wp2_with (fail)
  refine (c_open H2.out ((Below.refl _ w2).alloc (Nat.le_refl _) _) (by decide) 1 0 3 (by decide) (by decide) (oneQ w2.heap.size 1) (oneQ_in w.heap.size w2 1 rfl)).mono ?_
  rintro e w3 ⟨s0, gone, hs, rfl, h3, -⟩
  rcases hs with ⟨-, rfl, rfl⟩ | ⟨hl, -⟩
  rotate_left
  · exact absurd hl (show ¬ 8 ≤ 0 by decide)
  have H3 := Lib.hid (show CAt w 1 x ⟨[cuI 0], 1, idle⟩ w3 from h3)
  clear h3 H2
  rw [show (({ cs := [], last := 0, idle := idle } : CTab).last + 1) = 1 from rfl]
  go_wp2
  go_loopw [6, 9] (fun s6 s9 wr => ∃ (i now : Nat), s6 = .int .u32 (now : Int) ∧ s9 = .int .i64 (i : Int) ∧ i ≤ 50 ∧ now < 4294967296 ∧ Hid (CAt w 1 x ⟨[cuI now], 1, idle⟩ wr)) (fun _ s9 _ => 50 - (intOf s9).toNat)
  case atStart => exact ⟨0, 0, rfl, rfl, by omega, by decide, H3.out⟩
  case round =>
    clear H3
    obtain ⟨i, now, rfl, rfl, hi50, hnow, HS⟩ := hrel
    go_upto_region 7 with fail
    go_cut [32] (fun s32 wx => ∃ z : Bool, s32 = .bool z ∧ Hid (z = true ↔ (i < n ∧ i < 50)) ∧ wx = wr)
    case first =>
      by_cases hin : i < n
      · by_cases hi10 : i < 50
        · have hd1 : decide ((i : Int) < 50) = true := decide_eq_true (by omega)
          go_wp2
          go_meet
          exact ⟨true, rfl, by simp [Hid]; omega, rfl⟩
        · have hd1 : decide ((i : Int) < 50) = false := decide_eq_false (by omega)
          go_wp2
          go_meet
          exact ⟨false, rfl, by simp [Hid]; omega, rfl⟩
      · go_wp2
        go_meet
        exact ⟨false, rfl, by simp [Hid]; omega, rfl⟩
    case rest =>
      obtain ⟨z, rfl, HZI, rfl⟩ := hcut
      rename World => wq
      cases z
      rotate_left
      · obtain ⟨hin, hi5⟩ := HZI.out.1 rfl
        clear HZI
        obtain ⟨b, off, rfl, hbl, hcc⟩ : ∃ b off, a = some ⟨b, off, none⟩ ∧ b < w.heap.size ∧ ∀ i, i < n → w.cell? ⟨b, off + i, none⟩ = some (.int .u32 (xs.getD i 0)) := by
          rcases HX.out.cells with h0 | h0
          · omega
          · exact h0
        have hwf := u32_wf (HX.out.wf (xs.getD i 0) (by rw [List.getD_eq_getElem?_getD, List.getElem?_eq_getElem (by rw [HX.out.len]; exact hin)]; exact List.getElem_mem _))
        obtain ⟨g, hg⟩ := Int.eq_ofNat_of_zero_le hwf.1
        have hc0 := hcc i hin
        rw [hg] at hc0 hwf
        have hg32 : g < 4294967296 := by omega
        have m0 : wq.cell? ⟨b, off + i, none⟩ = some (.int .u32 (g : Int)) := (HS.out.below.cell (p := ⟨b, off + i, none⟩) hbl).trans hc0
        have hblr := Nat.lt_of_lt_of_le hbl HS.out.below.size
        have KEEP := Lib.hid (fun (wz : World) (hb : Below w.heap.size w wz) => show wz.cell? ⟨b, off + i, none⟩ = some (.int .u32 (g : Int)) ∧ b < wz.heap.size from ⟨(hb.cell (p := ⟨b, off + i, none⟩) hbl).trans hc0, Nat.lt_of_lt_of_le hbl hb.size⟩)
        clear hcc hg hwf hc0 hbl
        obtain ⟨rm, hrm⟩ : ∃ rm, 4294967295 - now = rm := ⟨_, rfl⟩
        have hrw : IntKind.u32.wrap (4294967295 - (now : Int)) = (rm : Int) := by rw [IntKind.wrap_u32]; omega
        by_cases hgt : rm < g
        · have BF := Lib.hid HS.out.below
          clear HS
          go_wp2
          go_ret
          exact ⟨rfl, BF.out⟩
        · obtain ⟨nw, hnw⟩ : ∃ nw, now + g = nw := ⟨_, rfl⟩
          have hnww : IntKind.u32.wrap ((now : Int) + (g : Int)) = (nw : Int) := by rw [IntKind.wrap_u32]; omega
          have hnw32 : nw < 4294967296 := by omega
          have HT := Lib.hid (c_tick HS.out nw hnw32)
          have hlate : isLate idle nw (cuI now) = decide (idle < g) := by
            show decide (now ≤ nw ∧ idle < nw - now) = _
            rw [decide_eq_decide]
            omega
          have HLT := Lib.hid hlate
          clear hnw hrm HS
          by_cases hig : idle < g
          · obtain ⟨r1, r2⟩ := cuI_late idle now nw (by rw [HLT.out]; exact decide_eq_true hig)
            rw [show (⟨[cuI now], 1, idle⟩ : CTab).idle = idle from rfl, r1, r2] at HT
            clear r1 r2
            go_wp2_with (fail)
            refine HT.out.mono ?_
            rintro e w4 ⟨v, rfl, hv, h4, -⟩
            obtain ⟨va, vn, vc, rfl, hvn⟩ := hv.parts
            have H4 := Lib.hid h4
            have HV4 := Lib.hid hv
            have HBB4 := h4.below
            have K4 := KEEP.out w4 HBB4
            have k4 := K4.1
            have l4 := K4.2
            clear hv h4 HT m0 hblr K4 HBB4
            go_wp2_with (fail)
            refine (c_take_err H4.out 1 1 1 nw (by decide) (by decide) hnw32 140 rfl (by decide)).mono ?_
            rintro e w5 ⟨rfl, h5, st⟩
            obtain ⟨wz, w6, hwz, hwn, ⟨qz0, qz1, qz2, qz3, qz4, qz5, qz6, qz7, qf0, qf1, qf2, qf3, qf4, qf5, qf6, qf7⟩, b6, -⟩ := ask_cell w5 0 ⟨(none, 0, 0), (none, 0, 0), (none, 0, 0), (none, 0, 0), ⟨[], [], [], []⟩⟩ false 0 0
            have H6 := Lib.hid (h5.on b6)
            have RV := Lib.hid ((show IntsZ wq.heap.size w6 (.slice va vn vc) [3] from RowC.on ⟨HV4.out.1, st.row (by decide) (by decide) (by decide) (by decide) HV4.out.2⟩ b6).reads (by decide) (by intro z hz; rw [List.mem_singleton] at hz; rw [hz]; rfl))
            have K6 := KEEP.out w6 H6.out.below
            have k6 := K6.1
            have l6 := K6.2
            clear h5 st b6 k4 l4 HV4 K6
            go_wp2_with (first | (rw [hwz]) | (rw [hwn]) | fail)
            try rw [hwz]
            try rw [hwn]
            clear hwz hwn qz0 qz1 qz2 qz3 qz4 qz5 qz6 qz7 qf0 qf1 qf2 qf3 qf4 qf5 qf6 qf7
            have RV7 := Lib.hid (RV.out.alloc (.cells #[.int .i64 3] 3))
            have H7 := Lib.hid (H6.out.on ((Below.refl _ w6).alloc (Nat.le_refl _) (.cells #[.int .i64 3] 3)))
            refine (ints_any _ va vn vc [3] RV7.out (some ⟨w6.heap.size, 0, none⟩) 1 1 [3] (reads_one w6 3 rfl) true (by decide)).mono ?_
            rintro e w7 ⟨rfl, b7⟩
            have H8 := Lib.hid (H7.out.on b7)
            have CL := Lib.hid (c_len H8.out)
            have BF := Lib.hid H8.out.below
            clear b7 H7 RV7 RV H6 H8 k6 l6
            go_wp2_with (fail)
            refine CL.out.mono ?_
            rintro e w8 ⟨rfl, rfl⟩
            rw [show (⟨[], 1, idle⟩ : CTab).cs.length = 0 from rfl]
            clear CL
            go_wp2
            go_ret
            exact ⟨rfl, BF.out⟩
          · obtain ⟨r1, r2⟩ := cuI_stay idle now nw (by rw [HLT.out]; exact decide_eq_false hig)
            rw [show (⟨[cuI now], 1, idle⟩ : CTab).idle = idle from rfl, r1, r2] at HT
            clear r1 r2
            go_wp2_with (fail)
            refine HT.out.mono ?_
            rintro e w4 ⟨v, rfl, hv, h4, -⟩
            obtain ⟨va, vn, vc, rfl, hvn⟩ := hv.parts
            have H4 := Lib.hid h4
            have hvn0 : vn = 0 := hvn.out.symm
            have HBB4 := h4.below
            have K4 := KEEP.out w4 HBB4
            have k4 := K4.1
            have l4 := K4.2
            subst hvn0
            clear hv h4 HT m0 hblr K4 HBB4 hvn
            go_wp2_with (fail)
            refine (c_take_ok H4.out 1 1 1 nw (by decide) (by decide) hnw32 (cuI now) rfl rfl).mono ?_
            rintro e w5 ⟨y, -, rfl, -, h5, -⟩
            unfold askA
            rw [show (cuI now).behind 1 = ⟨false, 0, 0⟩ from rfl, show (cuI now).pin = 3 from rfl]
            obtain ⟨wz, w6, hwz, hwn, ⟨qz0, qz1, qz2, qz3, qz4, qz5, qz6, qz7, qf0, qf1, qf2, qf3, qf4, qf5, qf6, qf7⟩, b6, -⟩ := ask_cell w5 3 y false 0 0
            have H6 := Lib.hid (show CAt w 1 x ⟨[cuI nw], 1, idle⟩ w6 from h5.on b6)
            have K6 := KEEP.out w6 H6.out.below
            have k6 := K6.1
            have l6 := K6.2
            clear h5 b6 k4 l4 K6
            go_wp2_with (first | (rw [hwz]) | (rw [hwn]) | fail)
            try rw [hwz]
            try rw [hwn]
            clear hwz hwn qz0 qz1 qz2 qz3 qz4 qz5 qz6 qz7 qf0 qf1 qf2 qf3 qf4 qf5 qf6 qf7
            go_wp2
            go_roundw
            case rel => exact ⟨i + 1, nw, rfl, by go_num, by omega, hnw32, H6.out⟩
            case measure => simp [intOf]; omega
      · clear HZI
        have CL := Lib.hid (c_len HS.out)
        have BF := Lib.hid HS.out.below
        go_wp2_with (fail)
        refine CL.out.mono ?_
        rintro e w4 ⟨rfl, rfl⟩
        rw [show (⟨[cuI now], 1, idle⟩ : CTab).cs.length = 1 from rfl]
        clear CL HS
        go_wp2
        go_ret
        exact ⟨rfl, BF.out⟩
theorem idle_row : Rows.CursorIdleSaid :=
  OpenClaim.holds_of_wide 7 Try.f7 rfl rfl rfl rfl rfl rfl rfl ⟨rfl, rfl, rfl, rfl, rfl⟩ rfl rfl rfl rfl rfl (by kernel_rfl) Try.func7 (by kernel_rfl)
    (of_decide_eq_true (by kernel_rfl)) (by unfold Func.isWrapper; rw [if_neg (of_decide_eq_false (by kernel_rfl))]; exact ⟨rfl, rfl⟩)
    (fun os started H enc _ => lift (C := Try.checked) (s := Rows.cursorIdleSpec) (conds := Rows.cursorIdleRow.domain) os started H enc prog_own (by kernel_rfl) Try.func7 prog_laid rfl Try.underlying4 rfl
      (fun ds hl => by
        have hl : ds.length = 2 := hl
        match ds, hl with
        | [_, _], _ => rfl)
      (of_decide_eq_true (by kernel_rfl))
      (ChangeSpec.witness6 (enc := enc) (C := Try.checked) false ⟨#[], #[.int .u32 0, .slice none 0 0], []⟩ 8 (by kernel_rfl) (by kernel_rfl) (by kernel_rfl) (by kernel_rfl))
      (fun W base args ds p g => by
        rw [Try.params7] at g
        obtain ⟨idle, e0, hi⟩ := g.u32 0 rfl Try.underlying22
        obtain ⟨a, n, c, xs, e1, hx⟩ := g.u32s14 1 rfl
        rw [args2 g.count e0 e1]
        exact idle_walk idle hi a n c xs W hx))
end Go.Proofs.Ytnmfnppndohcbaa
