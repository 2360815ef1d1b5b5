/-
  LinksNear holds: hits are in order, each place once, and are all that are there, whatever was done.
-/
import Derived.Test.YtdfpfgkfmjehiaaRows
import Derived.Test.YtdfpfgkfmjehiaaIm
namespace Go.Proofs.Ytdfpfgkfmjehiaa
open Go.ChangeShapes Go.WideShapes Go.ChangeAt Go.RowKit

set_option maxRecDepth 100000 in
set_option maxHeartbeats 12800000 in
theorem near11_walk (w : World) (m : Nat) (hm : m ≤ 255) (a qa pa : Option Addr) (n c qn qc pn pc : Nat) (xs : List shOp11.T) (hx : Rd (· < w.heap.size) w shOps11 [.slice a n c] xs) (q : List Int) (hq : Reads .i32 w qa qn q) (pl : List Int) (hp : Reads .i64 w pa pn pl) (hpc : pn ≤ pc) :
    Calls Try.prog 7 #[.int .u8 (m : Int), .slice a n c, .slice qa qn qc, .slice pa pn pc] w fun e w' => e = .returned (.bool true) ∧ Below w.heap.size w w' := by
  obtain ⟨mm, hmm⟩ : ∃ mm : Nat, (m : Int) % 2 = (mm : Int) := ⟨m % 2, by omega⟩
  have hm2 : mm ≤ 1 := by omega
  have HX := Lib.hid hx
  clear hx
  have HQ := Lib.hid hq
  have HP := Lib.hid hp
  have hqs := hq.small
  have hps := hp.small
  clear hq hp
  by_cases hp200 : pn ≤ 200
  rotate_left
  · have hkd : (200 : Int) < (pn : Int) := by omega
    go_enter Try.func7, Try.ntmps7
    go_wp2_with (fail)
    refine (alive11 w).mono ?_
    rintro e w1 ⟨rfl, hb1⟩
    have HB1 := Lib.hid hb1
    clear hb1
    go_wp2
    go_ret
    exact ⟨rfl, HB1.out⟩
  have hkd : decide ((200 : Int) < (pn : Int)) = false := decide_eq_false (by omega)
  have hkd2 : decide ((pn : Int) > 200) = false := decide_eq_false (by omega)
  by_cases hq100 : qn ≤ 100
  rotate_left
  · have hkd : (100 : Int) < (qn : Int) := by omega
    go_enter Try.func7, Try.ntmps7
    go_wp2_with (fail)
    refine (alive11 w).mono ?_
    rintro e w1 ⟨rfl, hb1⟩
    have HB1 := Lib.hid hb1
    clear hb1
    go_wp2
    go_ret
    exact ⟨rfl, HB1.out⟩
  have hkd3 : decide ((100 : Int) < (qn : Int)) = false := decide_eq_false (by omega)
  have hkd4 : decide ((qn : Int) > 100) = false := decide_eq_false (by omega)
  go_enter Try.func7, Try.ntmps7
  go_wp2_with (fail)
  refine (alive11 w).mono ?_
  rintro e w1 ⟨rfl, hb1⟩
  go_wp2_with (fail)
  refine (gnew_any w1 mm (by omega)).mono ?_
  rintro e w2 ⟨rfl, h2, hb2⟩
  have hs1 := hb1.size
  have hs2 := hb2.size
  obtain ⟨W3, hW3⟩ : ∃ W3, w2.alloc (.cells #[.int .i64 (mm : Int), .slice none 0 0] 30) = W3 := ⟨_, rfl⟩
  have hb3 : Below w2.heap.size w2 W3 := by rw [← hW3]; exact (Below.refl _ _).alloc (Nat.le_refl _) _
  have B3 := Lib.hid (below_on (below_on hb1 hb2) hb3)
  have CB := Lib.hid (built w w1 w2 W3 mm (by omega) h2 hs1 hs2 hW3 a n c xs (Rd.stay B3.out.size (fun q hq _ => B3.out.block q hq) (fun _ h _ => h) HX.out) 60 (by decide))
  clear h2 hb1 hb2 hb3
  go_wp2_with (first | (rw [hW3]) | fail)
  clear hW3
  refine CB.out.mono ?_
  rintro e w4 ⟨rfl, F, G, gv, hG, hB, hL, hMM⟩
  have HG := Lib.hid hG
  have B4 := Lib.hid (B3.out.trans hB)
  have HR := Lib.hid hG.code.right
  clear hG hB CB B3 HX
  obtain ⟨N, hN⟩ : ∃ N, gv.L.length = N := ⟨_, rfl⟩
  have HN := Lib.hid hN
  have hNN : N ≤ 100 := by omega
  have RP := Lib.hid (fun (X : World) (hb : Below w4.heap.size w4 X) => (HP.out.below (Nat.le_refl _) B4.out).below (Nat.le_refl _) hb)
  obtain ⟨near, hnear⟩ : ∃ near, gv.near q pl = near := ⟨_, rfl⟩
  have CN := Lib.hid (near_is HG.out.code qa qn qc q (HQ.out.below (Nat.le_refl _) B4.out) pa pn pc pl (RP.out w4 (Below.refl _ _)) (by omega))
  rw [hnear] at CN
  have HSTR := Lib.hid (fun (i : Nat) (h0 : 0 < i) (hi : i < near.length) => show ltH (near.getD (i - 1) (0, 0)) (near.getD i (0, 0)) = true from by
    rw [← hnear] at hi ⊢
    exact near_strict gv q pl i h0 hi)
  have HMEM := Lib.hid (fun (x : Hit) (hx : x ∈ near) => show ∃ j : Nat, x.2 = (j : Int) ∧ (j : Int) ∈ pl ∧ j < N from by
    rw [← hnear] at hx
    obtain ⟨j, rfl, h1, h2⟩ := GraphV.near_mem hx
    exact ⟨j, rfl, h2, by have := GraphV.lv_lt h1; omega⟩)
  have HLEN := Lib.hid (show near.length = (pick (fun i => gv.onB i 0) pl).length from by
    rw [← hnear, GraphV.near, sortL_len, List.length_map])
  have HPL := Lib.hid HP.out.len
  have HPC := HP.out.cells
  clear hN hnear hL HP
  go_wp2_with (fail)
  refine CN.out.mono ?_
  rintro e w5 ⟨gl, nl, rfl, ho, hb5, hgl⟩
  have HNN := Lib.hid (show near.length = nl from by
    obtain ⟨a', c', e⟩ := ho.size
    simp only [Value.slice.injEq] at e
    exact e.2.1.symm)
  have HCELL := Lib.hid (fun (k : Nat) (hk : k < nl) => show ∃ (j : Nat) (d : Int), near.getD k (0, 0) = (d, (j : Int)) ∧ (j : Int) ∈ pl ∧ j < N ∧ ∀ X, Below w5.heap.size w5 X → X.cell? ⟨gl, k * 2, none⟩ = some (.int .i64 d) ∧ X.cell? ⟨gl, k * 2 + 1, none⟩ = some (.int .u32 (j : Int)) from by
    obtain ⟨gb, e1, _, hlt, h1, h2⟩ := hit_cells ho (show k < near.length from by rw [HNN.out]; exact hk)
    simp only [Option.some.injEq, Addr.mk.injEq] at e1
    obtain ⟨rfl, _⟩ := e1
    obtain ⟨j, h3, h4, h5⟩ := HMEM.out (near.getD k (0, 0)) (by
      rw [List.getD_eq_getElem?_getD, List.getElem?_eq_getElem (by rw [HNN.out]; exact hk)]
      exact List.getElem_mem _)
    refine ⟨j, (near.getD k (0, 0)).1, Prod.ext rfl h3, h4, h5, fun X hb => ⟨(hb.cell (p := ⟨gl, k * 2, none⟩) hlt).trans h1, ?_⟩⟩
    rw [← h3]
    exact (hb.cell (p := ⟨gl, k * 2 + 1, none⟩) hlt).trans h2)
  have HB5 := Lib.hid hb5
  have B5 := Lib.hid (B4.out.trans (hb5.mono B4.out.size))
  have hnl : nl ≤ 200 := by
    have h1 := HLEN.out
    have h2 := pick_len (fun i => gv.onB i 0) pl
    have h3 := HPL.out
    have h4 := HNN.out
    omega
  have RH := Lib.hid (fun (X : World) (hb : Below w5.heap.size w5 X) (jj : Int) (hm : jj ∈ pl) => rhas_any X pa pn pc pl (RP.out X (HB5.out.trans (hb.mono HB5.out.size))) jj true (decide_eq_true hm))
  clear ho hb5 hgl CN HMEM
  go_wp2_with (fail)
  go_loopw [11] (fun s11 wr => ∃ i : Nat, i ≤ nl ∧ s11 = .int .i64 (i : Int) ∧ Hid (Below w5.heap.size w5 wr)) (fun s11 _ => nl - (intOf s11).toNat)
  case atStart => exact ⟨0, Nat.zero_le _, rfl, Below.refl _ _⟩
  case round =>
    obtain ⟨i, hi, rfl, HB⟩ := hrel
    by_cases hin : i < nl
    · obtain ⟨j, d, hjd, hjm, hjN, hc⟩ := HCELL.out i hin
      obtain ⟨jj, hjj⟩ : ∃ jj : Int, (j : Int) = jj := ⟨_, rfl⟩
      have hjw : IntKind.i64.wrap jj = jj := by rw [IntKind.wrap_i64]; omega
      rw [hjj] at hjd hjm hc
      have HC := Lib.hid hc
      have CH := Lib.hid (fun (X : World) (hb : Below wr.heap.size wr X) => RH.out X (HB.out.trans (hb.mono HB.out.size)) jj hjm)
      have HJD := Lib.hid hjd
      have HJM := Lib.hid hjm
      clear hc hjm hjj hjd
      by_cases hi0 : i = 0
      · have d0 : decide ((i : Int) > 0) = false := decide_eq_false (by omega)
        have d1 : decide (0 < (i : Int)) = false := decide_eq_false (by omega)
        have d2 : decide (0 < i) = false := decide_eq_false (by omega)
        have c1 : wr.cell? ⟨gl, i * 2 + 1, none⟩ = some (.int .u32 jj) := (HC.out wr HB.out).2
        have CH2 := Lib.hid (fun m => rhas_same (wr.drewN m) pa pn pc pl (RP.out _ (HB5.out.trans ((below_draws HB.out m).mono HB5.out.size))) jj true (decide_eq_true HJM.out))
        clear hi0
        go_wp2_with (fail)
        go_quiet (first | (go_at_call 14; refine Calls.quiet_of_same (CH2.out _)))
        go_wp2
        go_roundw
        case rel => exact ⟨i + 1, by omega, by go_num, below_draws HB.out _⟩
        case measure => simp [intOf]; omega
      · have d0 : decide ((i : Int) > 0) = true := decide_eq_true (by omega)
        have d1 : decide (0 < (i : Int)) = true := decide_eq_true (by omega)
        have d2 : decide (0 < i) = true := decide_eq_true (by omega)
        obtain ⟨i1, hi1⟩ : ∃ i1, i = i1 + 1 := ⟨i - 1, by omega⟩
        have hyw : IntKind.i64.wrap ((i : Int) - 1) = (i1 : Int) := by rw [IntKind.wrap_i64]; omega
        have hi1n : i1 < nl := by omega
        obtain ⟨j2, dp, hjd2, -, -, hc2⟩ := HCELL.out i1 hi1n
        have HC2 := Lib.hid hc2
        have HLT := Lib.hid (show ltH (dp, (j2 : Int)) (d, jj) = true from by
          have h1 := HSTR.out i (by omega) (by rw [HNN.out]; exact hin)
          rw [show i - 1 = i1 by omega, hjd2, HJD.out] at h1
          exact h1)
        have HS := Lib.hid (fun (X : World) (hb : Below wr.heap.size wr X) => show X.cell? ⟨gl, i1 * 2, none⟩ = some (.int .i64 dp) ∧ X.cell? ⟨gl, i1 * 2 + 1, none⟩ = some (.int .u32 (j2 : Int)) ∧ X.cell? ⟨gl, i * 2, none⟩ = some (.int .i64 d) ∧ X.cell? ⟨gl, i * 2 + 1, none⟩ = some (.int .u32 jj) ∧ Below wr.heap.size wr X from by
          have b2 := HB.out.trans (hb.mono HB.out.size)
          exact ⟨(HC2.out X b2).1, (HC2.out X b2).2, (HC.out X b2).1, (HC.out X b2).2, hb⟩)
        clear hi0 hi1 hjd2 hc2
        go_wp2_with (fail)
        go_region_held3 (fun X => X.cell? ⟨gl, i1 * 2, none⟩ = some (.int .i64 dp) ∧ X.cell? ⟨gl, i1 * 2 + 1, none⟩ = some (.int .u32 (j2 : Int)) ∧ X.cell? ⟨gl, i * 2, none⟩ = some (.int .i64 d) ∧ X.cell? ⟨gl, i * 2 + 1, none⟩ = some (.int .u32 jj) ∧ Below wr.heap.size wr X)
          (first
            | (go_keep; done)
            | exact HS.out _ (Below.refl _ _)
            | exact HS.out _ (Below.refl _ _).drew
            | (go_split_ands; exact HS.out _ (below_on (by assumption) hbel)))
          (first
            | (go_at_call 19; refine (rless_eq (dp, (j2 : Int)) (d, jj) true HLT _).mono ?_; rintro e w' ⟨rfl, hbel⟩)
            | (go_at_call 14; go_split_ands; refine (CH.out _ (by assumption)).mono ?_; rintro e w' ⟨rfl, hbel⟩))
        all_goals
          rename_i hH
          have B9 := Lib.hid (HB.out.trans (hH.2.2.2.2.mono HB.out.size))
          clear hH
          go_wp2
          go_roundw
          case rel => exact ⟨i + 1, by omega, by go_num, B9.out⟩
          case measure => simp [intOf]; omega
    · have HBX := HB
      clear HCELL HSTR RH hi
      go_wp2_with (fail)
      go_loopw [12, 13] (fun s12 s13 wr => ∃ (i cnt : Nat), i ≤ pn ∧ cnt ≤ i ∧ s13 = .int .i64 (i : Int) ∧ s12 = .int .i64 (cnt : Int) ∧ Hid ((pick (fun i => gv.onB i 0) (pl.take i)).length = cnt) ∧ Hid (Below w5.heap.size w5 wr)) (fun _ s13 _ => pn - (intOf s13).toNat)
      case atStart => exact ⟨0, 0, Nat.zero_le _, Nat.le_refl _, rfl, rfl, rfl, HBX⟩
      case round =>
        clear HBX HB
        obtain ⟨i2, cnt, hi2, hcnt, rfl, rfl, HCNT, HB⟩ := hrel
        by_cases hin2 : i2 < pn
        · rcases HPC with h0 | ⟨b, off, rfl, hlt0, hcc⟩
          · omega
          obtain ⟨x, hx⟩ : ∃ x, pl.getD i2 0 = x := ⟨_, rfl⟩
          have hc := hcc i2 hin2
          rw [hx] at hc
          have HX := Lib.hid (show pl.take (i2 + 1) = pl.take i2 ++ [x] from getD_take (by rw [HPL.out]; exact hin2) hx)
          have hB5 := HB5.out.trans (HB.out.mono HB5.out.size)
          have HR0 := Lib.hid (fun (X : World) (hb : Below wr.heap.size wr X) => show X.cell? ⟨b, off + i2, none⟩ = some (.int .i64 x) ∧ Below wr.heap.size wr X from ⟨((B5.out.trans ((HB.out.trans (hb.mono HB.out.size)).mono B5.out.size)).cell (p := ⟨b, off + i2, none⟩) hlt0).trans hc, hb⟩)
          have r0 := (HR0.out wr (Below.refl _ _)).1
          have GX := Lib.hid (fun (X : World) (hb : Below wr.heap.size wr X) => (HG.out.code.on hB5).on hb)
          have HSTEP := Lib.hid (pick_len_step (p := fun i => gv.onB i 0) (fun y hy => onB_nonneg hy) HX.out)
          have hip : i2 ≤ pc := by omega
          have RT := Lib.hid (fun (X : World) (hb : Below wr.heap.size wr X) => Reads.takes (RP.out X (hB5.trans (hb.mono hB5.size))) (show i2 ≤ pn by omega))
          clear hx hc hcc hB5
          by_cases hx0 : 0 ≤ x
          · by_cases hxN : x < (N : Int)
            · have d0 : decide (x ≥ 0) = true := decide_eq_true hx0
              have d1 : decide (x < (N : Int)) = true := decide_eq_true hxN
              have HON := Lib.hid (show gv.onB x 0 = true from by
                rw [← HR.out.there]
                unfold GraphV.thereB
                rw [HN.out]
                exact decide_eq_true ⟨hx0, hxN⟩)
              obtain ⟨has, hhas⟩ : ∃ has, decide (x ∈ pl.take i2) = has := ⟨_, rfl⟩
              have CH := Lib.hid (fun (X : World) (hb : Below wr.heap.size wr X) => rhas_any X (some ⟨b, off, none⟩) i2 pc _ (RT.out X hb) x has hhas)
              have CL := Lib.hid (fun (X : World) (hb : Below wr.heap.size wr X) => (len_is (GX.out X hb)).mono (fun e w' hh => show e = Ending.returned (.int .i64 (N : Int)) ∧ Below X.heap.size X w' from ⟨by rw [hh.1, HN.out], by rw [← hh.2]; exact Below.refl _ _⟩))
              have HH := Lib.hid hhas
              clear hhas
              go_wp2_with (fail)
              go_region_held3 (fun X => X.cell? ⟨b, off + i2, none⟩ = some (.int .i64 x) ∧ Below wr.heap.size wr X)
                (first
                  | (go_keep; done)
                  | exact HR0.out _ (Below.refl _ _)
                  | exact HR0.out _ (Below.refl _ _).drew
                  | (go_split_ands; exact HR0.out _ (below_on (by assumption) hbel)))
                (first
                  | (go_at_call 13; go_split_ands; refine (CL.out _ (by assumption)).mono ?_; rintro e w' ⟨rfl, hbel⟩)
                  | (go_at_call 14; go_split_ands; refine (CH.out _ (by assumption)).mono ?_; rintro e w' ⟨rfl, hbel⟩))
              all_goals
                rename_i hH
                have B9 := Lib.hid (HB.out.trans (hH.2.mono HB.out.size))
                clear hH
                cases has with
                | true =>
                  have HE := Lib.hid (show (pick (fun i => gv.onB i 0) (pl.take (i2 + 1))).length = cnt from by
                    rw [HSTEP.out, HCNT.out, if_neg (fun h => h.2 (of_decide_eq_true HH.out))]
                    rfl)
                  go_wp2
                  go_roundw
                  case rel => exact ⟨i2 + 1, cnt, by omega, by omega, by go_num, rfl, HE, B9.out⟩
                  case measure => simp [intOf]; omega
                | false =>
                  have HE := Lib.hid (show (pick (fun i => gv.onB i 0) (pl.take (i2 + 1))).length = cnt + 1 from by
                    rw [HSTEP.out, HCNT.out, if_pos ⟨HON.out, of_decide_eq_false HH.out⟩])
                  go_wp2
                  go_roundw
                  case rel => exact ⟨i2 + 1, cnt + 1, by omega, by omega, by go_num, by go_num, HE, B9.out⟩
                  case measure => simp [intOf]; omega
            · have d0 : decide (x ≥ 0) = true := decide_eq_true hx0
              have d1 : decide (x < (N : Int)) = false := decide_eq_false hxN
              have HE := Lib.hid (show (pick (fun i => gv.onB i 0) (pl.take (i2 + 1))).length = cnt from by
                rw [HSTEP.out, HCNT.out, if_neg (fun h => by
                  have h1 := h.1
                  rw [← HR.out.there] at h1
                  unfold GraphV.thereB at h1
                  rw [HN.out] at h1
                  have := of_decide_eq_true h1
                  omega)]
                rfl)
              have LC := Lib.hid (fun m => (len_is (GX.out (wr.drewN m) (below_draws (Below.refl _ _) m))).mono (fun e w' hh => show e = Ending.returned (.int .i64 (N : Int)) ∧ w' = wr.drewN m from ⟨by rw [hh.1, HN.out], hh.2.symm⟩))
              go_wp2_with (fail)
              go_quiet (first | (go_at_call 13; refine Calls.quiet_of_same (LC.out _)))
              go_wp2
              go_roundw
              case rel => exact ⟨i2 + 1, cnt, by omega, by omega, by go_num, rfl, HE, below_draws HB.out _⟩
              case measure => simp [intOf]; omega
          · have d0 : decide (x ≥ 0) = false := decide_eq_false hx0
            have HE := Lib.hid (show (pick (fun i => gv.onB i 0) (pl.take (i2 + 1))).length = cnt from by
              rw [HSTEP.out, HCNT.out, if_neg (fun h => hx0 (onB_nonneg h.1))]
              rfl)
            go_wp2_with (fail)
            go_quiet (fail)
            go_wp2
            go_roundw
            case rel => exact ⟨i2 + 1, cnt, by omega, by omega, by go_num, rfl, HE, below_draws HB.out _⟩
            case measure => simp [intOf]; omega
        · have hcn : cnt = nl := by
            have h1 := HCNT.out
            rw [List.take_of_length_le (by rw [HPL.out]; omega)] at h1
            have h2 := HLEN.out
            have h3 := HNN.out
            omega
          have e0 : ((nl : Int) == (cnt : Int)) = true := by rw [hcn]; simp
          have e1 : decide ((nl : Int) = (cnt : Int)) = true := decide_eq_true (by omega)
          have e2 : decide (nl = cnt) = true := decide_eq_true hcn.symm
          have B9 := Lib.hid (B5.out.trans (HB.out.mono B5.out.size))
          clear hcn
          go_wp2
          go_ret
          exact ⟨rfl, B9.out⟩
theorem linksNear_row : Rows.LinksNearSaid :=
  OpenClaim.holds_of_wide 7 Try.f7 rfl rfl rfl rfl rfl rfl rfl ⟨rfl, rfl, rfl, rfl, rfl⟩ rfl rfl rfl rfl rfl (by kernel_rfl) Try.func7 (by kernel_rfl)
    (of_decide_eq_true (by kernel_rfl)) (by unfold Func.isWrapper; rw [if_neg (of_decide_eq_false (by kernel_rfl))]; exact ⟨rfl, rfl⟩)
    (fun os started H enc _ => lift (C := Try.checked) (s := Rows.linksNearSpec) (conds := Rows.linksNearRow.domain) os started H enc prog_own (by kernel_rfl) Try.func7 prog_laid rfl Try.underlying4 rfl
      (fun ds hl => by
        have hl : ds.length = 4 := hl
        match ds, hl with
        | [_, _, _, _], _ => rfl)
      (of_decide_eq_true (by kernel_rfl))
      (ChangeSpec.witness6 (enc := enc) (C := Try.checked) false ⟨#[], #[.int .u8 0, .slice none 0 0, .slice none 0 0, .slice none 0 0], []⟩ 8 (by kernel_rfl) (by kernel_rfl) (by kernel_rfl) (by kernel_rfl))
      (fun W base args ds p g => by
        rw [Try.params7] at g
        obtain ⟨m0, e0, hm⟩ := g.u8 0 rfl Try.underlying5
        obtain ⟨a, n, c, xs, e1, hx⟩ := g.ops11 1 rfl
        obtain ⟨qa, qn, qc, q, e2, hq, _⟩ := g.slice 2 rfl Try.underlying33 Try.underlying21 (by kernel_rfl) (by kernel_rfl)
        obtain ⟨pa, pn, pc, pl, e3, hp, hpc⟩ := g.places11 3 rfl
        rw [args4 g.count e0 e1 e2 e3]
        exact near11_walk W m0 (by omega) a qa pa n c qn qc pn pc xs hx q hq pl hp hpc))
end Go.Proofs.Ytdfpfgkfmjehiaa
