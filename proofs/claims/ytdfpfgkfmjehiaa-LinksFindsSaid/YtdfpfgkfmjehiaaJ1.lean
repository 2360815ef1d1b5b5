/-
  LinksFinds holds: a walk that is wide enough finds all, from anywhere, whatever was done.
-/
import Derived.Test.YtdfpfgkfmjehiaaRows
import Derived.Test.YtdfpfgkfmjehiaaIk
namespace Go.Proofs.Ytdfpfgkfmjehiaa
open Go.ChangeShapes Go.WideShapes Go.ChangeAt Go.RowKit

set_option maxRecDepth 100000 in
set_option maxHeartbeats 12800000 in
theorem finds11_walk (w : World) (m : Nat) (hm : m ≤ 255) (a qa : Option Addr) (n c qn qc : Nat) (xs : List shOp11.T) (hx : Rd (· < w.heap.size) w shOps11 [.slice a n c] xs) (q : List Int) (hq : Reads .i32 w qa qn q) (fr : Int) (hf1 : -9223372036854775808 ≤ fr) (hf2 : fr ≤ 9223372036854775807) :
    Calls Try.prog 5 #[.int .u8 (m : Int), .slice a n c, .slice qa qn qc, .int .i64 fr] w fun e w' => e = .returned (.bool true) ∧ Below w.heap.size w w' := by
  obtain ⟨mm, hmm⟩ : ∃ mm : Nat, (m : Int) % 2 = (mm : Int) := ⟨m % 2, by omega⟩
  have hm2 : mm ≤ 1 := by omega
  have HX := Lib.hid hx
  clear hx
  have HQ := Lib.hid hq
  have HF := Lib.hid (And.intro hf1 hf2)
  have hqs := hq.small
  clear hq hf1 hf2
  go_enter Try.func5, Try.ntmps5
  go_wp2_with (fail)
  refine (alive11 w).mono ?_
  rintro e w1 ⟨rfl, hb1⟩
  go_wp2_with (fail)
  refine (gnew_any w1 mm (by omega)).mono ?_
  rintro e w2 ⟨rfl, h2, hb2⟩
  have hs1 := hb1.size
  have hs2 := hb2.size
  obtain ⟨W3, hW3⟩ : ∃ W3, w2.alloc (.cells #[.int .i64 (mm : Int), .slice none 0 0] 30) = W3 := ⟨_, rfl⟩
  have hb3 : Below w2.heap.size w2 W3 := by rw [← hW3]; exact (Below.refl _ _).alloc (Nat.le_refl _) _
  have B3 := Lib.hid (below_on (below_on hb1 hb2) hb3)
  have CB := Lib.hid (built w w1 w2 W3 mm (by omega) h2 hs1 hs2 hW3 a n c xs (Rd.stay B3.out.size (fun q hq _ => B3.out.block q hq) (fun _ h _ => h) HX.out) 80 (by decide))
  clear h2 hb1 hb2 hb3
  go_wp2_with (first | (rw [hW3]) | fail)
  clear hW3
  refine CB.out.mono ?_
  rintro e w4 ⟨rfl, F, G, gv, hG, hB, hL, hMM⟩
  have HG := Lib.hid hG
  have B4 := Lib.hid (B3.out.trans hB)
  have HR := Lib.hid hG.code.right
  clear hG hB CB B3 HX
  obtain ⟨N, hN⟩ : ∃ N, gv.L.length = N := ⟨_, rfl⟩
  have HN := Lib.hid hN
  have hNN : N ≤ 100 := by omega
  have LC := Lib.hid (len_is HG.out.code)
  rw [hN] at LC
  clear hL hN
  go_wp2_with (fail)
  refine LC.out.mono ?_
  rintro e w5 ⟨rfl, hw5⟩
  subst hw5
  by_cases hq100 : qn ≤ 100
  rotate_left
  · have hkd : (100 : Int) < (qn : Int) := by omega
    go_wp2
    go_ret
    exact ⟨rfl, B4.out⟩
  have hkd : decide ((100 : Int) < (qn : Int)) = false := decide_eq_false (by omega)
  have hkd2 : decide ((qn : Int) > 100) = false := decide_eq_false (by omega)
  by_cases hN0 : N = 0
  · have e0 : ((N : Int) == 0) = true := by simpa using hN0
    have e1 : decide ((N : Int) = 0) = true := decide_eq_true (by omega)
    have e2 : decide (N = 0) = true := decide_eq_true hN0
    have HN0 := Lib.hid hN0
    clear hN0
    obtain ⟨w6, hw6⟩ : ∃ w6, w4.alloc (.cells #[.int .i64 fr] 3) = w6 := ⟨_, rfl⟩
    have b6 : Below w4.heap.size w4 w6 := by rw [← hw6]; exact (Below.refl _ _).alloc (Nat.le_refl _) _
    have B6 := Lib.hid (B4.out.trans (b6.mono B4.out.size))
    have CW := Lib.hid (walk_is (HG.out.code.on b6) qa qn qc q (HQ.out.below (Nat.le_refl _) B6.out) (some ⟨w4.heap.size, 0, none⟩) 1 1 [fr] (by rw [← hw6]; exact reads_lit w4 [fr] 1 rfl (by decide) (by decide) (by have := HF.out; intro x hx; simp at hx; subst hx; simp [Lit.wf, IntKind.min, IntKind.max, IntKind.signed, IntKind.bits]; omega)) (by decide) (N : Int) 0)
    clear b6
    go_wp2_with (first | (rw [hw6]) | fail)
    clear hw6
    refine CW.out.mono ?_
    rintro e w7 ⟨gl, nl, rfl, ho, hb7, hgl⟩
    have hnl : nl = 0 := by
      have e3 : gv.walk q [fr] (N : Int) 0 = [] := by
        unfold GraphV.walk
        have hg : gv.L = [] := List.eq_nil_of_length_eq_zero (by rw [HN.out, HN0.out])
        have hp : pick (fun i => gv.onB i 0) [fr] = [] := by
          apply List.eq_nil_iff_forall_not_mem.2
          intro j hj
          have h1 := (pick_ok _ [fr] (fun i => onB_nonneg)).2 j hj
          unfold GraphV.onB at h1
          rw [hg] at h1
          have := of_decide_eq_true h1
          simp at this
          omega
        rw [hp, walkF_nil (show (gv.start q (widthN (N : Int)) []).waits = [] from rfl)]
        simp [GraphV.start, keepL, sortL]
      rw [e3] at ho
      obtain ⟨a', c', e4⟩ := ho.size
      simp only [Value.slice.injEq] at e4
      exact e4.2.1
    subst hnl
    have B7 := Lib.hid (B6.out.trans (hb7.mono B6.out.size))
    clear ho hb7 hgl CW
    go_wp2
    go_ret
    exact ⟨rfl, B7.out⟩
  have e0 : ((N : Int) == 0) = false := by simpa using hN0
  have e1 : decide ((N : Int) = 0) = false := decide_eq_false (by omega)
  have e2 : decide (N = 0) = false := decide_eq_false hN0
  have hNp : 0 < N := by omega
  clear hN0 LC
  go_wp2_with (fail)
  go_loopw [11, 12] (fun s11 s12 wr => ∃ (i k c1 : Nat) (a1 : Option Addr), i ≤ N ∧ s12 = .int .i64 (i : Int) ∧ s11 = .slice a1 k c1 ∧ Hid (IntsAt w4.heap.size wr (.slice a1 k c1) (List.range i)) ∧ Hid (Below w4.heap.size w4 wr)) (fun _ s12 _ => N - (intOf s12).toNat)
  case atStart => exact ⟨0, 0, 0, none, Nat.zero_le _, rfl, rfl, RowC.nil _ _ _ _, Below.refl _ _⟩
  case round =>
    obtain ⟨i, k, c1, a1, hi, rfl, rfl, HI, HB⟩ := hrel
    by_cases hiN : i < N
    · have hlx := HB.out.size
      have hk : (List.range i).length ≤ 1000000 := by rw [List.length_range]; omega
      have HKL := Lib.hid hk
      clear hk
      go_wp2_with (first
        | (at_builtin; go_must (refine app_int wr rfl _ _ rfl w4.heap.size (.slice a1 k c1) _ i rfl rfl HI.out hlx HKL.out ?_); intro v3 w3 h3 k3 g3; obtain ⟨pa3, pn3, pc3, rfl, -⟩ := h3.parts; have H3 := Lib.hid h3; have K3 := Lib.hid k3; clear h3 k3 g3)
        | fail)
      go_roundw
      case rel => exact ⟨i + 1, pn3, pc3, pa3, by omega, by go_num, rfl, by rw [List.range_succ]; exact H3.out, HB.out.trans (K3.out.below (fun b hb => (RowC.lt HI.out b (mem_ownB.1 hb)).1) hlx)⟩
      case measure => simp [intOf]; omega
    · obtain rfl : i = N := by omega
      obtain ⟨fu, hfu⟩ : ∃ fu : Nat, IntKind.u64.wrap fr = (fu : Int) := ⟨(fr % 18446744073709551616).toNat, by rw [IntKind.wrap_u64]; omega⟩
      obtain ⟨st, hst2⟩ : ∃ st : Nat, (fu : Int) % (i : Int) = (st : Int) := ⟨fu % i, by omega⟩
      have hstl : st < i := by
        have := Int.emod_lt_of_pos (fu : Int) (show (0 : Int) < (i : Int) by omega)
        omega
      have hst : (fu : Int).tmod (i : Int) = (st : Int) := (Int.tmod_eq_emod_of_nonneg (by omega)).trans hst2
      have HST := Lib.hid hstl
      obtain ⟨sz, hsz⟩ : ∃ sz : Int, (st : Int) = sz := ⟨_, rfl⟩
      rw [hsz] at hst
      have hszw : IntKind.i64.wrap sz = sz := by rw [IntKind.wrap_i64]; omega
      have HSZ := Lib.hid hsz
      have hNw : IntKind.u64.wrap (i : Int) = (i : Int) := by rw [IntKind.wrap_u64]; omega
      have hsb : 0 ≤ sz ∧ sz < 200 := by omega
      have HSB := Lib.hid hsb
      have hlx := HB.out.size
      have B5 := Lib.hid (B4.out.trans (HB.out.mono B4.out.size))
      obtain ⟨w6, hw6⟩ : ∃ w6, wr.alloc (.cells #[.int .i64 sz] 3) = w6 := ⟨_, rfl⟩
      have b6 : Below wr.heap.size wr w6 := by rw [← hw6]; exact (Below.refl _ _).alloc (Nat.le_refl _) _
      have B6 := Lib.hid (B5.out.trans (b6.mono B5.out.size))
      have G6 := Lib.hid ((HG.out.code.on HB.out).on b6)
      have HWALK := Lib.hid (show gv.walk q [sz] (i : Int) 0 = gv.near q (natsI (List.range i)) from by
        rw [← HSZ.out]
        have h1 := walk_all gv HR.out q st (by rw [HN.out]; exact HST.out) (by rw [HN.out]; omega)
        rw [HN.out] at h1
        exact h1)
      have CW := Lib.hid (walk_is G6.out qa qn qc q (HQ.out.below (Nat.le_refl _) B6.out) (some ⟨wr.heap.size, 0, none⟩) 1 1 [sz] (by rw [← hw6]; exact reads_lit wr [sz] 1 rfl (by decide) (by decide) (by intro x hx; simp at hx; subst hx; have := HSB.out; simp [Lit.wf, IntKind.min, IntKind.max, IntKind.signed, IntKind.bits]; omega)) (by decide) (i : Int) 0)
      rw [HWALK.out] at CW
      have HRR := Lib.hid (HI.out.reads (by rw [List.length_range]; omega) (fun y hy => by have := List.mem_range.1 hy; omega))
      have HBB6 := Lib.hid b6
      have hki : k ≤ 100 := by
        have h1 := intsAt_n HI.out
        rw [List.length_range] at h1
        omega
      have HNL := Lib.hid (show (gv.near q (natsI (List.range i))).length ≤ 1000000 from by
        have := gv.near_len q (natsI (List.range i))
        rw [natsI_len, List.length_range] at this
        omega)
      clear b6 hst2 hstl hsz hsb
      go_wp2_with (first | (rw [hw6]) | fail)
      clear hw6
      refine CW.out.mono ?_
      intro e w7 hh
      obtain ⟨a7, n7, c7, rfl, hr7, hb7⟩ := hh.parts HNL.out
      have R7 := Lib.hid hr7
      have BB7 := Lib.hid hb7
      have B7 := Lib.hid (B6.out.trans (hb7.mono B6.out.size))
      have CN := Lib.hid (near_is (G6.out.on hb7) qa qn qc q (HQ.out.below (Nat.le_refl _) B7.out) a1 k c1 _ ((HRR.out.below (Nat.le_refl _) HBB6.out).below (Nat.le_refl _) hb7) (by omega))
      clear hh hr7 hb7 CW
      go_wp2_with (fail)
      refine CN.out.mono ?_
      intro e w8 hh
      obtain ⟨a8, n8, c8, rfl, hr8, hb8⟩ := hh.parts HNL.out
      have B8 := Lib.hid (B7.out.trans (hb8.mono B7.out.size))
      have CS := Lib.hid (same_any a7 a8 n7 n8 c7 c8 _ _ w8 (R7.out.below (Nat.le_refl _) hb8) hr8)
      clear hh hr8 hb8 CN
      go_wp2_with (fail)
      refine CS.out.mono ?_
      rintro e w9 ⟨rfl, hb9⟩
      have B9 := Lib.hid (B8.out.trans (hb9.mono B8.out.size))
      clear hb9
      go_wp2
      go_ret
      exact ⟨by simp, B9.out⟩
theorem linksFinds_row : Rows.LinksFindsSaid :=
  OpenClaim.holds_of_wide 5 Try.f5 rfl rfl rfl rfl rfl rfl rfl ⟨rfl, rfl, rfl, rfl, rfl⟩ rfl rfl rfl rfl rfl (by kernel_rfl) Try.func5 (by kernel_rfl)
    (of_decide_eq_true (by kernel_rfl)) (by unfold Func.isWrapper; rw [if_neg (of_decide_eq_false (by kernel_rfl))]; exact ⟨rfl, rfl⟩)
    (fun os started H enc _ => lift (C := Try.checked) (s := Rows.linksFindsSpec) (conds := Rows.linksFindsRow.domain) os started H enc prog_own (by kernel_rfl) Try.func5 prog_laid rfl Try.underlying4 rfl
      (fun ds hl => by
        have hl : ds.length = 4 := hl
        match ds, hl with
        | [_, _, _, _], _ => rfl)
      (of_decide_eq_true (by kernel_rfl))
      (ChangeSpec.witness6 (enc := enc) (C := Try.checked) false ⟨#[], #[.int .u8 0, .slice none 0 0, .slice none 0 0, .int .i64 0], []⟩ 8 (by kernel_rfl) (by kernel_rfl) (by kernel_rfl) (by kernel_rfl))
      (fun W base args ds p g => by
        rw [Try.params5] at g
        obtain ⟨m0, e0, hm⟩ := g.u8 0 rfl Try.underlying5
        obtain ⟨a, n, c, xs, e1, hx⟩ := g.ops11 1 rfl
        obtain ⟨qa, qn, qc, q, e2, hq, _⟩ := g.slice 2 rfl Try.underlying33 Try.underlying21 (by kernel_rfl) (by kernel_rfl)
        obtain ⟨kk, e3, hk1, hk2⟩ := g.i64 3 rfl Try.underlying3
        rw [args4 g.count e0 e1 e2 e3]
        exact finds11_walk W m0 (by omega) a qa n c qn qc xs hx q hq kk hk1 hk2))
end Go.Proofs.Ytdfpfgkfmjehiaa
