/-
  LinksPlays holds: whatever is added, linked, chosen and walked, each answer is the document's, and so are all nodes.
-/
import Derived.Test.YtdfpfgkfmjehiaaRows
import Derived.Test.YtdfpfgkfmjehiaaIl
namespace Go.Proofs.Ytdfpfgkfmjehiaa
open Go.ChangeShapes Go.WideShapes Go.ChangeAt Go.RowKit

set_option maxRecDepth 100000 in
set_option maxHeartbeats 12800000 in
theorem plays11_walk (w : World) (m : Nat) (hm : m ≤ 255) (a : Option Addr) (n c : Nat) (xs : List shOp11.T) (hx : Rd (· < w.heap.size) w shOps11 [.slice a n c] xs) :
    Calls Try.prog 3 #[.int .u8 (m : Int), .slice a n c] w fun e w' => e = .returned (.bool true) ∧ Below w.heap.size w w' := by
  obtain ⟨mm, hmm⟩ : ∃ mm : Nat, (m : Int) % 2 = (mm : Int) := ⟨m % 2, by omega⟩
  have hm2 : mm ≤ 1 := by omega
  have HX := Lib.hid hx
  clear hx
  go_enter Try.func3, Try.ntmps3
  go_wp2_with (fail)
  refine (alive11 w).mono ?_
  rintro e w1 ⟨rfl, hb1⟩
  go_wp2_with (fail)
  refine (gnew_any w1 mm (by omega)).mono ?_
  rintro e w2 ⟨rfl, h2, hb2⟩
  have hs1 := hb1.size
  have hs2 := hb2.size
  obtain ⟨W3, hW3⟩ : ∃ W3, w2.alloc (.cells #[.int .i64 (mm : Int), .slice none 0 0] 30) = W3 := ⟨_, rfl⟩
  have hb3 : Below w2.heap.size w2 W3 := by rw [← hW3]; exact (Below.refl _ _).alloc (Nat.le_refl _) _
  have B3 := Lib.hid (below_on (below_on hb1 hb2) hb3)
  have CB := Lib.hid (built w w1 w2 W3 mm (by omega) h2 hs1 hs2 hW3 a n c xs (Rd.stay B3.out.size (fun q hq _ => B3.out.block q hq) (fun _ h _ => h) HX.out) 80 (by decide))
  clear h2 hb1 hb2 hb3
  go_wp2_with (first | (rw [hW3]) | fail)
  clear hW3
  refine CB.out.mono ?_
  rintro e w4 ⟨rfl, F, G, gv, hG, hB, hL, hMM⟩
  have HG := Lib.hid hG
  have B4 := Lib.hid (B3.out.trans hB)
  have HR := Lib.hid hG.code.right
  clear hG hB CB B3 HX
  obtain ⟨N, hN⟩ : ∃ N, gv.L.length = N := ⟨_, rfl⟩
  have HN := Lib.hid hN
  have hNN : N ≤ 100 := by omega
  obtain ⟨ha, hn, hc, hs0, hsn, -, hsl, -⟩ := HG.out.ref.seen
  obtain rfl : hn = N := by rw [hsn.out, hN]
  obtain ⟨h, hh⟩ : ∃ h, w2.heap.size = h := ⟨_, rfl⟩
  rw [hh] at HG hs0 hsl ⊢
  have HS0 := Lib.hid hs0
  clear hN hL hsn hs0 hh
  go_wp2_with (fail)
  go_loopw [7] (fun s7 wr => ∃ i : Nat, i ≤ hn ∧ s7 = .int .i64 (i : Int) ∧ Hid (Below w4.heap.size w4 wr)) (fun s7 _ => hn - (intOf s7).toNat)
  case atStart => exact ⟨0, Nat.zero_le _, rfl, Below.refl _ _⟩
  case round =>
    obtain ⟨i, hi, rfl, HB⟩ := hrel
    have s1 : wr.cell? ⟨h, 1, none⟩ = some (.slice ha hn hc) := (HB.out.cell (p := ⟨h, 1, none⟩) hsl).trans HS0.out
    have sl := Nat.lt_of_lt_of_le hsl HB.out.size
    have BW := Lib.hid (B4.out.trans (HB.out.mono B4.out.size))
    have GW := Lib.hid (HG.out.code.on HB.out)
    by_cases hin : i < hn
    · obtain ⟨z, gu, zn, zc, hzv, hz1, hzn, hgu, hzr, hzR, -, -, -⟩ := HG.out.ref.node i (by rw [HN.out]; exact hin)
      obtain ⟨za, zcp, hzp, -⟩ := hzR.pl
      rw [HS0.out] at hz1
      simp only [Option.some.injEq, Value.slice.injEq] at hz1
      obtain ⟨rfl, rfl, rfl⟩ := hz1
      obtain ⟨ht, hat⟩ := nodeOr_at (gv := gv) (i := i) (by rw [HN.out]; exact hin)
      have CA := Lib.hid (node_is GW.out (i : Int))
      rw [ht] at CA
      have HZV := Lib.hid (show gv.nodeOr (i : Int) = z.toV from by rw [hzv] at hat; exact (Option.some.inj hat).symm)
      have HZR := Lib.hid hzR
      have HZC := Lib.hid (show z.cells = z.six za zcp from by unfold NodeL.cells NodeL.six; rw [hzp])
      have HRG := Lib.hid hzr
      clear hzv hzn hzr hzR hzp ht hat
      go_wp2_with (fail)
      refine CA.out.mono ?_
      rintro e w5 ⟨y, ap, cp, rfl, hy, hb5⟩
      unfold NodeL.six
      obtain ⟨w6, hw6⟩ : ∃ w6, w5.alloc (.cells #[.int .u32 (y.it.id : Int), .slice y.it.pv.1 y.it.pv.2.1 y.it.pv.2.2, .slice y.it.pt.1 y.it.pt.2.1 y.it.pt.2.2, .int .u64 (y.frm : Int), .int .u64 (y.til : Int), .slice ap y.links.length cp] 40) = w6 := ⟨_, rfl⟩
      have a6 : Below w5.heap.size w5 w6 := by rw [← hw6]; exact (Below.refl _ _).alloc (Nat.le_refl _) _
      obtain ⟨b1, hb1e⟩ : ∃ b1, w5.heap.size = b1 := ⟨_, rfl⟩
      have X6 := Lib.hid (show Blk w6 b1 40 [.int .u32 (y.it.id : Int), .slice y.it.pv.1 y.it.pv.2.1 y.it.pv.2.2, .slice y.it.pt.1 y.it.pt.2.1 y.it.pt.2.2, .int .u64 (y.frm : Int), .int .u64 (y.til : Int), .slice ap y.links.length cp] from by rw [← hw6, ← hb1e]; exact Blk.new _ _ _)
      have b46 := HB.out.trans ((hb5.trans (a6.mono hb5.size)).mono HB.out.size)
      have T6 := Lib.hid (hy.on a6)
      have B6 := Lib.hid (B4.out.trans (b46.mono B4.out.size))
      have HB6 := Lib.hid b46
      have CS := Lib.hid (fun (X : World) (hb : Below w6.heap.size w6 X) => show Calls Try.prog 12 #[.agg #[.int .u32 (y.it.id : Int), .slice y.it.pv.1 y.it.pv.2.1 y.it.pv.2.2, .slice y.it.pt.1 y.it.pt.2.1 y.it.pt.2.2, .int .u64 (y.frm : Int), .int .u64 (y.til : Int), .slice ap y.links.length cp], .agg #[.int .u32 (z.it.id : Int), .slice z.it.pv.1 z.it.pv.2.1 z.it.pv.2.2, .slice z.it.pt.1 z.it.pt.2.1 z.it.pt.2.2, .int .u64 (z.frm : Int), .int .u64 (z.til : Int), .slice za z.links.length zcp]] X (fun e w' => e = .returned (.bool true) ∧ Below X.heap.size X w') from by
        have h1 := samenode_any X y z ((T6.out.on hb).reads HR.out (by rw [HN.out]; omega)) (HZR.out.on (HB6.out.trans (hb.mono HB6.out.size))) (by rw [T6.out.toV]; exact HZV.out)
        rw [T6.out.cells, HZC.out] at h1
        exact h1)
      have HSC := Lib.hid (fun (X : World) (hb : Below w6.heap.size w6 X) => show X.cell? ⟨b1, 0, none⟩ = some (.int .u32 (y.it.id : Int)) ∧ X.cell? ⟨b1, 1, none⟩ = some (.slice y.it.pv.1 y.it.pv.2.1 y.it.pv.2.2) ∧ X.cell? ⟨b1, 2, none⟩ = some (.slice y.it.pt.1 y.it.pt.2.1 y.it.pt.2.2) ∧ X.cell? ⟨b1, 3, none⟩ = some (.int .u64 (y.frm : Int)) ∧ X.cell? ⟨b1, 4, none⟩ = some (.int .u64 (y.til : Int)) ∧ X.cell? ⟨b1, 5, none⟩ = some (.slice ap y.links.length cp) ∧ X.cell? ⟨h, 1, none⟩ = some (.slice (some ⟨gu, 0, none⟩) hn hc) ∧ X.cell? ⟨gu, i * 6, none⟩ = some (.int .u32 (z.it.id : Int)) ∧ X.cell? ⟨gu, i * 6 + 1, none⟩ = some (.slice z.it.pv.1 z.it.pv.2.1 z.it.pv.2.2) ∧ X.cell? ⟨gu, i * 6 + 2, none⟩ = some (.slice z.it.pt.1 z.it.pt.2.1 z.it.pt.2.2) ∧ X.cell? ⟨gu, i * 6 + 3, none⟩ = some (.int .u64 (z.frm : Int)) ∧ X.cell? ⟨gu, i * 6 + 4, none⟩ = some (.int .u64 (z.til : Int)) ∧ X.cell? ⟨gu, i * 6 + 5, none⟩ = some (.slice za z.links.length zcp) ∧ Below w6.heap.size w6 X from by
        have hX := (Kept.of_below (F := []) hb (Nat.le_refl _)).blk X6.out (by simp)
        have b4X := HB6.out.trans (hb.mono HB6.out.size)
        have hg := HRG.out
        rw [HZC.out] at hg
        exact ⟨hX.cell 0, hX.cell 1, hX.cell 2, hX.cell 3, hX.cell 4, hX.cell 5, (b4X.cell (p := ⟨h, 1, none⟩) hsl).trans HS0.out, (b4X.cell (p := ⟨gu, i * 6, none⟩) hgu).trans (hg 0 _ rfl), (b4X.cell (p := ⟨gu, i * 6 + 1, none⟩) hgu).trans (hg 1 _ rfl), (b4X.cell (p := ⟨gu, i * 6 + 2, none⟩) hgu).trans (hg 2 _ rfl), (b4X.cell (p := ⟨gu, i * 6 + 3, none⟩) hgu).trans (hg 3 _ rfl), (b4X.cell (p := ⟨gu, i * 6 + 4, none⟩) hgu).trans (hg 4 _ rfl), (b4X.cell (p := ⟨gu, i * 6 + 5, none⟩) hgu).trans (hg 5 _ rfl), hb⟩)
      have hl1 := X6.out.lt
      have hl2 := Nat.lt_of_lt_of_le hgu b46.size
      have hl3 := Nat.lt_of_lt_of_le hsl b46.size
      clear hy hb5 a6 b46 CA
      go_wp2_with (first | (rw [hw6]) | fail)
      clear hw6
      go_region_held3 (fun X => X.cell? ⟨b1, 0, none⟩ = some (.int .u32 (y.it.id : Int)) ∧ X.cell? ⟨b1, 1, none⟩ = some (.slice y.it.pv.1 y.it.pv.2.1 y.it.pv.2.2) ∧ X.cell? ⟨b1, 2, none⟩ = some (.slice y.it.pt.1 y.it.pt.2.1 y.it.pt.2.2) ∧ X.cell? ⟨b1, 3, none⟩ = some (.int .u64 (y.frm : Int)) ∧ X.cell? ⟨b1, 4, none⟩ = some (.int .u64 (y.til : Int)) ∧ X.cell? ⟨b1, 5, none⟩ = some (.slice ap y.links.length cp) ∧ X.cell? ⟨h, 1, none⟩ = some (.slice (some ⟨gu, 0, none⟩) hn hc) ∧ X.cell? ⟨gu, i * 6, none⟩ = some (.int .u32 (z.it.id : Int)) ∧ X.cell? ⟨gu, i * 6 + 1, none⟩ = some (.slice z.it.pv.1 z.it.pv.2.1 z.it.pv.2.2) ∧ X.cell? ⟨gu, i * 6 + 2, none⟩ = some (.slice z.it.pt.1 z.it.pt.2.1 z.it.pt.2.2) ∧ X.cell? ⟨gu, i * 6 + 3, none⟩ = some (.int .u64 (z.frm : Int)) ∧ X.cell? ⟨gu, i * 6 + 4, none⟩ = some (.int .u64 (z.til : Int)) ∧ X.cell? ⟨gu, i * 6 + 5, none⟩ = some (.slice za z.links.length zcp) ∧ Below w6.heap.size w6 X)
        (first
          | (go_keep; done)
          | exact HSC.out _ (Below.refl _ _)
          | exact HSC.out _ (Below.refl _ _).drew
          | (go_split_ands; exact HSC.out _ (below_on (by assumption) hbel)))
        (first
          | (go_at_call 12; go_split_ands; refine (CS.out _ (by assumption)).mono ?_; rintro e w' ⟨rfl, hbel⟩))
      all_goals
        rename_i hH
        have B9 := Lib.hid (HB6.out.trans (hH.2.2.2.2.2.2.2.2.2.2.2.2.2.mono HB6.out.size))
        clear hH
        go_wp2
        go_roundw
        case rel => exact ⟨i + 1, by omega, by go_num, B9.out⟩
        case measure => simp [intOf]; omega
    · obtain rfl : i = hn := by omega
      have CA := Lib.hid (node_is GW.out (i : Int))
      have ht : gv.thereB (i : Int) = false := by
        unfold GraphV.thereB
        rw [HN.out]
        exact decide_eq_false (by omega)
      rw [ht] at CA
      clear ht
      go_wp2_with (fail)
      refine CA.out.mono ?_
      rintro e w5 ⟨y, ap, cp, rfl, hy, hb5⟩
      unfold NodeL.six
      obtain ⟨w6, hw6⟩ : ∃ w6, w5.alloc (.cells #[.int .u32 (y.it.id : Int), .slice y.it.pv.1 y.it.pv.2.1 y.it.pv.2.2, .slice y.it.pt.1 y.it.pt.2.1 y.it.pt.2.2, .int .u64 (y.frm : Int), .int .u64 (y.til : Int), .slice ap y.links.length cp] 40) = w6 := ⟨_, rfl⟩
      have a6 : Below w5.heap.size w5 w6 := by rw [← hw6]; exact (Below.refl _ _).alloc (Nat.le_refl _) _
      have b56 := hb5.trans (a6.mono hb5.size)
      have B6 := Lib.hid (BW.out.trans (b56.mono BW.out.size))
      have CA2 := Lib.hid (node_is (GW.out.on b56) (-1))
      have ht2 : gv.thereB (-1) = false := by
        unfold GraphV.thereB
        exact decide_eq_false (by omega)
      rw [ht2] at CA2
      clear hy hb5 a6 b56 CA ht2
      go_wp2_with (first | (rw [hw6]) | fail)
      clear hw6
      refine CA2.out.mono ?_
      rintro e w7 ⟨y2, ap2, cp2, rfl, hy2, hb7⟩
      unfold NodeL.six
      obtain ⟨w8, hw8⟩ : ∃ w8, w7.alloc (.cells #[.int .u32 (y2.it.id : Int), .slice y2.it.pv.1 y2.it.pv.2.1 y2.it.pv.2.2, .slice y2.it.pt.1 y2.it.pt.2.1 y2.it.pt.2.2, .int .u64 (y2.frm : Int), .int .u64 (y2.til : Int), .slice ap2 y2.links.length cp2] 40) = w8 := ⟨_, rfl⟩
      have a8 : Below w7.heap.size w7 w8 := by rw [← hw8]; exact (Below.refl _ _).alloc (Nat.le_refl _) _
      have B8 := Lib.hid (B6.out.trans ((hb7.trans (a8.mono hb7.size)).mono B6.out.size))
      clear hy2 hb7 a8 CA2
      go_wp2_with (first | (rw [hw8]) | fail)
      go_ret
      exact ⟨rfl, B8.out⟩
theorem linksPlays_row : Rows.LinksPlaysSaid :=
  OpenClaim.holds_of_wide 3 Try.f3 rfl rfl rfl rfl rfl rfl rfl ⟨rfl, rfl, rfl, rfl, rfl⟩ rfl rfl rfl rfl rfl (by kernel_rfl) Try.func3 (by kernel_rfl)
    (of_decide_eq_true (by kernel_rfl)) (by unfold Func.isWrapper; rw [if_neg (of_decide_eq_false (by kernel_rfl))]; exact ⟨rfl, rfl⟩)
    (fun os started H enc _ => lift (C := Try.checked) (s := Rows.linksPlaysSpec) (conds := Rows.linksPlaysRow.domain) os started H enc prog_own (by kernel_rfl) Try.func3 prog_laid rfl Try.underlying4 rfl
      (fun ds hl => by
        have hl : ds.length = 2 := hl
        match ds, hl with
        | [_, _], _ => rfl)
      (of_decide_eq_true (by kernel_rfl))
      (ChangeSpec.witness6 (enc := enc) (C := Try.checked) false ⟨#[], #[.int .u8 0, .slice none 0 0], []⟩ 8 (by kernel_rfl) (by kernel_rfl) (by kernel_rfl) (by kernel_rfl))
      (fun W base args ds p g => by
        rw [Try.params3] at g
        obtain ⟨m0, e0, hm⟩ := g.u8 0 rfl Try.underlying5
        obtain ⟨a, n, c, xs, e1, hx⟩ := g.ops11 1 rfl
        rw [args2 g.count e0 e1]
        exact plays11_walk W m0 (by omega) a n c xs hx))
end Go.Proofs.Ytdfpfgkfmjehiaa
