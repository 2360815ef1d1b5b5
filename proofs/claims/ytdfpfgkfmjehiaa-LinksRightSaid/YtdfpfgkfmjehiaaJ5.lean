/-
  LinksRight holds: whatever is done, no link goes to a node that isn't on its level, none to oneself, none is there twice.
-/
import Derived.Test.YtdfpfgkfmjehiaaRows
import Derived.Test.YtdfpfgkfmjehiaaIl
namespace Go.Proofs.Ytdfpfgkfmjehiaa
open Go.ChangeShapes Go.WideShapes Go.ChangeAt Go.RowKit

set_option maxRecDepth 100000 in
set_option maxHeartbeats 12800000 in
theorem right11_walk (w : World) (m : Nat) (hm : m ≤ 255) (a : Option Addr) (n c : Nat) (xs : List shOp11.T) (hx : Rd (· < w.heap.size) w shOps11 [.slice a n c] xs) :
    Calls Try.prog 4 #[.int .u8 (m : Int), .slice a n c] w fun e w' => e = .returned (.bool true) ∧ Below w.heap.size w w' := by
  obtain ⟨mm, hmm⟩ : ∃ mm : Nat, (m : Int) % 2 = (mm : Int) := ⟨m % 2, by omega⟩
  have hm2 : mm ≤ 1 := by omega
  have HX := Lib.hid hx
  clear hx
  go_enter Try.func4, Try.ntmps4
  go_wp2_with (fail)
  refine (alive11 w).mono ?_
  rintro e w1 ⟨rfl, hb1⟩
  go_wp2_with (fail)
  refine (gnew_any w1 mm (by omega)).mono ?_
  rintro e w2 ⟨rfl, h2, hb2⟩
  have hs1 := hb1.size
  have hs2 := hb2.size
  obtain ⟨W3, hW3⟩ : ∃ W3, w2.alloc (.cells #[.int .i64 (mm : Int), .slice none 0 0] 30) = W3 := ⟨_, rfl⟩
  have hb3 : Below w2.heap.size w2 W3 := by rw [← hW3]; exact (Below.refl _ _).alloc (Nat.le_refl _) _
  have B3 := Lib.hid (below_on (below_on hb1 hb2) hb3)
  have CB := Lib.hid (built w w1 w2 W3 mm (by omega) h2 hs1 hs2 hW3 a n c xs (Rd.stay B3.out.size (fun q hq _ => B3.out.block q hq) (fun _ h _ => h) HX.out) 80 (by decide))
  clear h2 hb1 hb2 hb3
  go_wp2_with (first | (rw [hW3]) | fail)
  clear hW3
  refine CB.out.mono ?_
  rintro e w4 ⟨rfl, F, G, gv, hG, hB, hL, hMM⟩
  have HG := Lib.hid hG
  have B4 := Lib.hid (B3.out.trans hB)
  have HR := Lib.hid hG.code.right
  clear hG hB CB B3 HX
  obtain ⟨N, hN⟩ : ∃ N, gv.L.length = N := ⟨_, rfl⟩
  have HN := Lib.hid hN
  have hNN : N ≤ 100 := by omega
  have LC := Lib.hid (fun (X : World) (hb : Below w4.heap.size w4 X) => (len_is (HG.out.code.on hb)).mono (fun e w' hh => show e = Ending.returned (.int .i64 (N : Int)) ∧ X = w' from ⟨by rw [hh.1, hN], hh.2⟩))
  clear hN hL
  go_wp2_with (fail)
  go_loopw [6] (fun s6 wr => ∃ i : Nat, i ≤ N ∧ s6 = .int .i64 (i : Int) ∧ Hid (Below w4.heap.size w4 wr)) (fun s6 _ => N - (intOf s6).toNat)
  case atStart => exact ⟨0, Nat.zero_le _, rfl, Below.refl _ _⟩
  case round =>
    obtain ⟨i, hi, rfl, HB⟩ := hrel
    have L1 := Lib.hid (LC.out wr HB.out)
    have BW := Lib.hid (B4.out.trans (HB.out.mono B4.out.size))
    go_wp2_with (fail)
    refine L1.out.mono ?_
    rintro e w' ⟨rfl, hw'⟩
    subst hw'
    by_cases hin : i < N
    rotate_left
    · go_wp2
      go_ret
      exact ⟨rfl, BW.out⟩
    obtain ⟨ht, hat⟩ := nodeOr_at (gv := gv) (i := i) (by rw [HN.out]; exact hin)
    have CA := Lib.hid (node_is (HG.out.code.on HB.out) (i : Int))
    rw [ht] at CA
    have HAT := Lib.hid hat
    clear ht hat
    go_wp2_with (fail)
    refine CA.out.mono ?_
    rintro e w5 ⟨y, ap, cp, rfl, hy, hb5⟩
    unfold NodeL.six
    obtain ⟨w6, hw6⟩ : ∃ w6, w5.alloc (.cells #[.int .u32 (y.it.id : Int), .slice y.it.pv.1 y.it.pv.2.1 y.it.pv.2.2, .slice y.it.pt.1 y.it.pt.2.1 y.it.pt.2.2, .int .u64 (y.frm : Int), .int .u64 (y.til : Int), .slice ap y.links.length cp] 40) = w6 := ⟨_, rfl⟩
    have a6 : Below w5.heap.size w5 w6 := by rw [← hw6]; exact (Below.refl _ _).alloc (Nat.le_refl _) _
    obtain ⟨b1, hb1e⟩ : ∃ b1, w5.heap.size = b1 := ⟨_, rfl⟩
    have X6 := Lib.hid (show Blk w6 b1 40 [.int .u32 (y.it.id : Int), .slice y.it.pv.1 y.it.pv.2.1 y.it.pv.2.2, .slice y.it.pt.1 y.it.pt.2.1 y.it.pt.2.2, .int .u64 (y.frm : Int), .int .u64 (y.til : Int), .slice ap y.links.length cp] from by rw [← hw6, ← hb1e]; exact Blk.new _ _ _)
    have HB6 := Lib.hid (HB.out.trans ((hb5.trans (a6.mono hb5.size)).mono HB.out.size))
    have T6 := Lib.hid (hy.on a6)
    have HYV := Lib.hid (show gv.L[i]? = some y.toV from by rw [hy.toV]; exact HAT.out)
    obtain ⟨yl, hyle⟩ : ∃ yl, y.links.length = yl := ⟨_, rfl⟩
    have hy1 : 1 ≤ yl := by rw [← hyle]; exact HR.out.one y.toV (List.mem_of_getElem? HYV.out)
    have hy5 : yl ≤ 5 := by rw [← hyle]; exact HR.out.most y.toV (List.mem_of_getElem? HYV.out)
    have x5 : w6.cell? ⟨b1, 5, none⟩ = some (.slice ap yl cp) := by rw [← hyle]; exact X6.out.cell 5
    have hl1 := X6.out.lt
    have HX5 := Lib.hid (fun (X : World) (hb : Below w6.heap.size w6 X) => (hb.cell (p := ⟨b1, 5, none⟩) hl1).trans x5)
    have HYL := Lib.hid hyle
    clear hy hb5 a6 CA hyle
    go_wp2_with (first | (rw [hw6]) | fail)
    clear hw6 x5
    go_loopw [9] (fun s9 wx => ∃ lv : Nat, lv ≤ yl ∧ s9 = .int .i64 (lv : Int) ∧ Hid (Below w6.heap.size w6 wx)) (fun s9 _ => yl - (intOf s9).toNat)
    case atStart => exact ⟨0, Nat.zero_le _, rfl, Below.refl _ _⟩
    case round =>
      obtain ⟨lv, hlv, rfl, HBL⟩ := hrel
      have x5 := HX5.out wr HBL.out
      have xl := Nat.lt_of_lt_of_le hl1 HBL.out.size
      by_cases hlvn : lv < yl
      rotate_left
      · have HBF := Lib.hid (HB6.out.trans (HBL.out.mono HB6.out.size))
        go_wp2
        go_roundw
        case rel => exact ⟨i + 1, by omega, by go_num, HBF.out⟩
        case measure => simp [intOf]; omega
      have hlvy : lv < y.links.length := by rw [HYL.out]; exact hlvn
      obtain ⟨yb, ya, yn, yc, rfl, hybl, hyc, hyI, hynk, hyn⟩ := T6.out.list hlvy
      have hyls : y.links.getD lv [] = gv.links i lv := (GraphV.links_some HYV.out lv).symm
      rw [hyls] at hyI hyn
      obtain ⟨OL, hOL⟩ : ∃ OL, gv.links i lv = OL := ⟨_, rfl⟩
      rw [hOL] at hyI hyn
      have HOL := Lib.hid hOL
      have HYS := Lib.hid (show OL.length ≤ 100 ∧ ∀ x ∈ OL, x ≤ 100 from by
        rw [← hOL]
        have hh := HN.out
        refine ⟨Nat.le_trans (nodup_le _ _ (HR.out.each i lv) (fun y hy => links_lt HR.out hy)) (by omega), fun x hx => ?_⟩
        have := links_lt HR.out hx
        omega)
      have RY := Lib.hid (IntsAt.reads hyI.out (by have := HYS.out.1; omega) (fun x hx => by have := HYS.out.2 x hx; omega))
      have HYC := Lib.hid (fun (X : World) (hb : Below w6.heap.size w6 X) => (hb.cell (p := ⟨yb, lv, none⟩) hybl).trans hyc)
      have c1 := HYC.out wr HBL.out
      have hyn100 : yn ≤ 100 := by have := HYS.out.1; omega
      have HYN := Lib.hid hyn
      have HCELLS := RY.out.cells
      have HBLX := HBL
      clear hyls hOL hyc hybl hyn
      go_wp2_with (fail)
      go_loopw [10] (fun s10 wx => ∃ k : Nat, k ≤ yn ∧ s10 = .int .i64 (k : Int) ∧ Hid (Below w6.heap.size w6 wx)) (fun s10 _ => yn - (intOf s10).toNat)
      case atStart => exact ⟨0, Nat.zero_le _, rfl, HBLX⟩
      case round =>
        clear HBLX HBL x5 xl c1
        obtain ⟨k, hk, rfl, HBK⟩ := hrel
        have x5 := HX5.out wr HBK.out
        have xl := Nat.lt_of_lt_of_le hl1 HBK.out.size
        have c1 := HYC.out wr HBK.out
        by_cases hkn : k < yn
        rotate_left
        · go_wp2
          go_roundw
          case rel => exact ⟨lv + 1, by omega, by go_num, HBK⟩
          case measure => simp [intOf]; omega
        rcases HCELLS with h0 | ⟨lb, lo3, rfl, hlb, hlc⟩
        · omega
        obtain ⟨t, htk⟩ : ∃ t, OL[k]? = some t := ⟨_, List.getElem?_eq_getElem (by rw [← HYN.out]; exact hkn)⟩
        have hc := (HBK.out.cell (p := ⟨lb, lo3 + k, none⟩) hlb).trans (hlc k hkn)
        rw [natsI_getD htk] at hc
        have hmem : t ∈ gv.links i lv := by rw [HOL.out]; exact List.mem_of_getElem? htk
        obtain ⟨hd1, hd2⟩ := HR.out.dest i lv t hmem
        have htN := links_lt HR.out hmem
        obtain ⟨htt, hatt⟩ := nodeOr_at htN
        have B4K := HB6.out.trans (HBK.out.mono HB6.out.size)
        have CT2 := Lib.hid (node_is (HG.out.code.on B4K) (t : Int))
        rw [htt] at CT2
        have HNP := Lib.hid (show t ∉ OL.take k from fun hm => by
          have h1 := HR.out.each i lv
          rw [HOL.out, ← List.take_append_drop (k + 1) OL, take_snoc htk] at h1
          exact (List.nodup_append.1 (List.nodup_append.1 h1).1).2.2 t hm t (by simp) rfl)
        have d0 : ((t : Int) == (i : Int)) = false := by rw [beq_eq_false_iff_ne]; omega
        have d1 : decide ((t : Int) = (i : Int)) = false := decide_eq_false (by omega)
        have d2 : decide (t = i) = false := decide_eq_false hd2
        have HATT := Lib.hid hatt
        have HD1 := Lib.hid hd1
        have hkc : k ≤ yc := by omega
        have RK := Lib.hid (show Reads .i64 w6 (some ⟨lb, lo3, none⟩) k (natsI (OL.take k)) from by
          have h1 := Reads.takes RY.out (show k ≤ yn by omega)
          have e : (natsI OL).take k = natsI (OL.take k) := by unfold natsI; rw [List.map_take]
          rw [e] at h1
          exact h1)
        clear htk hmem hd1 htN htt hatt B4K hlc
        go_wp2_with (fail)
        refine CT2.out.mono ?_
        rintro e w7 ⟨z, zp, zc, rfl, hz, hb7⟩
        unfold NodeL.six
        obtain ⟨w8, hw8⟩ : ∃ w8, w7.alloc (.cells #[.int .u32 (z.it.id : Int), .slice z.it.pv.1 z.it.pv.2.1 z.it.pv.2.2, .slice z.it.pt.1 z.it.pt.2.1 z.it.pt.2.2, .int .u64 (z.frm : Int), .int .u64 (z.til : Int), .slice zp z.links.length zc] 40) = w8 := ⟨_, rfl⟩
        have a8 : Below w7.heap.size w7 w8 := by rw [← hw8]; exact (Below.refl _ _).alloc (Nat.le_refl _) _
        obtain ⟨b2, hb2e⟩ : ∃ b2, w7.heap.size = b2 := ⟨_, rfl⟩
        have Z8 := Lib.hid (show Blk w8 b2 40 [.int .u32 (z.it.id : Int), .slice z.it.pv.1 z.it.pv.2.1 z.it.pv.2.2, .slice z.it.pt.1 z.it.pt.2.1 z.it.pt.2.2, .int .u64 (z.frm : Int), .int .u64 (z.til : Int), .slice zp z.links.length zc] from by rw [← hw8, ← hb2e]; exact Blk.new _ _ _)
        have B8 := Lib.hid (HBK.out.trans ((hb7.trans (a8.mono hb7.size)).mono HBK.out.size))
        have hzl : lv < z.links.length := by
          have h1 := HATT.out
          rw [← hz.toV] at h1
          have h2 := HD1.out
          rw [GraphV.lv_some h1] at h2
          exact h2
        obtain ⟨zl, hzle⟩ : ∃ zl, z.links.length = zl := ⟨_, rfl⟩
        rw [hzle] at hzl
        have z5 : w8.cell? ⟨b2, 5, none⟩ = some (.slice zp zl zc) := by rw [← hzle]; exact Z8.out.cell 5
        have zl2 := Z8.out.lt
        have y5 := HX5.out w8 B8.out
        have yl2 := Nat.lt_of_lt_of_le hl1 B8.out.size
        have c8 := HYC.out w8 B8.out
        have hc8 := (B8.out.cell (p := ⟨lb, lo3 + k, none⟩) hlb)
        have CH := Lib.hid (rhas_any w8 (some ⟨lb, lo3, none⟩) k yc _ (RK.out.below (Nat.le_refl _) B8.out) (t : Int) false (decide_eq_false (fun h => HNP.out (mem_natsI.1 h))))
        have e0 : decide ((zl : Int) ≤ (lv : Int)) = false := decide_eq_false (by omega)
        have e1 : decide (zl ≤ lv) = false := decide_eq_false (by omega)
        clear hz hb7 a8 CT2 hzle x5 xl c1 hc hc8
        go_wp2_with (first | (rw [hw8]) | fail)
        try (rw [hw8])
        refine CH.out.mono ?_
        rintro e w9 ⟨rfl, hb9⟩
        have B9 := Lib.hid (B8.out.trans (hb9.mono B8.out.size))
        clear hb9
        go_wp2
        go_roundw
        case rel => exact ⟨k + 1, by omega, by go_num, B9.out⟩
        case measure => simp [intOf]; omega
theorem linksRight_row : Rows.LinksRightSaid :=
  OpenClaim.holds_of_wide 4 Try.f4 rfl rfl rfl rfl rfl rfl rfl ⟨rfl, rfl, rfl, rfl, rfl⟩ rfl rfl rfl rfl rfl (by kernel_rfl) Try.func4 (by kernel_rfl)
    (of_decide_eq_true (by kernel_rfl)) (by unfold Func.isWrapper; rw [if_neg (of_decide_eq_false (by kernel_rfl))]; exact ⟨rfl, rfl⟩)
    (fun os started H enc _ => lift (C := Try.checked) (s := Rows.linksRightSpec) (conds := Rows.linksRightRow.domain) os started H enc prog_own (by kernel_rfl) Try.func4 prog_laid rfl Try.underlying4 rfl
      (fun ds hl => by
        have hl : ds.length = 2 := hl
        match ds, hl with
        | [_, _], _ => rfl)
      (of_decide_eq_true (by kernel_rfl))
      (ChangeSpec.witness6 (enc := enc) (C := Try.checked) false ⟨#[], #[.int .u8 0, .slice none 0 0], []⟩ 8 (by kernel_rfl) (by kernel_rfl) (by kernel_rfl) (by kernel_rfl))
      (fun W base args ds p g => by
        rw [Try.params4] at g
        obtain ⟨m0, e0, hm⟩ := g.u8 0 rfl Try.underlying5
        obtain ⟨a, n, c, xs, e1, hx⟩ := g.ops11 1 rfl
        rw [args2 g.count e0 e1]
        exact right11_walk W m0 (by omega) a n c xs hx))
end Go.Proofs.Ytdfpfgkfmjehiaa
