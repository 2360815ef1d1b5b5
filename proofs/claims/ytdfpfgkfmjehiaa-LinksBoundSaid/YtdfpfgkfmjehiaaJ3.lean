/-
  LinksBound holds: a link that is laid leaves at most as many as may be, and nothing but what was there, and the new one, whatever was done.
-/
import Derived.Test.YtdfpfgkfmjehiaaRows
import Derived.Test.YtdfpfgkfmjehiaaIl
namespace Go.Proofs.Ytdfpfgkfmjehiaa
open Go.ChangeShapes Go.WideShapes Go.ChangeAt Go.RowKit

set_option maxRecDepth 100000 in
set_option maxHeartbeats 12800000 in
theorem bound11_walk (w : World) (m : Nat) (hm : m ≤ 255) (a : Option Addr) (n c : Nat) (xs : List shOp11.T) (hx : Rd (· < w.heap.size) w shOps11 [.slice a n c] xs) (ia ib lev most : Int) (hmost : Hid (most ≤ 9223372036854775807)) :
    Calls Try.prog 6 #[.int .u8 (m : Int), .slice a n c, .int .i64 ia, .int .i64 ib, .int .i64 lev, .int .i64 most] w fun e w' => e = .returned (.bool true) ∧ Below w.heap.size w w' := by
  obtain ⟨mm, hmm⟩ : ∃ mm : Nat, (m : Int) % 2 = (mm : Int) := ⟨m % 2, by omega⟩
  have hm2 : mm ≤ 1 := by omega
  have HX := Lib.hid hx
  clear hx
  go_enter Try.func6, Try.ntmps6
  go_wp2_with (fail)
  refine (alive11 w).mono ?_
  rintro e w1 ⟨rfl, hb1⟩
  go_wp2_with (fail)
  refine (gnew_any w1 mm (by omega)).mono ?_
  rintro e w2 ⟨rfl, h2, hb2⟩
  have hs1 := hb1.size
  have hs2 := hb2.size
  obtain ⟨W3, hW3⟩ : ∃ W3, w2.alloc (.cells #[.int .i64 (mm : Int), .slice none 0 0] 30) = W3 := ⟨_, rfl⟩
  have hb3 : Below w2.heap.size w2 W3 := by rw [← hW3]; exact (Below.refl _ _).alloc (Nat.le_refl _) _
  have B3 := Lib.hid (below_on (below_on hb1 hb2) hb3)
  have CB := Lib.hid (built w w1 w2 W3 mm (by omega) h2 hs1 hs2 hW3 a n c xs (Rd.stay B3.out.size (fun q hq _ => B3.out.block q hq) (fun _ h _ => h) HX.out) 60 (by decide))
  clear h2 hb1 hb2 hb3
  go_wp2_with (first | (rw [hW3]) | fail)
  clear hW3
  refine CB.out.mono ?_
  rintro e w4 ⟨rfl, F, G, gv, hG, hB, hL, hMM⟩
  have HG := Lib.hid hG
  have B4 := Lib.hid (B3.out.trans hB)
  have HR := Lib.hid hG.code.right
  clear hG hB CB B3 HX
  have CA := Lib.hid (node_is HG.out.code ia)
  obtain ⟨th, hth⟩ : ∃ th, gv.thereB ia = th := ⟨_, rfl⟩
  rw [hth] at CA
  have HTH := Lib.hid hth
  have HGL := Lib.hid hL
  clear hth hL
  go_wp2_with (fail)
  refine CA.out.mono ?_
  rintro e w5 ⟨y, ap, cp, rfl, hy, hb5⟩
  unfold NodeL.six
  obtain ⟨w6, hw6⟩ : ∃ w6, w5.alloc (.cells #[.int .u32 (y.it.id : Int), .slice y.it.pv.1 y.it.pv.2.1 y.it.pv.2.2, .slice y.it.pt.1 y.it.pt.2.1 y.it.pt.2.2, .int .u64 (y.frm : Int), .int .u64 (y.til : Int), .slice ap y.links.length cp] 40) = w6 := ⟨_, rfl⟩
  have a6 : Below w5.heap.size w5 w6 := by rw [← hw6]; exact (Below.refl _ _).alloc (Nat.le_refl _) _
  obtain ⟨b1, hb1e⟩ : ∃ b1, w5.heap.size = b1 := ⟨_, rfl⟩
  have X6 := Lib.hid (show Blk w6 b1 40 [.int .u32 (y.it.id : Int), .slice y.it.pv.1 y.it.pv.2.1 y.it.pv.2.2, .slice y.it.pt.1 y.it.pt.2.1 y.it.pt.2.2, .int .u64 (y.frm : Int), .int .u64 (y.til : Int), .slice ap y.links.length cp] from by rw [← hw6, ← hb1e]; exact Blk.new _ _ _)
  have b46 := hb5.trans (a6.mono hb5.size)
  have G6 := Lib.hid (HG.out.code.on b46)
  have T6 := Lib.hid (hy.on a6)
  have B6 := Lib.hid (B4.out.trans (b46.mono B4.out.size))
  have HB1 := Lib.hid (show w4.heap.size ≤ b1 from by rw [← hb1e]; exact hb5.size)
  have CK := Lib.hid (link_is G6.out ia ib lev most hmost)
  obtain ⟨lk, hlk⟩ : ∃ lk, gv.linkB ia ib lev = lk := ⟨_, rfl⟩
  unfold LinkPost at CK
  rw [hlk] at CK
  have HLK := Lib.hid hlk
  have HFN := Lib.hid (show ∀ b ∈ F, b < w4.heap.size from fun b hb => (HG.out.code.lt b hb).2)
  clear hy hb5 a6 b46 CA hlk HG
  go_wp2_with (first | (rw [hw6]) | fail)
  clear hw6
  refine CK.out.mono ?_
  rintro e w7 ⟨rfl, F7, h7, k7, g7⟩
  have X7 := Lib.hid (k7.blk X6.out (fun hh => by have := HFN.out _ hh; have := HB1.out; omega))
  have T7 := Lib.hid (show Told gv ia w4.heap.size w7 y ap cp from ⟨own_node T6.out.own k7 (fun b hb => HFN.out b hb) (Nat.le_refl _), T6.out.toV, T6.out.cells⟩)
  have B7 := Lib.hid (B6.out.trans (k7.below (fun b hb => Nat.le_trans (by have := (G6.out.lt b hb).1; omega) (G6.out.lt b hb).1) B6.out.size))
  have G7 := Lib.hid h7
  have CB2 := Lib.hid (node_is h7 ia)
  have HR7 := Lib.hid h7.right
  have hb17 := X7.out.lt
  have HTH7 := Lib.hid (show (gv.link ia ib lev most).thereB ia = th from by
    have := HTH.out
    unfold GraphV.thereB at this ⊢
    rw [link_len]
    exact this)
  rw [HTH7.out] at CB2
  clear h7 k7 g7 X6 T6 B6 CK
  go_wp2_with (fail)
  refine CB2.out.mono ?_
  rintro e w8 ⟨z, zp, zc, rfl, hz, hb8⟩
  unfold NodeL.six
  obtain ⟨w9, hw9⟩ : ∃ w9, w8.alloc (.cells #[.int .u32 (z.it.id : Int), .slice z.it.pv.1 z.it.pv.2.1 z.it.pv.2.2, .slice z.it.pt.1 z.it.pt.2.1 z.it.pt.2.2, .int .u64 (z.frm : Int), .int .u64 (z.til : Int), .slice zp z.links.length zc] 40) = w9 := ⟨_, rfl⟩
  have a9 : Below w8.heap.size w8 w9 := by rw [← hw9]; exact (Below.refl _ _).alloc (Nat.le_refl _) _
  obtain ⟨b2, hb2e⟩ : ∃ b2, w8.heap.size = b2 := ⟨_, rfl⟩
  have Z9 := Lib.hid (show Blk w9 b2 40 [.int .u32 (z.it.id : Int), .slice z.it.pv.1 z.it.pv.2.1 z.it.pv.2.2, .slice z.it.pt.1 z.it.pt.2.1 z.it.pt.2.2, .int .u64 (z.frm : Int), .int .u64 (z.til : Int), .slice zp z.links.length zc] from by rw [← hw9, ← hb2e]; exact Blk.new _ _ _)
  have b79 := hb8.trans (a9.mono hb8.size)
  have X9 := Lib.hid ((Kept.of_below (F := []) b79 (Nat.le_refl _)).blk X7.out (by simp))
  have T9 := Lib.hid (T7.out.on b79)
  have U9 := Lib.hid (hz.on a9)
  have B9 := Lib.hid (B7.out.trans (b79.mono B7.out.size))
  obtain ⟨y0, y1, y2, y3, y4, y5, -⟩ := six_load _ _ _ _ _ _ _ _ _ X9.out
  obtain ⟨z0, z1, z2, z3, z4, z5, -⟩ := six_load _ _ _ _ _ _ _ _ _ Z9.out
  have hl1 := X9.out.lt
  have hl2 := Z9.out.lt
  clear hz hb8 a9 b79 X7 T7 B7 CB2
  cases lk with
  | false =>
    have CS := Lib.hid (samenode_any w9 y z (T9.out.reads HR.out (by have := HGL.out; omega)) (U9.out.reads HR7.out (by rw [link_len]; have := HGL.out; omega)) (by
      rw [T9.out.toV, U9.out.toV]
      have e : gv.link ia ib lev most = gv := by
        unfold GraphV.link
        rw [if_neg (by rw [HLK.out]; simp)]
      rw [e]))
    rw [T9.out.cells, U9.out.cells] at CS
    unfold NodeL.six at CS
    go_wp2_with (first | (rw [hw9]) | fail)
    clear hw9
    refine CS.out.mono ?_
    rintro e w10 ⟨rfl, hb10⟩
    have B10 := Lib.hid (B9.out.trans (hb10.mono B9.out.size))
    clear hb10
    go_wp2
    go_ret
    exact ⟨rfl, B10.out⟩
  | true =>
    have hlkb := HLK.out
    unfold GraphV.linkB at hlkb
    simp only [Bool.and_eq_true, Bool.not_eq_true', decide_eq_false_iff_not] at hlkb
    obtain ⟨⟨ha, hb⟩, hab⟩ := hlkb
    have hlv : 0 ≤ lev := by
      unfold GraphV.onB at ha
      exact (of_decide_eq_true ha).2.2.1
    obtain ⟨k, rfl⟩ : ∃ k : Nat, lev = (k : Int) := ⟨lev.toNat, by omega⟩
    obtain ⟨i, rfl, hi, hki⟩ := GraphV.on_nat ha
    obtain ⟨j, rfl, hj, hkj⟩ := GraphV.on_nat hb
    have hthb : th = true := by
      rw [← HTH.out]
      exact (nodeOr_at hi).1
    subst hthb
    have HE := Lib.hid (show gv.link (i : Int) (j : Int) (k : Int) most = gv.setLink i k (gv.linkL i j k most) from by
      unfold GraphV.link
      rw [if_pos HLK.out]
      simp only [Int.toNat_natCast])
    have hyk : k < y.links.length := by
      have h1 := (nodeOr_at hi).2
      rw [← T9.out.toV] at h1
      rw [GraphV.lv_some h1] at hki
      exact hki
    have hyl : y.links.getD k [] = gv.links i k := by
      have h1 := (nodeOr_at hi).2
      rw [← T9.out.toV] at h1
      rw [GraphV.links_some h1]
      rfl
    have hi7 : i < (gv.link (i : Int) (j : Int) (k : Int) most).L.length := by rw [link_len]; exact hi
    have hzv : (gv.link (i : Int) (j : Int) (k : Int) most).L[i]? = some z.toV := by
      have h1 := (nodeOr_at hi7).2
      rw [← U9.out.toV] at h1
      exact h1
    have hzk : k < z.links.length := by
      have h1 : (gv.link (i : Int) (j : Int) (k : Int) most).lv i = z.links.length := GraphV.lv_some hzv
      rw [HE.out, setLink_lv] at h1
      omega
    have hzl : z.links.getD k [] = gv.linkL i j k most := by
      have h1 : (gv.link (i : Int) (j : Int) (k : Int) most).links i k = z.links.getD k [] := GraphV.links_some hzv k
      rw [HE.out, setLink_links, if_pos ⟨rfl, rfl, hki⟩] at h1
      exact h1.symm
    obtain ⟨yb, ya, yn, yc, rfl, hybl, hyc, hyI, hynk, hyn⟩ := T9.out.list hyk
    obtain ⟨zb, za, zn, zc2, rfl, hzbl, hzc, hzI, hznk, hzn⟩ := U9.out.list hzk
    rw [hyl] at hyI hyn
    rw [hzl] at hzI hzn
    obtain ⟨NL, hNL⟩ : ∃ NL, gv.linkL i j k most = NL := ⟨_, rfl⟩
    obtain ⟨OL, hOL⟩ : ∃ OL, gv.links i k = OL := ⟨_, rfl⟩
    rw [hNL] at hzI hzn
    rw [hOL] at hyI hyn
    have HSUB := Lib.hid (show ∀ x ∈ NL, x ∈ OL ∨ x = j from by
      rw [← hNL, ← hOL]
      exact (linkL_is HR.out).2)
    have HBND := Lib.hid (show ((zn : Int) ≤ max 0 most) from by
      rw [hzn, ← hNL]
      exact linkL_len gv i j k most)
    obtain ⟨yl, hyle⟩ : ∃ yl, y.links.length = yl := ⟨_, rfl⟩
    obtain ⟨zl, hzle⟩ : ∃ zl, z.links.length = zl := ⟨_, rfl⟩
    rw [hyle] at y5 hyk
    rw [hzle] at z5 hzk
    have HYS := Lib.hid (show OL.length ≤ 100 ∧ ∀ x ∈ OL, x ≤ 100 from by
      rw [← hOL]
      have hh := HGL.out
      refine ⟨Nat.le_trans (nodup_le _ _ (HR.out.each i k) (fun y hy => links_lt HR.out hy)) hh, fun x hx => ?_⟩
      have := links_lt HR.out hx
      omega)
    have HZS := Lib.hid (show NL.length ≤ 101 ∧ ∀ x ∈ NL, x ≤ 100 from by
      have hh := HYS.out
      have hd : NL.Nodup := by rw [← hNL]; exact (linkL_is HR.out).1
      have hx : ∀ x ∈ NL, x < 101 := fun x hx => by
        rcases HSUB.out x hx with h | h
        · have := hh.2 x h
          omega
        · have := HGL.out
          omega
      exact ⟨nodup_le 101 NL hd hx, fun x h => by have := hx x h; omega⟩)
    have HSC := Lib.hid (fun (X : World) (hb : Below w9.heap.size w9 X) => show X.cell? ⟨b1, 5, none⟩ = some (.slice (some ⟨yb, 0, none⟩) yl cp) ∧ X.cell? ⟨b2, 5, none⟩ = some (.slice (some ⟨zb, 0, none⟩) zl zc) ∧ X.cell? ⟨yb, k, none⟩ = some (.slice ya yn yc) ∧ X.cell? ⟨zb, k, none⟩ = some (.slice za zn zc2) from
      ⟨(hb.cell (p := ⟨b1, 5, none⟩) hl1).trans y5, (hb.cell (p := ⟨b2, 5, none⟩) hl2).trans z5, (hb.cell (p := ⟨yb, k, none⟩) hybl).trans hyc, (hb.cell (p := ⟨zb, k, none⟩) hzbl).trans hzc⟩)
    have HZN := Lib.hid hzn
    have HYN := Lib.hid hyn
    have dlev : decide ((k : Int) < 0) = false := decide_eq_false (by omega)
    have dge : decide ((k : Int) ≥ (yl : Int)) = false := decide_eq_false (by omega)
    have dge2 : decide ((yl : Int) ≤ (k : Int)) = false := decide_eq_false (by omega)
    have dge3 : decide (yl ≤ k) = false := decide_eq_false (by omega)
    have hzn101 : zn ≤ 101 := by have := HZS.out.1; omega
    clear ha hb hab hlv hi hki hj hkj hyl hi7 hzv hzl hNL hOL hyle hzle y0 y1 y2 y3 y4 z0 z1 z2 z3 z4 hyn hzn hybl hzbl
    rcases (show most ≤ 0 ∨ 0 < most by omega) with hms | hms
    · have f0 : decide ((zn : Int) > 0) = false := decide_eq_false (by have := HBND.out; omega)
      have f1 : decide (0 < zn) = false := decide_eq_false (by have := HBND.out; omega)
      have f2 : decide ((0 : Int) < (zn : Int)) = false := decide_eq_false (by have := HBND.out; omega)
      have HMX := hms
      obtain ⟨s1, s2, s3, s4⟩ := HSC.out w9 (Below.refl _ _)
      have RY := Lib.hid (IntsAt.reads hyI.out (by rw [← HYN.out]; have := HYS.out.1; have := HYN.out; omega) (fun x hx => by have := HYS.out.2 x hx; omega))
      have RZ := Lib.hid (IntsAt.reads hzI.out (by have := HZS.out.1; omega) (fun x hx => by have := HZS.out.2 x hx; omega))
      have HZC := RZ.out.cells
      clear HMX y5 z5
      go_wp2_with (first | (rw [hw9]) | fail)
      clear hw9 s1 s2 s3 s4
      go_loopw [19] (fun s19 wr => ∃ i2 : Nat, i2 ≤ zn ∧ s19 = .int .i64 (i2 : Int) ∧ Hid (Below w9.heap.size w9 wr)) (fun s19 _ => zn - (intOf s19).toNat)
      case atStart => exact ⟨0, Nat.zero_le _, rfl, Below.refl _ _⟩
      case round =>
        obtain ⟨i2, hi2, rfl, HB⟩ := hrel
        obtain ⟨s1, s2, s3, s4⟩ := HSC.out wr HB.out
        have q1 := Nat.lt_of_lt_of_le hl1 HB.out.size
        have q2 := Nat.lt_of_lt_of_le hl2 HB.out.size
        by_cases hin : i2 < zn
        · rcases HZC with h0 | ⟨lb, lo3, rfl, hlb, hlc⟩
          · omega
          obtain ⟨t, ht⟩ : ∃ t, NL[i2]? = some t := ⟨_, List.getElem?_eq_getElem (by rw [← HZN.out]; exact hin)⟩
          have hc := (HB.out.cell (p := ⟨lb, lo3 + i2, none⟩) hlb).trans (hlc i2 hin)
          rw [natsI_getD ht] at hc
          have HTM := Lib.hid (HSUB.out t (List.mem_of_getElem? ht))
          have HRY := Lib.hid (RY.out.below (Nat.le_refl _) HB.out)
          by_cases htj : t = j
          · have d0 : ((t : Int) != (j : Int)) = false := by rw [htj]; simp
            have d1 : decide (t = j) = true := decide_eq_true htj
            have d2 : (!decide ((t : Int) = (j : Int))) = false := by rw [htj]; simp
            have d3 : (t != j) = false := by rw [htj]; simp
            clear htj ht
            go_wp2
            go_roundw
            case rel => exact ⟨i2 + 1, by omega, by go_num, HB.out⟩
            case measure => simp [intOf]; omega
          · have d0 : ((t : Int) != (j : Int)) = true := by rw [bne_iff_ne]; omega
            have d1 : decide (t = j) = false := decide_eq_false htj
            have d3 : (t != j) = true := by simpa using htj
            have CH := Lib.hid (rhas_any wr ya yn yc _ HRY.out (t : Int) true (decide_eq_true (mem_natsI.2 (HTM.out.resolve_right htj))))
            clear htj ht
            go_wp2_with (first
              | (go_at_call 14; refine CH.out.mono ?_; rintro e w' ⟨rfl, hb⟩; have BX := Lib.hid (HB.out.trans (hb.mono HB.out.size)); clear hb)
              | fail)
            go_roundw
            case rel => exact ⟨i2 + 1, by omega, by go_num, BX.out⟩
            case measure => simp [intOf]; omega
        · go_wp2
          go_ret
          exact ⟨rfl, B9.out.trans (HB.out.mono B9.out.size)⟩
    · have f0 : decide ((zn : Int) > most) = false := decide_eq_false (by have := HBND.out; omega)
      have f1 : decide (most < (zn : Int)) = false := decide_eq_false (by have := HBND.out; omega)
      have f2 : ¬ (most < (zn : Int)) := by have := HBND.out; omega
      have HMX := hms
      obtain ⟨s1, s2, s3, s4⟩ := HSC.out w9 (Below.refl _ _)
      have RY := Lib.hid (IntsAt.reads hyI.out (by rw [← HYN.out]; have := HYS.out.1; have := HYN.out; omega) (fun x hx => by have := HYS.out.2 x hx; omega))
      have RZ := Lib.hid (IntsAt.reads hzI.out (by have := HZS.out.1; omega) (fun x hx => by have := HZS.out.2 x hx; omega))
      have HZC := RZ.out.cells
      clear HMX y5 z5
      go_wp2_with (first | (rw [hw9]) | fail)
      clear hw9 s1 s2 s3 s4
      go_loopw [19] (fun s19 wr => ∃ i2 : Nat, i2 ≤ zn ∧ s19 = .int .i64 (i2 : Int) ∧ Hid (Below w9.heap.size w9 wr)) (fun s19 _ => zn - (intOf s19).toNat)
      case atStart => exact ⟨0, Nat.zero_le _, rfl, Below.refl _ _⟩
      case round =>
        obtain ⟨i2, hi2, rfl, HB⟩ := hrel
        obtain ⟨s1, s2, s3, s4⟩ := HSC.out wr HB.out
        have q1 := Nat.lt_of_lt_of_le hl1 HB.out.size
        have q2 := Nat.lt_of_lt_of_le hl2 HB.out.size
        by_cases hin : i2 < zn
        · rcases HZC with h0 | ⟨lb, lo3, rfl, hlb, hlc⟩
          · omega
          obtain ⟨t, ht⟩ : ∃ t, NL[i2]? = some t := ⟨_, List.getElem?_eq_getElem (by rw [← HZN.out]; exact hin)⟩
          have hc := (HB.out.cell (p := ⟨lb, lo3 + i2, none⟩) hlb).trans (hlc i2 hin)
          rw [natsI_getD ht] at hc
          have HTM := Lib.hid (HSUB.out t (List.mem_of_getElem? ht))
          have HRY := Lib.hid (RY.out.below (Nat.le_refl _) HB.out)
          by_cases htj : t = j
          · have d0 : ((t : Int) != (j : Int)) = false := by rw [htj]; simp
            have d1 : decide (t = j) = true := decide_eq_true htj
            have d2 : (!decide ((t : Int) = (j : Int))) = false := by rw [htj]; simp
            have d3 : (t != j) = false := by rw [htj]; simp
            clear htj ht
            go_wp2
            go_roundw
            case rel => exact ⟨i2 + 1, by omega, by go_num, HB.out⟩
            case measure => simp [intOf]; omega
          · have d0 : ((t : Int) != (j : Int)) = true := by rw [bne_iff_ne]; omega
            have d1 : decide (t = j) = false := decide_eq_false htj
            have d3 : (t != j) = true := by simpa using htj
            have CH := Lib.hid (rhas_any wr ya yn yc _ HRY.out (t : Int) true (decide_eq_true (mem_natsI.2 (HTM.out.resolve_right htj))))
            clear htj ht
            go_wp2_with (first
              | (go_at_call 14; refine CH.out.mono ?_; rintro e w' ⟨rfl, hb⟩; have BX := Lib.hid (HB.out.trans (hb.mono HB.out.size)); clear hb)
              | fail)
            go_roundw
            case rel => exact ⟨i2 + 1, by omega, by go_num, BX.out⟩
            case measure => simp [intOf]; omega
        · go_wp2
          go_ret
          exact ⟨rfl, B9.out.trans (HB.out.mono B9.out.size)⟩
theorem linksBound_row : Rows.LinksBoundSaid :=
  OpenClaim.holds_of_wide 6 Try.f6 rfl rfl rfl rfl rfl rfl rfl ⟨rfl, rfl, rfl, rfl, rfl⟩ rfl rfl rfl rfl rfl (by kernel_rfl) Try.func6 (by kernel_rfl)
    (of_decide_eq_true (by kernel_rfl)) (by unfold Func.isWrapper; rw [if_neg (of_decide_eq_false (by kernel_rfl))]; exact ⟨rfl, rfl⟩)
    (fun os started H enc _ => lift (C := Try.checked) (s := Rows.linksBoundSpec) (conds := Rows.linksBoundRow.domain) os started H enc prog_own (by kernel_rfl) Try.func6 prog_laid rfl Try.underlying4 rfl
      (fun ds hl => by
        have hl : ds.length = 6 := hl
        match ds, hl with
        | [_, _, _, _, _, _], _ => rfl)
      (of_decide_eq_true (by kernel_rfl))
      (ChangeSpec.witness6 (enc := enc) (C := Try.checked) false ⟨#[], #[.int .u8 0, .slice none 0 0, .int .i64 0, .int .i64 0, .int .i64 0, .int .i64 0], []⟩ 8 (by kernel_rfl) (by kernel_rfl) (by kernel_rfl) (by kernel_rfl))
      (fun W base args ds p g => by
        rw [Try.params6] at g
        obtain ⟨m0, e0, hm⟩ := g.u8 0 rfl Try.underlying5
        obtain ⟨a, n, c, xs, e1, hx⟩ := g.ops11 1 rfl
        obtain ⟨k2, e2, -, -⟩ := g.i64 2 rfl Try.underlying3
        obtain ⟨k3, e3, -, -⟩ := g.i64 3 rfl Try.underlying3
        obtain ⟨k4, e4, -, -⟩ := g.i64 4 rfl Try.underlying3
        obtain ⟨k5, e5, -, h5⟩ := g.i64 5 rfl Try.underlying3
        rw [args6_11 g.count e0 e1 e2 e3 e4 e5]
        exact bound11_walk W m0 (by omega) a n c xs hx k2 k3 k4 k5 h5))
end Go.Proofs.Ytdfpfgkfmjehiaa
